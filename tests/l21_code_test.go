package tests

import (
	"fmt"
	"math"
	"math/rand"
	"slices"
	"strings"
	"testing"

	"loop.example/teagle/impl"
)

type codeOp = impl.CodeOp

// codeTable is the document's table: how an op is written, by what it has; "" at 0, where there is no op.
var codeTable = []string{"", "push TREE KIND", "var LOCAL", "do PLAIN NAMES", "jump PLACE", "no PLACE", "none PLACE", "bind", "free", "loop SORT PLACE", "next PLACE", "emit", "send NAME VERSION", "fail WHY", "stop"}

// plainWords are the words of plain ops, with how many names each has; of a form it may be any number.
var plainWords = map[string]int{"some": 0, "one": 0, "add": 0, "sub": 0, "mul": 0, "div": 0, "rem": 0, "less": 0, "same": 0, "not": 0, "get": 1, "put": 1, "cut": 1, "form": -1, "at": 0, "size": 0, "join": 0, "part": 0, "show": 0, "read": 0}

func opWord(op int) string {
	if op < 1 || op >= len(opTable) {
		return ""
	}
	return strings.Fields(opTable[op])[0]
}

// plainOps are the plain ops by their numbers.
func plainOps() []int {
	var ops []int
	for op := range opTable {
		if _, is := plainWords[opWord(op)]; is {
			ops = append(ops, op)
		}
	}
	return ops
}

func inBounds(n, low, high int) bool { return low <= n && n <= high }

// codeWriter takes from an op what the table says, and writes it; what is left must be nothing.
type codeWriter struct {
	left  codeOp
	words []string
	ok    bool
}

func (w *codeWriter) number(low, high int) {
	w.ok = w.ok && inBounds(w.left.A, low, high)
	w.words = append(w.words, fmt.Sprint(w.left.A))
	w.left.A = 0
}

func (w *codeWriter) names(count int) {
	w.ok = w.ok && (count < 0 || len(w.left.Names) == count) && okNames(w.left.Names)
	w.words = append(w.words, w.left.Names...)
	w.left.Names = nil
}

func (w *codeWriter) kind() {
	w.ok = w.ok && okKind(w.left.Kind)
	if w.ok {
		w.words = append(w.words, textOf(w.left.Kind))
	}
	w.left.Kind = kind{}
}

func (w *codeWriter) take(what string, ops int) {
	switch what {
	case "TREE":
		w.ok = w.ok && okTree(w.left.Tree) && okKind(w.left.Kind) && isOf(w.left.Kind, w.left.Tree)
		if w.ok {
			w.words = append(w.words, impl.TreeWrite(w.left.Tree))
		}
		w.left.Tree = tree{}
	case "KIND":
		w.kind()
	case "LOCAL":
		w.number(0, 1000)
	case "PLACE":
		w.number(0, ops-1)
		if sort := w.words[1]; w.words[0] == "loop" && (sort == "map" || sort == "fold") {
			w.kind()
		}
	case "VERSION":
		w.number(1, 12)
	case "WHY":
		w.number(0, 99)
	case "SORT":
		w.ok = w.ok && inBounds(w.left.B, 1, 4)
		w.words = append(w.words, map[int]string{1: "map", 2: "keep", 3: "fold", 4: "each"}[w.left.B])
		w.left.B = 0
	case "PLAIN":
		count, is := plainWords[opWord(w.left.A)]
		w.ok = w.ok && is && !(count < 0 && slices.Contains(w.left.Names, "end"))
		w.words = append(w.words, opWord(w.left.A))
		w.left.A = 0
		w.names(count)
	case "NAME":
		w.names(1)
	case "NAMES":
	default:
		w.words = append(w.words, what)
	}
}

// toldOp is by itself how an op is written, and whether it is ok in code of so many.
func toldOp(op codeOp, ops int) (string, bool) {
	if op.Op < 1 || op.Op >= len(codeTable) {
		return "", false
	}
	w := codeWriter{left: op, ok: true}
	for _, what := range strings.Fields(codeTable[op.Op]) {
		w.take(what, ops)
	}
	left := w.left
	if left.A != 0 || left.B != 0 || len(left.Names) != 0 || !sameTree(left.Tree, tree{}) || !sameKind(left.Kind, kind{}) {
		w.ok = false
	}
	return strings.Join(w.words, " "), w.ok
}

func toldCode(ops []codeOp) (string, bool) {
	if len(ops) < 1 || len(ops) > 1000 {
		return "", false
	}
	shown := ""
	for i, op := range ops {
		line, ok := toldOp(op, len(ops))
		if !ok {
			return "", false
		}
		shown += fmt.Sprint(i) + " " + line + "\n"
	}
	return shown, true
}

// wantCode is P28: code is ok and shown like this, or, if this is empty, it is not ok and not shown. The tests themselves tell the same.
func wantCode(t *testing.T, what string, ops []codeOp, wanted string) {
	t.Helper()
	if shown := impl.CodeShow(ops); impl.CodeOk(ops) != (wanted != "") || shown != wanted {
		t.Errorf("%s: ok %v, shown %.300q, wanted %.300q", what, impl.CodeOk(ops), shown, wanted)
	}
	if told, ok := toldCode(ops); ok != (wanted != "") || told != wanted {
		t.Errorf("%s: the tests themselves tell %v %.300q, wanted %.300q", what, ok, told, wanted)
	}
	if lines := strings.Split(wanted, "\n"); wanted != "" && (len(lines) != len(ops)+1 || lines[len(ops)] != "") {
		t.Errorf("%s: %d lines of %d ops", what, len(lines)-1, len(ops))
	}
}

// wantOp: one op, behind and ahead of others, is written like this; if this is empty, the code is not ok by it alone.
func wantOp(t *testing.T, op codeOp, wanted string) {
	t.Helper()
	stop := codeOp{Op: impl.CodeStop}
	what := fmt.Sprintf("%.200s", fmt.Sprint(op))
	if wanted == "" {
		wantCode(t, what, []codeOp{op}, "")
		wantCode(t, what, []codeOp{op, stop, stop}, "")
		wantCode(t, what, []codeOp{stop, op, stop}, "")
		wantCode(t, what, []codeOp{stop, stop, op}, "")
		return
	}
	wantCode(t, what, []codeOp{op, stop, stop}, "0 "+wanted+"\n1 stop\n2 stop\n")
	wantCode(t, what, []codeOp{stop, op, stop}, "0 stop\n1 "+wanted+"\n2 stop\n")
	wantCode(t, what, []codeOp{stop, stop, op}, "0 stop\n1 stop\n2 "+wanted+"\n")
}

func push(t *testing.T, x, k string) codeOp {
	t.Helper()
	return codeOp{Op: impl.CodePush, Tree: readTree(t, x), Kind: readKind(t, k)}
}

func do(op int, names ...string) codeOp {
	return codeOp{Op: impl.CodeDo, A: op, Names: names}
}

func loop(t *testing.T, sort, place int, k string) codeOp {
	t.Helper()
	made := codeOp{Op: impl.CodeLoop, A: place, B: sort}
	if k != "" {
		made.Kind = readKind(t, k)
	}
	return made
}

// eachCodeOp is every op of the table with what it has, in code of three ops at least, and how it is written.
func eachCodeOp(t *testing.T) []struct {
	op      codeOp
	written string
} {
	t.Helper()
	type row = struct {
		op      codeOp
		written string
	}
	rows := []row{
		{push(t, "5", "num"), "push 5 num"}, {push(t, "-999999999", "num"), "push -999999999 num"}, {push(t, `"a b"`, "text"), `push "a b" text`}, {push(t, `""`, "text"), `push "" text`}, {push(t, "yes", "flag"), "push yes flag"}, {push(t, "no", "flag"), "push no flag"}, {push(t, "~", "?num"), "push ~ ?num"}, {push(t, "?4", "?num"), "push ?4 ?num"}, {push(t, "[]", "[{a:num}]"), "push [] [{a:num}]"}, {push(t, "[1,2]", "[num]"), "push [1,2] [num]"}, {push(t, "{}", "{}"), "push {} {}"}, {push(t, `{a:1,b:[?"x"]}`, "{a:num,b:[?text]}"), `push {a:1,b:[?"x"]} {a:num,b:[?text]}`},
		{codeOp{Op: impl.CodeVar}, "var 0"}, {codeOp{Op: impl.CodeVar, A: 7}, "var 7"},
		{codeOp{Op: impl.CodeJump, A: 2}, "jump 2"}, {codeOp{Op: impl.CodeNo, A: 1}, "no 1"}, {codeOp{Op: impl.CodeNone, A: 2}, "none 2"}, {codeOp{Op: impl.CodeNext, A: 1}, "next 1"},
		{codeOp{Op: impl.CodeBind}, "bind"}, {codeOp{Op: impl.CodeFree}, "free"}, {codeOp{Op: impl.CodeEmit}, "emit"}, {codeOp{Op: impl.CodeStop}, "stop"},
		{loop(t, impl.LoopMap, 2, "num"), "loop map 2 num"}, {loop(t, impl.LoopKeep, 1, ""), "loop keep 1"}, {loop(t, impl.LoopFold, 0, "[?{a:text}]"), "loop fold 0 [?{a:text}]"}, {loop(t, impl.LoopEach, 2, ""), "loop each 2"},
		{codeOp{Op: impl.CodeSend, A: 2, Names: []string{"paid"}}, "send paid 2"}, {codeOp{Op: impl.CodeSend, A: 12, Names: []string{"add"}}, "send add 12"},
		{codeOp{Op: impl.CodeFail, A: 42}, "fail 42"}, {codeOp{Op: impl.CodeFail}, "fail 0"},
		{do(impl.LiftSome), "do some"}, {do(impl.LiftOne), "do one"}, {do(impl.LiftAdd), "do add"}, {do(impl.LiftSub), "do sub"}, {do(impl.LiftMul), "do mul"}, {do(impl.LiftDiv), "do div"}, {do(impl.LiftRem), "do rem"}, {do(impl.LiftLess), "do less"}, {do(impl.LiftSame), "do same"}, {do(impl.LiftNot), "do not"},
		{do(impl.LiftGet, "a"), "do get a"}, {do(impl.LiftPut, "abcdefgh"), "do put abcdefgh"}, {do(impl.LiftCut, "end"), "do cut end"}, {do(impl.LiftForm), "do form"}, {do(impl.LiftForm, "a"), "do form a"}, {do(impl.LiftForm, "a", "b", "c"), "do form a b c"},
		{do(impl.LiftAt), "do at"}, {do(impl.LiftSize), "do size"}, {do(impl.LiftJoin), "do join"}, {do(impl.LiftPart), "do part"}, {do(impl.LiftShow), "do show"}, {do(impl.LiftRead), "do read"},
	}
	return rows
}

// P28: every op of the table, and every plain op, whose lines are known.
func TestCodeOfEachOp(t *testing.T) {
	seen, done := map[int]int{}, map[int]int{}
	var all []codeOp
	shown := ""
	for i, row := range eachCodeOp(t) {
		wantOp(t, row.op, row.written)
		seen[row.op.Op]++
		if row.op.Op == impl.CodeDo {
			done[row.op.A]++
		}
		all = append(all, row.op)
		shown += fmt.Sprintf("%d %s\n", i, row.written)
	}
	wantCode(t, "all ops", all, shown)
	for op := 1; op <= 14; op++ {
		if seen[op] == 0 {
			t.Errorf("no code has the op %d", op)
		}
	}
	if len(done) != 20 || len(plainOps()) != 20 {
		t.Errorf("%d plain ops of %d", len(done), len(plainOps()))
	}
	for _, op := range plainOps() {
		if done[op] == 0 {
			t.Errorf("no code does the op %d", op)
		}
	}
}

// P28: the document's example of code.
func TestCodeOfExample(t *testing.T) {
	v := func(a int) codeOp { return codeOp{Op: impl.CodeVar, A: a} }
	ops := []codeOp{v(0), do(impl.LiftGet, "n"), push(t, "0", "num"), do(impl.LiftLess), {Op: impl.CodeNo, A: 7}, {Op: impl.CodeFail, A: 7}, {Op: impl.CodeJump, A: 16}, v(0), do(impl.LiftGet, "l"), loop(t, impl.LoopEach, 16, ""), v(1), push(t, "1", "num"), do(impl.LiftAdd), do(impl.LiftForm, "n"), {Op: impl.CodeEmit}, {Op: impl.CodeNext, A: 10}, {Op: impl.CodeStop}}
	wantCode(t, "the example", ops, "0 var 0\n1 do get n\n2 push 0 num\n3 do less\n4 no 7\n5 fail 7\n6 jump 16\n7 var 0\n8 do get l\n9 loop each 16\n10 var 1\n11 push 1 num\n12 do add\n13 do form n\n14 emit\n15 next 10\n16 stop\n")
}

// P28: no op, one, as many as there may be, and one more.
func TestCodeLength(t *testing.T) {
	wantCode(t, "nothing", nil, "")
	wantCode(t, "an empty list", []codeOp{}, "")
	wantCode(t, "one", []codeOp{{Op: impl.CodeStop}}, "0 stop\n")
	for _, n := range []int{2, 10, 11, 100, 101, 999, 1000, 1001, 1002, 2000} {
		ops, shown := slices.Repeat([]codeOp{{Op: impl.CodeStop}}, n), ""
		for i := range n {
			shown += fmt.Sprintf("%d stop\n", i)
		}
		if n > 1000 {
			shown = ""
		}
		wantCode(t, fmt.Sprint(n, " ops"), ops, shown)
		// The last place is one of code as long as this.
		if n <= 1000 {
			ops[0] = codeOp{Op: impl.CodeJump, A: n - 1}
			wantCode(t, fmt.Sprint(n, " ops with a jump"), ops, fmt.Sprintf("0 jump %d\n", n-1)+strings.TrimPrefix(shown, "0 stop\n"))
			ops[0].A = n
			wantCode(t, fmt.Sprint(n, " ops with a jump too far"), ops, "")
		}
	}
}

// P28: places, locals, versions, numbers and sorts of loops at their bounds, and one beyond.
func TestCodeBounds(t *testing.T) {
	for _, far := range []int{math.MinInt, -1000, -1, 0, 1, 2, 3, 4, 1000, math.MaxInt} {
		is := far >= 0 && far < 3
		written := func(s string) string {
			if !is {
				return ""
			}
			return fmt.Sprintf(s, far)
		}
		wantOp3 := func(op codeOp, s string) {
			t.Helper()
			stop := codeOp{Op: impl.CodeStop}
			wanted := written("0 stop\n1 " + s + "\n2 stop\n")
			wantCode(t, s, []codeOp{stop, op, stop}, wanted)
		}
		for op, word := range map[int]string{impl.CodeJump: "jump", impl.CodeNo: "no", impl.CodeNone: "none", impl.CodeNext: "next"} {
			wantOp3(codeOp{Op: op, A: far}, word+" %d")
		}
		wantOp3(loop(t, impl.LoopMap, far, "num"), "loop map %d num")
		wantOp3(loop(t, impl.LoopKeep, far, ""), "loop keep %d")
		wantOp3(loop(t, impl.LoopFold, far, "num"), "loop fold %d num")
		wantOp3(loop(t, impl.LoopEach, far, ""), "loop each %d")
	}
	for _, row := range []struct {
		op        codeOp
		low, high int
		written   string
	}{
		{codeOp{Op: impl.CodeVar}, 0, impl.CodeMaxOps, "var %d"},
		{codeOp{Op: impl.CodeSend, Names: []string{"t"}}, 1, impl.EventMaxVersion, "send t %d"},
		{codeOp{Op: impl.CodeFail}, 0, impl.LiftMaxWhy, "fail %d"},
	} {
		for _, a := range []int{math.MinInt, -1, row.low - 1, row.low, row.low + 1, row.high - 1, row.high, row.high + 1, row.high + 2, 1 << 32, math.MaxInt} {
			row.op.A = a
			if a < row.low || a > row.high {
				wantOp(t, row.op, "")
			} else {
				wantOp(t, row.op, fmt.Sprintf(row.written, a))
			}
		}
	}
	for _, sort := range []int{math.MinInt, -1, 0, 5, 6, 257, math.MaxInt} {
		wantOp(t, loop(t, sort, 0, ""), "")
		wantOp(t, loop(t, sort, 0, "num"), "")
	}
	for _, op := range []int{math.MinInt, -1, 0, 15, 16, 257, math.MaxInt} {
		wantOp(t, codeOp{Op: op}, "")
		wantOp(t, codeOp{Op: op, A: 1}, "")
	}
	if impl.CodeMaxOps != 1000 {
		t.Error("CodeMaxOps")
	}
}

// P28: what may be done: a plain op, and nothing else.
func TestCodeDoes(t *testing.T) {
	for op := -2; op <= 46; op++ {
		count, plain := plainWords[opWord(op)]
		for names := range 4 {
			wanted := ""
			if plain && (count < 0 || count == names) {
				wanted = strings.TrimSpace("do " + opWord(op) + " " + strings.Join([]string{"a", "b", "c"}[:names], " "))
			}
			wantOp(t, do(op, []string{"a", "b", "c"}[:names]...), wanted)
		}
	}
	for _, op := range []int{impl.LiftNum, impl.LiftText, impl.LiftFlag, impl.LiftName, impl.LiftNone, impl.LiftEmpty, impl.LiftAnd, impl.LiftOr, impl.LiftIf, impl.LiftLet, impl.LiftElse, impl.LiftCase, impl.LiftMap, impl.LiftKeep, impl.LiftFold, impl.LiftDrop, impl.LiftFail, impl.LiftEmit, impl.LiftSend, impl.LiftBoth, impl.LiftChoose, impl.LiftTake, impl.LiftEach, 0, 44, -1, 100, math.MaxInt, math.MinInt, 256 + impl.LiftAdd} {
		wantOp(t, do(op), "")
		wantOp(t, do(op, "a"), "")
		wantOp(t, do(op, "a", "b"), "")
	}
}

// P28: names of forms, fields and events.
func TestCodeNames(t *testing.T) {
	for _, row := range []struct {
		names string
		ok    bool
	}{
		{"", true}, {"a", true}, {"a b", true}, {"a a0 aa ab b", true}, {"abcdefgh", true}, {"add get yes", true}, {"x0 x1", true}, {"en ene enda", false}, {"en enda ene", true}, {"z0 z1 z9 za", true},
		{"b a", false}, {"a a", false}, {"a b b", false}, {"a c b", false}, {"aa a", false}, {"a0 a", false}, {"end", false}, {"a end", false}, {"end f", false}, {"a end f", false}, {"d e end", false},
		{"A", false}, {"1a", false}, {"a_b", false}, {"ninebytes", false}, {"é", false}, {"a B", false}, {"a a-", false}, {"9", false},
	} {
		names := strings.Fields(row.names)
		wanted := ""
		if row.ok {
			wanted = strings.TrimSpace("do form " + row.names)
		}
		wantOp(t, do(impl.LiftForm, names...), wanted)
	}
	for _, name := range []string{"", "A", "1a", "a b", "a-", "ninebytes", "é", "a\x00", " a", "a_b", "a\n", "\xff", "0"} {
		for _, op := range []int{impl.LiftGet, impl.LiftPut, impl.LiftCut, impl.LiftForm} {
			wantOp(t, do(op, name), "")
		}
		wantOp(t, do(impl.LiftForm, "a", name), "")
		wantOp(t, do(impl.LiftForm, name, "zz"), "")
		wantOp(t, codeOp{Op: impl.CodeSend, A: 1, Names: []string{name}}, "")
	}
	for _, name := range []string{"a", "abcdefgh", "a1234567", "add", "yes", "no", "drop", "old", "end", "num"} {
		for op, word := range map[int]string{impl.LiftGet: "get", impl.LiftPut: "put", impl.LiftCut: "cut"} {
			wantOp(t, do(op, name), "do "+word+" "+name)
		}
		wantOp(t, codeOp{Op: impl.CodeSend, A: 1, Names: []string{name}}, "send "+name+" 1")
	}
	// As many names of a form as are there, and more than any tree can have.
	var names []string
	for i := range 500 {
		names = append(names, fmt.Sprintf("n%03d", i))
	}
	wantOp(t, do(impl.LiftForm, names...), "do form "+strings.Join(names, " "))
	slices.Reverse(names)
	wantOp(t, do(impl.LiftForm, names...), "")
}

// P28: trees and schemas that are just ok, and such that are not.
func TestCodeTrees(t *testing.T) {
	pushed := func(x tree, k kind) codeOp { return codeOp{Op: impl.CodePush, Tree: x, Kind: k} }
	full, rows := list(append(repeat(list(repeat(num(1), 5)...), 19), list(repeat(num(1), 4)...))...), kList(kList(kNum))
	over := list(repeat(list(repeat(num(1), 5)...), 20)...)
	if parts(full) != 120 || parts(over) != 121 {
		t.Fatalf("%d and %d parts", parts(full), parts(over))
	}
	for _, c := range []struct {
		x  tree
		k  kind
		ok bool
	}{
		{full, rows, true}, {over, rows, false}, {num(999999999), kNum, true}, {num(1000000000), kNum, false}, {num(-999999999), kNum, true}, {num(-1000000000), kNum, false},
		{text(strings.Repeat("q", 60)), kText, true}, {text(strings.Repeat("q", 61)), kText, false}, {text("\""), kText, false}, {text("\n"), kText, false}, {text("~ "), kText, true}, {flag(1), kFlag, true}, {flag(2), kFlag, false}, {flag(-1), kFlag, false},
		{list(repeat(num(1), 20)...), kList(kNum), true}, {list(repeat(num(1), 21)...), kList(kNum), false}, {within(num(1), 5), kWithin(kNum, 5, kMaybe), true}, {within(num(1), 6), kWithin(kNum, 6, kMaybe), false}, {within(maybe(), 5), kWithin(kNum, 5, kMaybe), false}, {within(maybe(), 4), kWithin(kNum, 5, kMaybe), true},
		{fields(39, num(0)), kFields(39, kNum), true}, {fields(40, num(0)), kFields(40, kNum), false}, {list(), kList(kFields(38, kNum)), true}, {list(), kList(kFields(39, kNum)), false}, {maybe(), kWithin(kNum, 6, kMaybe), false},
	} {
		wanted := ""
		if c.ok {
			wanted = "push " + impl.TreeWrite(c.x) + " " + textOf(c.k)
		}
		wantOp(t, pushed(c.x, c.k), wanted)
	}
	// A tree that is ok, but not of its schema.
	for _, row := range [][2]string{{"5", "text"}, {"5", "flag"}, {"5", "?num"}, {"?5", "num"}, {"5", "[num]"}, {`"5"`, "num"}, {"yes", "num"}, {"[1]", "[text]"}, {"[1]", "num"}, {"[]", "?num"}, {"~", "[num]"}, {"~", "num"}, {"?5", "??num"}, {"{}", "{a:num}"}, {"{a:1}", "{}"}, {"{a:1}", "{b:num}"}, {"{a:1}", "{a:text}"}, {"{a:1,b:2}", "{a:num}"}, {"{a:~}", "{a:num}"}, {`[1,"q"]`, "[num]"}} {
		wantOp(t, push(t, row[0], row[1]), "")
	}
	for what, x := range badTrees() {
		for _, k := range []kind{kNum, kText, kFlag, kList(kNum), kMaybe(kNum), kForm("a", kNum), kForm("")} {
			if impl.CodeOk([]codeOp{pushed(x, k)}) {
				t.Errorf("%s is pushed", what)
			}
			wantOp(t, pushed(x, k), "")
		}
	}
	for _, k := range badKinds() {
		for _, x := range []tree{num(0), text(""), flag(0), list(), maybe(), form(""), {}} {
			wantOp(t, pushed(x, k), "")
		}
		for _, sort := range []int{impl.LoopMap, impl.LoopKeep, impl.LoopFold, impl.LoopEach} {
			op := codeOp{Op: impl.CodeLoop, B: sort, Kind: k}
			line, ok := toldOp(op, 3)
			if ok && !sameKind(k, kind{}) {
				t.Errorf("the tests themselves tell %q", line)
			}
			if !ok {
				line = ""
			}
			wantOp(t, op, line)
		}
	}
	// Schemas of loops.
	for _, k := range []kind{kFields(39, kNum), kWithin(kNum, 5, kList), kList(kFields(38, kNum)), kForm("")} {
		wantOp(t, codeOp{Op: impl.CodeLoop, B: impl.LoopMap, Kind: k}, "loop map 0 "+textOf(k))
		wantOp(t, codeOp{Op: impl.CodeLoop, B: impl.LoopFold, Kind: k}, "loop fold 0 "+textOf(k))
		wantOp(t, codeOp{Op: impl.CodeLoop, B: impl.LoopKeep, Kind: k}, "")
		wantOp(t, codeOp{Op: impl.CodeLoop, B: impl.LoopEach, Kind: k}, "")
	}
	for _, k := range []kind{kFields(40, kNum), kWithin(kNum, 6, kList), kList(kFields(39, kNum)), {}} {
		wantOp(t, codeOp{Op: impl.CodeLoop, B: impl.LoopMap, Kind: k}, "")
		wantOp(t, codeOp{Op: impl.CodeLoop, B: impl.LoopFold, Kind: k}, "")
	}
}

// moreOf are ops with one thing more, or other, than an op has.
func moreOf(op codeOp) map[string]codeOp {
	more := map[string]codeOp{}
	put := func(what string, change func(*codeOp)) {
		other := op
		change(&other)
		more[what] = other
	}
	put("a number", func(o *codeOp) { o.A = 1 })
	put("a number below 0", func(o *codeOp) { o.A = -1 })
	put("a B", func(o *codeOp) { o.B = 1 })
	put("a B of 2", func(o *codeOp) { o.B = 2 })
	put("a B below 0", func(o *codeOp) { o.B = -1 })
	put("a name", func(o *codeOp) { o.Names = append(slices.Clip(o.Names), "zz") })
	put("an empty name", func(o *codeOp) { o.Names = append(slices.Clip(o.Names), "") })
	put("a tree", func(o *codeOp) { o.Tree = num(5) })
	put("a tree's sort", func(o *codeOp) { o.Tree = tree{Sort: 9} })
	put("a tree's number", func(o *codeOp) { o.Tree = tree{Num: 1} })
	put("a tree's text", func(o *codeOp) { o.Tree = tree{Text: "q"} })
	put("a tree's name", func(o *codeOp) { o.Tree = tree{Names: []string{""}} })
	put("a tree's kid", func(o *codeOp) { o.Tree = tree{Kids: []tree{{}}} })
	put("a schema", func(o *codeOp) { o.Kind = kNum })
	put("a schema's sort", func(o *codeOp) { o.Kind = kind{Sort: -1} })
	put("a schema's name", func(o *codeOp) { o.Kind = kind{Names: []string{""}} })
	put("a schema's kid", func(o *codeOp) { o.Kind = kind{Kids: []kind{{}}} })
	put("no number", func(o *codeOp) { o.A = 0 })
	put("no B", func(o *codeOp) { o.B = 0 })
	put("no names", func(o *codeOp) { o.Names = nil })
	put("no tree", func(o *codeOp) { o.Tree = tree{} })
	put("no schema", func(o *codeOp) { o.Kind = kind{} })
	return more
}

// P28: each op with one thing more than the table gives it, and with one thing less.
func TestCodeMoreOrLess(t *testing.T) {
	bad := map[int]int{}
	for _, row := range eachCodeOp(t) {
		for _, op := range moreOf(row.op) {
			line, ok := toldOp(op, 3)
			if !ok {
				line = ""
				bad[op.Op]++
			}
			wantOp(t, op, line)
		}
	}
	for op := 1; op <= 14; op++ {
		if bad[op] < 8 {
			t.Errorf("the op %d is spoilt %d times", op, bad[op])
		}
	}
	// Told one by one.
	paid := []string{"paid"}
	for _, op := range []codeOp{
		{Op: impl.CodePush}, {Op: impl.CodePush, Tree: num(5)}, {Op: impl.CodePush, Kind: kNum}, {Op: impl.CodePush, Tree: num(5), Kind: kNum, A: 1}, {Op: impl.CodePush, Tree: num(5), Kind: kNum, B: 1}, {Op: impl.CodePush, Tree: num(5), Kind: kNum, Names: paid},
		{Op: impl.CodeVar, B: 1}, {Op: impl.CodeVar, Names: paid}, {Op: impl.CodeVar, Tree: num(0)}, {Op: impl.CodeVar, Kind: kNum},
		{Op: impl.CodeDo}, {Op: impl.CodeDo, A: impl.LiftAdd, B: 1}, {Op: impl.CodeDo, A: impl.LiftAdd, Names: paid}, {Op: impl.CodeDo, A: impl.LiftAdd, Tree: num(1)}, {Op: impl.CodeDo, A: impl.LiftAdd, Kind: kNum}, {Op: impl.CodeDo, A: impl.LiftGet}, {Op: impl.CodeDo, A: impl.LiftPut}, {Op: impl.CodeDo, A: impl.LiftCut}, {Op: impl.CodeDo, Names: paid}, {Op: impl.CodeDo, A: impl.LiftForm, Kind: kForm("")}, {Op: impl.CodeDo, A: impl.LiftGet, Names: []string{"a", "b"}},
		{Op: impl.CodeJump, B: 1}, {Op: impl.CodeJump, Names: paid}, {Op: impl.CodeJump, Tree: num(1)}, {Op: impl.CodeJump, Kind: kNum}, {Op: impl.CodeNo, B: 1}, {Op: impl.CodeNo, Kind: kFlag}, {Op: impl.CodeNone, B: 1}, {Op: impl.CodeNone, Kind: kNum}, {Op: impl.CodeNone, Tree: maybe()},
		{Op: impl.CodeBind, A: 1}, {Op: impl.CodeBind, B: 1}, {Op: impl.CodeBind, Names: []string{"x"}}, {Op: impl.CodeBind, Tree: num(1)}, {Op: impl.CodeBind, Kind: kNum}, {Op: impl.CodeFree, A: 1}, {Op: impl.CodeFree, B: 1}, {Op: impl.CodeFree, Names: []string{"x"}}, {Op: impl.CodeFree, Tree: flag(0)}, {Op: impl.CodeFree, Kind: kNum},
		{Op: impl.CodeLoop}, {Op: impl.CodeLoop, B: impl.LoopMap}, {Op: impl.CodeLoop, B: impl.LoopFold}, {Op: impl.CodeLoop, B: impl.LoopKeep, Kind: kNum}, {Op: impl.CodeLoop, B: impl.LoopEach, Kind: kNum}, {Op: impl.CodeLoop, Kind: kNum}, {Op: impl.CodeLoop, B: impl.LoopMap, Kind: kNum, Names: []string{"x"}}, {Op: impl.CodeLoop, B: impl.LoopMap, Kind: kNum, Tree: list()}, {Op: impl.CodeLoop, B: impl.LoopKeep, Names: []string{"x"}}, {Op: impl.CodeLoop, B: impl.LoopEach, Tree: list()},
		{Op: impl.CodeNext, B: 1}, {Op: impl.CodeNext, Names: paid}, {Op: impl.CodeNext, Kind: kNum}, {Op: impl.CodeEmit, A: 1}, {Op: impl.CodeEmit, B: 1}, {Op: impl.CodeEmit, Names: paid}, {Op: impl.CodeEmit, Tree: form("")}, {Op: impl.CodeEmit, Kind: kForm("")},
		{Op: impl.CodeSend}, {Op: impl.CodeSend, A: 1}, {Op: impl.CodeSend, Names: paid}, {Op: impl.CodeSend, A: 1, Names: []string{"a", "b"}}, {Op: impl.CodeSend, A: 1, B: 1, Names: paid}, {Op: impl.CodeSend, A: 1, Names: paid, Kind: kForm("")}, {Op: impl.CodeSend, A: 1, Names: paid, Tree: form("")},
		{Op: impl.CodeFail, B: 1}, {Op: impl.CodeFail, Names: paid}, {Op: impl.CodeFail, Tree: num(1)}, {Op: impl.CodeFail, Kind: kNum}, {Op: impl.CodeStop, A: 1}, {Op: impl.CodeStop, B: 1}, {Op: impl.CodeStop, Names: paid}, {Op: impl.CodeStop, Tree: num(1)}, {Op: impl.CodeStop, Kind: kNum}, {},
	} {
		wantOp(t, op, "")
	}
}

// P28: one op that is not ok among many that are, wherever it stands.
func TestCodeOneAmongMany(t *testing.T) {
	good := eachCodeOp(t)
	for _, n := range []int{5, 100, 1000} {
		ops := make([]codeOp, n)
		for i := range ops {
			ops[i] = good[i%len(good)].op
		}
		shown, ok := toldCode(ops)
		if !ok {
			t.Fatal("the ops are not ok")
		}
		wantCode(t, "many", ops, shown)
		for _, at := range []int{0, 1, n / 2, n - 2, n - 1} {
			for _, bad := range []codeOp{{}, {Op: 15}, {Op: impl.CodeStop, B: 1}, {Op: impl.CodeJump, A: n}, {Op: impl.CodeVar, A: -1}, do(impl.LiftIf)} {
				kept := ops[at]
				ops[at] = bad
				wantCode(t, fmt.Sprint(bad, " at ", at), ops, "")
				ops[at] = kept
			}
		}
	}
}

// anyOp is an op by chance, often one that is ok.
func anyOp(r *rand.Rand, good []codeOp, ops int) codeOp {
	op := good[r.Intn(len(good))]
	switch op.Op {
	case impl.CodeJump, impl.CodeNo, impl.CodeNone, impl.CodeNext, impl.CodeLoop:
		op.A = r.Intn(ops)
		if r.Intn(20) == 0 {
			op.A = ops
		}
	case impl.CodePush:
		if k := anyKind(r, 1+r.Intn(4)); okKind(k) {
			op.Tree, op.Kind = bodyOf(r, k), k
		}
		if r.Intn(10) == 0 {
			op.Tree = nudge(r, op.Tree)
		}
	case impl.CodeVar:
		op.A = r.Intn(1002)
	}
	if r.Intn(40) == 0 {
		more := moreOf(op)
		keys := []string{}
		for what := range more {
			keys = append(keys, what)
		}
		slices.Sort(keys)
		op = more[keys[r.Intn(len(keys))]]
	}
	if r.Intn(60) == 0 {
		op.Op = r.Intn(17) - 1
	}
	return op
}

// P28: much code by chance, held against the table of the document as it is told here.
func TestCodeMany(t *testing.T) {
	r := rand.New(rand.NewSource(26))
	var good []codeOp
	for _, row := range eachCodeOp(t) {
		good = append(good, row.op)
	}
	fine, not := 0, 0
	for range 20000 {
		ops := make([]codeOp, 1+r.Intn(12))
		for i := range ops {
			ops[i] = anyOp(r, good, len(ops))
		}
		shown, ok := toldCode(ops)
		if impl.CodeOk(ops) != ok || impl.CodeShow(ops) != shown {
			t.Fatalf("%v: %v %q, but the tests tell %v %q", ops, impl.CodeOk(ops), impl.CodeShow(ops), ok, shown)
		}
		if ok {
			fine++
		} else {
			not++
		}
	}
	if fine < 4000 || not < 4000 {
		t.Errorf("%d are ok, %d not: too few to tell anything", fine, not)
	}
}

// Every function answers at every argument: at trees and schemas that hold themselves, and at code far too long.
func TestCodeWithoutEnd(t *testing.T) {
	trees, kinds := make([]tree, 1), make([]kind, 1)
	trees[0], kinds[0] = tree{Sort: impl.TreeList, Kids: trees}, kind{Sort: impl.TreeList, Kids: kinds}
	names := make([]string, 1000000)
	for _, op := range []codeOp{
		{Op: impl.CodePush, Tree: trees[0], Kind: kinds[0]}, {Op: impl.CodePush, Tree: trees[0], Kind: kList(kNum)}, {Op: impl.CodePush, Tree: list(), Kind: kinds[0]}, {Op: impl.CodeStop, Tree: trees[0]}, {Op: impl.CodeStop, Kind: kinds[0]}, {Op: impl.CodeStop, Names: names}, {Op: impl.CodeStop, Tree: list(make([]tree, 1000000)...)},
		{Op: impl.CodeLoop, B: impl.LoopMap, Kind: kinds[0]}, {Op: impl.CodeLoop, B: impl.LoopEach, Kind: kinds[0]}, {Op: impl.CodeDo, A: impl.LiftForm, Names: names}, {Op: impl.CodeDo, A: impl.LiftGet, Names: names}, {Op: impl.CodeSend, A: 1, Names: names}, {Op: impl.CodePush, Tree: list(make([]tree, 1000000)...), Kind: kList(kNum)}, {Op: impl.CodeDo, A: impl.LiftGet, Names: []string{strings.Repeat("a", 1000000)}},
	} {
		for _, ops := range [][]codeOp{{op}, {{Op: impl.CodeStop}, op}} {
			if impl.CodeOk(ops) || impl.CodeShow(ops) != "" {
				t.Errorf("the op %d without end is ok", op.Op)
			}
		}
	}
	if long := make([]codeOp, 3000000); impl.CodeOk(long) || impl.CodeShow(long) != "" {
		t.Error("code far too long is ok")
	}
}

// The empty list and the nil list are the same value.
func TestCodeEmptyAndNil(t *testing.T) {
	for _, row := range eachCodeOp(t) {
		op := row.op
		if len(op.Names) == 0 {
			op.Names = []string{}
		}
		if len(op.Tree.Kids) == 0 {
			op.Tree.Kids, op.Tree.Names = []tree{}, []string{}
		}
		if len(op.Kind.Kids) == 0 {
			op.Kind.Kids, op.Kind.Names = []kind{}, []string{}
		}
		wantOp(t, op, row.written)
	}
}

// Nothing is written into an argument or behind its end, and what is shown is new.
func TestCodeArgumentsStay(t *testing.T) {
	var ops, before []codeOp
	for _, row := range eachCodeOp(t) {
		op, kept := row.op, row.op
		kept.Names, kept.Tree, kept.Kind = slices.Clone(op.Names), copyTree(op.Tree), copyKind(op.Kind)
		op.Tree, op.Kind = spareTree(op.Tree), spareKind(op.Kind)
		op.Names = append(append(make([]string, 0, 9), op.Names...), "spare")[:len(op.Names)]
		ops, before = append(ops, op), append(before, kept)
	}
	shown := impl.CodeShow(ops)
	if !impl.CodeOk(ops) || shown != impl.CodeShow(before) {
		t.Errorf("%q", shown)
	}
	for i, op := range ops {
		if op.Op != before[i].Op || op.A != before[i].A || op.B != before[i].B || !slices.Equal(op.Names, before[i].Names) || !sameTree(op.Tree, before[i].Tree) || !sameKind(op.Kind, before[i].Kind) || op.Names[:len(op.Names)+1][len(op.Names)] != "spare" {
			t.Errorf("%v has become %v", before[i], op)
		}
		wantSpareTree(t, "a tree of code", op.Tree)
		wantSpareKind(t, "a schema of code", op.Kind)
	}
	one := []codeOp{do(impl.LiftForm, strings.Clone("longname"))}
	if s := impl.CodeShow(one); lies(s, one[0].Names[0]) || s != "0 do form longname\n" {
		t.Errorf("%q", s)
	}
}
