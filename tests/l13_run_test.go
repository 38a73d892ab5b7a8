package tests

import (
	"fmt"
	"math"
	"math/big"
	"math/rand"
	"slices"
	"strconv"
	"strings"
	"testing"

	"loop.example/teagle/impl"
)

type liftBound = impl.LiftBound

type liftOut = impl.LiftOut

func aBound(name string, x tree) liftBound { return liftBound{Name: name, Tree: x} }

type liftDone = impl.LiftDone

// doer does nodes as the document tells, by the tables of the tests; once a code is there, nothing more is done.
type doer struct {
	code, why int
	outs      []liftOut
}

func (d *doer) stop(code int) tree {
	if d.code == 0 {
		d.code = code
	}
	return tree{}
}

// fine is a tree that was made, if it is ok.
func (d *doer) fine(x tree) tree {
	if d.code == 0 && !okTree(x) {
		return d.stop(4)
	}
	return x
}

var sortWords = map[int]string{1: "num", 2: "text", 3: "flag", 4: "list", 5: "form", 6: "maybe"}

// kid does a kid, and looks at it right behind that.
func (d *doer) kid(n node, place int, bound []liftBound, ahead ...tree) tree {
	x := d.value(n.Kids[place], bound)
	if d.code != 0 || n.Op == impl.LiftForm {
		return x
	}
	wants, _, _ := strings.Cut(kidTable[n.Op], ">")
	switch word := strings.Fields(wants)[place]; {
	case word == "=sink" && x.Sort != 5:
		return d.stop(6)
	case word == "=1" && n.Op != impl.LiftSame && x.Sort != ahead[0].Sort:
		return d.stop(6)
	case word != "any" && word[0] != '=' && !slices.Contains(strings.Split(word, "|"), sortWords[x.Sort]):
		return d.stop(6)
	}
	return x
}

func bindTree(bound []liftBound, name string, x tree) []liftBound {
	return append(slices.Clip(bound), liftBound{Name: name, Tree: x})
}

func (d *doer) name(name string, bound []liftBound) tree {
	for _, b := range slices.Backward(bound) {
		if b.Name == name {
			return b.Tree
		}
	}
	return d.stop(6)
}

func (d *doer) value(n node, bound []liftBound) tree {
	if d.code != 0 {
		return tree{}
	}
	switch word := strings.Fields(opTable[n.Op])[0]; word {
	case "NUMBER":
		return num(n.Num)
	case "QUOTED":
		return text(n.Text)
	case "FLAG":
		return flag(n.Num)
	case "X":
		return d.name(n.Names[0], bound)
	case "none":
		return maybe()
	case "empty":
		return list()
	case "and", "or", "if", "let", "else", "case":
		return d.chosen(word, n, bound, d.kid(n, 0, bound))
	case "map", "keep", "fold":
		return d.through(word, n, bound, d.kid(n, 0, bound))
	}
	var kids []tree
	for place := range n.Kids {
		kids = append(kids, d.kid(n, place, bound, kids...))
	}
	if d.code != 0 {
		return tree{}
	}
	return d.made(n, kids)
}

// chosen does those of the later kids that are meant, behind the first.
func (d *doer) chosen(word string, n node, bound []liftBound, first tree) tree {
	if d.code != 0 {
		return tree{}
	}
	switch {
	case word == "and" && first.Num == 0, word == "or" && first.Num == 1:
		return first
	case word == "else" && len(first.Kids) == 1:
		return first.Kids[0]
	case word == "if" && first.Num == 0, word == "case" && len(first.Kids) == 0:
		return d.kid(n, 2, bound)
	case word == "case":
		return d.kid(n, 1, bindTree(bound, n.Names[0], first.Kids[0]))
	case word == "let":
		return d.kid(n, 1, bindTree(bound, n.Names[0], first))
	}
	return d.kid(n, 1, bound)
}

// through goes through a list.
func (d *doer) through(word string, n node, bound []liftBound, elements tree) tree {
	if d.code != 0 {
		return tree{}
	}
	if word == "fold" {
		sum := d.kid(n, 1, bound)
		for _, x := range elements.Kids {
			sum = d.kid(n, 2, bindTree(bindTree(bound, n.Names[0], sum), n.Names[1], x))
		}
		return sum
	}
	made := list()
	for _, x := range elements.Kids {
		y := d.kid(n, 1, bindTree(bound, n.Names[0], x))
		if word == "map" {
			made.Kids = append(made.Kids, y)
		} else if y.Num == 1 {
			made.Kids = append(made.Kids, x)
		}
	}
	return d.fine(made)
}

// made is what a plain op means, its kids being of the sorts that are wanted.
func (d *doer) made(n node, kids []tree) tree {
	yes := map[bool]tree{true: flag(1), false: flag(0)}
	switch word := strings.Fields(opTable[n.Op])[0]; word {
	case "some":
		return d.fine(maybe(kids[0]))
	case "one":
		return d.fine(list(kids[0]))
	case "less":
		if kids[0].Sort == 2 {
			return yes[strings.Compare(kids[0].Text, kids[1].Text) < 0]
		}
		return yes[kids[0].Num < kids[1].Num]
	case "same":
		return yes[sameTree(kids[0], kids[1])]
	case "not":
		return flag(1 - kids[0].Num)
	case "form":
		return d.fine(tree{Sort: 5, Names: n.Names, Kids: kids})
	case "get", "put", "cut":
		return d.field(word, n.Names[0], kids)
	case "at":
		if at := kids[1].Num; at >= 0 && at < len(kids[0].Kids) {
			return kids[0].Kids[at]
		}
		return d.stop(3)
	case "size":
		return num(len(kids[0].Kids) + len(kids[0].Text))
	case "join":
		return d.fine(tree{Sort: kids[0].Sort, Text: kids[0].Text + kids[1].Text, Kids: slices.Concat(kids[0].Kids, kids[1].Kids)})
	case "part":
		from, to := kids[1].Num, kids[2].Num
		if from < 0 || to < from || to > len(kids[0].Kids)+len(kids[0].Text) {
			return d.stop(3)
		}
		if kids[0].Sort == 2 {
			return text(kids[0].Text[from:to])
		}
		return list(kids[0].Kids[from:to]...)
	case "show":
		return text(fmt.Sprint(kids[0].Num))
	case "read":
		if numberForm.MatchString(kids[0].Text) {
			return maybe(num(numOf(kids[0].Text)))
		}
		return maybe()
	}
	return d.number(strings.Fields(opTable[n.Op])[0], kids)
}

// number reckons with numbers that have no end.
func (d *doer) number(word string, kids []tree) tree {
	a, b, made := big.NewInt(int64(kids[0].Num)), big.NewInt(int64(kids[1].Num)), new(big.Int)
	if (word == "div" || word == "rem") && b.Sign() == 0 {
		return d.stop(2)
	}
	switch word {
	case "add":
		made.Add(a, b)
	case "sub":
		made.Sub(a, b)
	case "mul":
		made.Mul(a, b)
	case "div":
		made.Quo(a, b)
	case "rem":
		made.Rem(a, b)
	}
	if made.CmpAbs(big.NewInt(999999999)) > 0 {
		return d.stop(1)
	}
	return num(int(made.Int64()))
}

func (d *doer) field(word, name string, kids []tree) tree {
	fields := map[string]tree{}
	for i, n := range kids[0].Names {
		fields[n] = kids[0].Kids[i]
	}
	x, is := fields[name]
	if word != "put" && !is {
		return d.stop(6)
	}
	switch word {
	case "get":
		return x
	case "put":
		fields[name] = kids[1]
	case "cut":
		delete(fields, name)
	}
	made := form("")
	for name := range fields {
		made.Names = append(made.Names, name)
	}
	slices.Sort(made.Names)
	for _, name := range made.Names {
		made.Kids = append(made.Kids, fields[name])
	}
	return d.fine(made)
}

func (d *doer) action(n node, bound []liftBound) {
	if d.code != 0 {
		return
	}
	var first tree
	if len(n.Kids) > 0 && n.Op != impl.LiftBoth {
		first = d.kid(n, 0, bound)
	}
	if d.code != 0 {
		return
	}
	switch strings.Fields(opTable[n.Op])[0] {
	case "fail":
		d.why = n.Num
		d.stop(5)
	case "emit", "send":
		d.outs = append(d.outs, liftOut{Name: strings.Join(n.Names, ""), Version: n.Num, Body: first})
	case "both":
		d.action(n.Kids[0], bound)
		d.action(n.Kids[1], bound)
	case "choose":
		d.action(n.Kids[2-first.Num], bound)
	case "take":
		d.action(n.Kids[1], bindTree(bound, n.Names[0], first))
	case "each":
		for _, x := range first.Kids {
			d.action(n.Kids[1], bindTree(bound, n.Names[0], x))
		}
	}
}

func toldEval(bound []liftBound, n node) (tree, int) {
	if !okAs(n, "V") || atMost(toldCost(n), 40000) > 40000 {
		return tree{}, 6
	}
	for _, b := range bound {
		if !okNames([]string{b.Name}) || !okTree(b.Tree) {
			return tree{}, 6
		}
	}
	d := doer{}
	x := d.value(n, bound)
	if d.code != 0 {
		return tree{}, d.code
	}
	return x, 0
}

func toldRun(n node, old tree) liftDone {
	if !okAs(n, "A") || atMost(toldCost(n), 40000) > 40000 || atMost(toldFan(n), 400) > 400 || old.Sort != 5 || !okTree(old) {
		return liftDone{Code: 6}
	}
	d := doer{}
	d.action(n, []liftBound{{Name: "old", Tree: old}})
	if d.code != 0 {
		return liftDone{Code: d.code, Why: d.why}
	}
	return liftDone{Outs: d.outs}
}

func sameOut(a, b liftOut) bool {
	return a.Name == b.Name && a.Version == b.Version && sameTree(a.Body, b.Body)
}

func sameDone(a, b liftDone) bool {
	return a.Code == b.Code && a.Why == b.Why && slices.EqualFunc(a.Outs, b.Outs, sameOut)
}

// doneText tells what came of a run: `stop 5 7`, or the events with a bar between, or `drop`.
func doneText(d liftDone) string {
	if d.Code != 0 || d.Why != 0 {
		return fmt.Sprintf("stop %d %d", d.Code, d.Why) + strings.Repeat(" and outs", len(d.Outs))
	}
	var outs []string
	for _, out := range d.Outs {
		where := "emit"
		if out.Name != "" || out.Version != 0 {
			where = fmt.Sprintf("%s@%d", out.Name, out.Version)
		}
		outs = append(outs, where+" "+impl.TreeWrite(out.Body))
	}
	if len(outs) == 0 {
		return "drop"
	}
	return strings.Join(outs, " | ")
}

// someBound are trees of the schemas of someVars.
const someBound = `n 7; t "abc"; f yes; l [3,-4,5]; lt ["b","","a"]; lo [{a:1},{a:-2}]; m ?4; mt ~; o {a:1,b:"x"}; e {}; z {only:yes}`

// boundsOf makes names with trees out of a text such as "a 1; b []".
func boundsOf(t *testing.T, s string) []liftBound {
	t.Helper()
	var bound []liftBound
	for _, one := range strings.Split(s, ";") {
		if name, x, is := strings.Cut(strings.TrimSpace(one), " "); is {
			bound = append(bound, liftBound{Name: name, Tree: readTree(t, x)})
		}
	}
	return bound
}

// wantMeans: a value means a tree, or stops with a code; the tests themselves tell the same.
func wantMeans(t *testing.T, bound []liftBound, n node, wanted tree, code int) {
	t.Helper()
	x, c := impl.LiftEval(bound, n)
	if c != code || !sameTree(x, wanted) {
		t.Errorf("%s: %v %d, wanted %v %d", short(n), x, c, wanted, code)
	}
	if x, c := toldEval(bound, n); c != code || !sameTree(x, wanted) {
		t.Errorf("%s: the tests themselves tell %v %d, wanted %v %d", short(n), x, c, wanted, code)
	}
}

// wantEval: a value's text means the tree of a text, or stops with a code.
func wantEval(t *testing.T, bound, s, wanted string) {
	t.Helper()
	code, x := 0, tree{}
	if stop, is := strings.CutPrefix(wanted, "stop "); is {
		code = numOf(stop)
	} else {
		x = readTree(t, wanted)
	}
	wantMeans(t, boundsOf(t, bound), readValue(t, s), x, code)
}

// wantRun: what an upcaster makes of a body.
func wantRun(t *testing.T, old tree, n node, wanted string) {
	t.Helper()
	if d := impl.LiftRun(n, old); doneText(d) != wanted {
		t.Errorf("%.200q of %s: %s, wanted %s", impl.LiftWrite(n), impl.TreeWrite(old), doneText(d), wanted)
	}
	if d := toldRun(n, old); doneText(d) != wanted {
		t.Errorf("%.200q of %s: the tests themselves tell %s, wanted %s", impl.LiftWrite(n), impl.TreeWrite(old), doneText(d), wanted)
	}
}

const someOld = `{a:7,b:"abc",f:yes,l:[3,-4,5],m:~,o:{x:1}}`

func wantTextRun(t *testing.T, s, wanted string) {
	t.Helper()
	wantRun(t, readTree(t, someOld), readLift(t, s), wanted)
}

// P14: values of each op mean the tree of the table.
func TestRunOfEachValue(t *testing.T) {
	vars, _ := varsOf(t, someVars)
	bound := boundsOf(t, someBound)
	seen := map[int]int{}
	for _, row := range [][2]string{
		{"5", "5"}, {"-999999999", "-999999999"}, {`"a b"`, `"a b"`}, {`""`, `""`}, {"yes", "yes"}, {"no", "no"},
		{"n", "7"}, {"lo", "[{a:1},{a:-2}]"}, {"none num", "~"}, {"none {a:[num]}", "~"}, {"empty text", "[]"}, {"empty [num]", "[]"},
		{"some n", "?7"}, {"some some o", `??{a:1,b:"x"}`}, {"some mt", "?~"}, {"one t", `["abc"]`}, {"one one n", "[[7]]"}, {"one empty num", "[[]]"},
		{"add n 5", "12"}, {"sub n 9", "-2"}, {"mul n -3", "-21"}, {"div n 2", "3"}, {"rem n 4", "3"}, {"add mul 2 3 div 9 3", "9"},
		{"less n 8", "yes"}, {"less n 7", "no"}, {"less -8 -7", "yes"}, {"less t \"abd\"", "yes"}, {"less t \"abc\"", "no"}, {"less \"b\" \"ab\"", "no"}, {"less 9 10", "yes"}, {`less "9" "10"`, "no"},
		{"same n 7", "yes"}, {"same n 8", "no"}, {"same t \"abc\"", "yes"}, {"same l one 3", "no"}, {"same o form a 1 b \"x\" end", "yes"}, {"same mt none text", "yes"}, {"same m some 4", "yes"}, {"same f no", "no"}, {"same e form end", "yes"}, {"same empty num empty num", "yes"},
		{"and f yes", "yes"}, {"and f no", "no"}, {"and no f", "no"}, {"or f no", "yes"}, {"or no no", "no"}, {"or no f", "yes"}, {"not f", "no"}, {"not not f", "yes"},
		{"if f 1 2", "1"}, {"if not f 1 2", "2"}, {"let x add n 1 mul x x", "64"}, {"let n 1 n", "1"}, {"let x 1 let y 2 sub x y", "-1"}, {"let x 1 let x add x 1 x", "2"},
		{"get a o", "1"}, {"get b o", `"x"`}, {"get only z", "yes"}, {"put a o t", `{a:"abc",b:"x"}`}, {"put aa o 2", `{a:1,aa:2,b:"x"}`}, {"put c o 2", `{a:1,b:"x",c:2}`}, {"put a0 o f", `{a:1,a0:yes,b:"x"}`}, {"put a e e", "{a:{}}"}, {"put b o o", `{a:1,b:{a:1,b:"x"}}`},
		{"cut a o", `{b:"x"}`}, {"cut b o", "{a:1}"}, {"cut only z", "{}"}, {"cut c put c o 1", `{a:1,b:"x"}`},
		{"form end", "{}"}, {"form a n add t end", `{a:7,add:"abc"}`}, {"form a form b l end end", "{a:{b:[3,-4,5]}}"},
		{"at l 0", "3"}, {"at l 1", "-4"}, {"at lo 1", "{a:-2}"}, {"at one mt 0", "~"}, {"size l", "3"}, {"size t", "3"}, {"size \"\"", "0"}, {"size empty num", "0"}, {"size one l", "1"}, {`size "a b~"`, "4"},
		{"join l l", "[3,-4,5,3,-4,5]"}, {"join t t", `"abcabc"`}, {"join lt empty text", `["b","","a"]`}, {"join empty num l", "[3,-4,5]"}, {`join t ""`, `"abc"`}, {`join "" ""`, `""`},
		{"part l 0 2", "[3,-4]"}, {"part l 1 3", "[-4,5]"}, {"part t 1 2", `"b"`}, {"part t 0 3", `"abc"`}, {"part lo 1 2", "[{a:-2}]"}, {"part l 1 1", "[]"},
		{"show n", `"7"`}, {"show -12", `"-12"`}, {"show 0", `"0"`}, {`read "12"`, "?12"}, {`read "-5"`, "?-5"}, {`read "0"`, "?0"}, {"read t", "~"}, {"read show n", "?7"},
		{"else m 1", "4"}, {"else mt t", `"abc"`}, {"else some mt mt", "~"}, {`else read "x" -1`, "-1"}, {`else read "8" -1`, "8"},
		{"case x m add x 1 0", "5"}, {"case x mt size x n", "7"}, {"case n m n n", "4"}, {"case n mt 1 n", "7"}, {"case x some some 1 x none num", "?1"},
		{"map x l mul x x", "[9,16,25]"}, {"map x lo get a x", "[1,-2]"}, {"map x lt size x", "[1,0,1]"}, {"map n l n", "[3,-4,5]"}, {"map x l n", "[7,7,7]"}, {"map x l map y l sub x y", "[[0,7,-2],[-7,0,-9],[2,9,0]]"},
		{"keep x l less 0 x", "[3,5]"}, {"keep x l f", "[3,-4,5]"}, {"keep x l no", "[]"}, {"keep x lo less get a x 0", "[{a:-2}]"}, {"keep f one f f", "[yes]"}, {"keep f one no f", "[]"},
		{"fold s x l 0 add s x", "4"}, {"fold s x l n sub s x", "3"}, {`fold s x lt "" join x s`, `"ab"`}, {"fold s x l empty num join one x s", "[5,-4,3]"}, {"fold s x l 1 x", "5"}, {"fold s x l 1 s", "1"}, {"fold x s l 0 sub s x", "12"},
	} {
		wantEval(t, someBound, row[0], row[1])
		n := readValue(t, row[0])
		countOps(n, seen)
		if k, f := impl.LiftKind(vars, n); f.Code != 0 || !impl.KindHas(k, readTree(t, row[1])) {
			t.Errorf("%q: %v %q, and means %q", row[0], f, impl.KindWrite(k), row[1])
		}
	}
	for op := 1; op <= 35; op++ {
		if seen[op] == 0 {
			t.Errorf("no value has the op %d", op)
		}
	}
	if len(bound) != len(vars) {
		t.Errorf("%d trees of %d schemas", len(bound), len(vars))
	}
}

// P11: ordinary upcasters with each action, whose outs are known.
func TestRunOfEachAction(t *testing.T) {
	seen := map[int]int{}
	from := readKind(t, someFrom)
	sinks, _ := sinksOf(t, someSinks)
	for _, row := range [][2]string{
		{"drop", "drop"},
		{"fail 0", "stop 5 0"}, {"fail 42", "stop 5 42"}, {"fail 99", "stop 5 99"},
		{"emit form n get a old end", "emit {n:7}"},
		{"send paid 2 form end", "paid@2 {}"},
		{"send paid 12 form t get b old end", `paid@12 {t:"abc"}`},
		{"both drop drop", "drop"}, {"both emit form n 1 end drop", "emit {n:1}"}, {"both drop emit form n 1 end", "emit {n:1}"},
		{"both emit form n 1 end emit form n 2 end", "emit {n:1} | emit {n:2}"},
		{"both both emit form n 1 end send paid 2 form end emit form n 3 end", "emit {n:1} | paid@2 {} | emit {n:3}"},
		{"both emit form n 1 end both send paid 2 form end emit form n 3 end", "emit {n:1} | paid@2 {} | emit {n:3}"},
		{"choose get f old emit form n 1 end emit form n 2 end", "emit {n:1}"},
		{"choose not get f old emit form n 1 end emit form n 2 end", "emit {n:2}"},
		{"choose yes drop fail 1", "drop"}, {"choose no drop fail 1", "stop 5 1"},
		{"take x get a old emit form n add x x end", "emit {n:14}"},
		{"take old form q 1 end emit form n get q old end", "emit {n:1}"},
		{"both take old form q 1 end emit form n get q old end emit form n get a old end", "emit {n:1} | emit {n:7}"},
		{"each x get l old emit form n x end", "emit {n:3} | emit {n:-4} | emit {n:5}"},
		{"each x empty num emit form n x end", "drop"},
		{"each x get l old drop", "drop"},
		{"each x get l old choose less x 0 drop emit form n x end", "emit {n:3} | emit {n:5}"},
		{"each x get l old choose less x 0 fail 3 emit form n x end", "stop 5 3"},
		{"each x part get l old 0 2 each y part get l old 1 3 emit form n mul x y end", "emit {n:-12} | emit {n:15} | emit {n:16} | emit {n:-20}"},
		{"both each x get l old both emit form n x end send paid 2 form end fail 9", "stop 5 9"},
		{"each x get l old both emit form n x end send paid 12 form t show x end", `emit {n:3} | paid@12 {t:"3"} | emit {n:-4} | paid@12 {t:"-4"} | emit {n:5} | paid@12 {t:"5"}`},
	} {
		wantTextRun(t, row[0], row[1])
		n := readLift(t, row[0])
		countOps(n, seen)
		if f := impl.LiftCheck(from, sinks, n); f.Code != 0 {
			t.Errorf("%q: %v", row[0], f)
		}
	}
	for op := 36; op <= 43; op++ {
		if seen[op] == 0 {
			t.Errorf("no upcaster has the op %d", op)
		}
	}
	// What is not accepted may still mean something.
	wantTextRun(t, "emit old", "emit "+someOld)
	wantTextRun(t, "send other 1 old", "other@1 "+someOld)
	wantTextRun(t, "both emit get o old emit cut x get o old", "emit {x:1} | emit {}")
}

// Numbers at the bounds and one beyond, with each op that reckons.
func TestRunNumbers(t *testing.T) {
	edges := []int{0, 1, -1, 2, -2, 3, 7, -7, 31623, -31623, 46341, 65536, 99999, 499999999, 500000000, -500000000, 999999998, -999999998, 999999999, -999999999}
	codes := map[string]int{}
	for op, word := range map[int]string{impl.LiftAdd: "add", impl.LiftSub: "sub", impl.LiftMul: "mul", impl.LiftDiv: "div", impl.LiftRem: "rem"} {
		for _, a := range edges {
			for _, b := range edges {
				n := nOp(op, "", nNum(a), nNum(b))
				d := doer{}
				wanted := d.number(word, []tree{num(a), num(b)})
				wantMeans(t, nil, n, wanted, d.code)
				codes[word+fmt.Sprint(d.code)]++
			}
		}
	}
	if codes["add1"] == 0 || codes["sub1"] == 0 || codes["mul1"] == 0 || codes["div1"] != 0 || codes["rem1"] != 0 || codes["div2"] != len(edges) || codes["rem2"] != len(edges) {
		t.Error(codes)
	}
	for _, row := range [][2]string{
		{"add 999999998 1", "999999999"}, {"add 999999999 1", "stop 1"}, {"add -999999998 -1", "-999999999"}, {"add -999999999 -1", "stop 1"}, {"add 999999999 999999999", "stop 1"}, {"add 999999999 -999999999", "0"},
		{"sub 999999998 -1", "999999999"}, {"sub 999999999 -1", "stop 1"}, {"sub -999999998 1", "-999999999"}, {"sub -999999999 1", "stop 1"}, {"sub -999999999 999999999", "stop 1"}, {"sub 0 -999999999", "999999999"},
		{"mul 999999999 1", "999999999"}, {"mul 999999999 -1", "-999999999"}, {"mul 333333333 3", "999999999"}, {"mul 333333334 3", "stop 1"}, {"mul -333333334 3", "stop 1"}, {"mul 500000000 2", "stop 1"}, {"mul 999999999 999999999", "stop 1"}, {"mul -999999999 999999999", "stop 1"}, {"mul -999999999 -999999999", "stop 1"},
		{"mul 31622 31622", "999950884"}, {"mul 31623 31623", "stop 1"}, {"mul 65536 65536", "stop 1"}, {"mul 46341 92682", "stop 1"},
		{"div 999999999 1", "999999999"}, {"div 999999999 -1", "-999999999"}, {"div -999999999 -1", "999999999"}, {"div -999999999 1", "-999999999"}, {"div 999999999 999999999", "1"}, {"div 999999998 999999999", "0"},
		{"div 7 2", "3"}, {"div -7 2", "-3"}, {"div 7 -2", "-3"}, {"div -7 -2", "3"}, {"div 1 2", "0"}, {"div -1 2", "0"}, {"div 6 -3", "-2"}, {"div 0 -5", "0"},
		{"rem 7 2", "1"}, {"rem -7 2", "-1"}, {"rem 7 -2", "1"}, {"rem -7 -2", "-1"}, {"rem 6 -3", "0"}, {"rem 0 -5", "0"}, {"rem 999999999 -999999999", "0"}, {"rem 999999998 999999999", "999999998"}, {"rem -999999998 999999999", "-999999998"},
		{"div 7 0", "stop 2"}, {"div 0 0", "stop 2"}, {"div -999999999 0", "stop 2"}, {"rem 7 0", "stop 2"}, {"rem 0 0", "stop 2"}, {"rem -7 0", "stop 2"},
		{"sub mul 999999999 999999999 999999999", "stop 1"}, {"div mul 999999999 2 2", "stop 1"}, {"fold s x one 2 999999999 mul s x", "stop 1"}, {"less mul 999999999 2 1", "stop 1"},
	} {
		wantEval(t, "", row[0], row[1])
	}
}

// Places in lists and texts, the first and the last, and beyond them.
func TestRunPlaces(t *testing.T) {
	for at := -3; at <= 5; at++ {
		wanted := "stop 3"
		if at >= 0 && at < 3 {
			wanted = []string{"3", "-4", "5"}[at]
		}
		wantEval(t, someBound, fmt.Sprintf("at l %d", at), wanted)
		wantEval(t, someBound, fmt.Sprintf("at empty num %d", at), "stop 3")
		for to := -3; to <= 5; to++ {
			ofList, ofText, ofNone := "stop 3", "stop 3", "stop 3"
			if at >= 0 && to >= at && to <= 3 {
				ofList, ofText = "["+strings.Join([]string{"3", "-4", "5"}[at:to], ",")+"]", `"`+"abc"[at:to]+`"`
			}
			if at == 0 && to == 0 {
				ofNone = "[]"
			}
			wantEval(t, someBound, fmt.Sprintf("part l %d %d", at, to), ofList)
			wantEval(t, someBound, fmt.Sprintf("part t %d %d", at, to), ofText)
			wantEval(t, someBound, fmt.Sprintf("part empty num %d %d", at, to), ofNone)
		}
	}
	for _, row := range [][2]string{
		{"part l 0 0", "[]"}, {"part l 3 3", "[]"}, {"part l 4 4", "stop 3"}, {"part t 0 0", `""`}, {"part t 3 3", `""`}, {"part t 4 4", "stop 3"}, {"part l -1 0", "stop 3"}, {"part l -1 -1", "stop 3"}, {"part l 2 1", "stop 3"}, {"part l 1 4", "stop 3"}, {`part "" 0 0`, `""`}, {`part "" 0 1`, "stop 3"},
		{"at l 999999999", "stop 3"}, {"at l -999999999", "stop 3"}, {"part l 0 999999999", "stop 3"}, {"part l -999999999 0", "stop 3"}, {"part t -999999999 999999999", "stop 3"}, {"part l 999999999 999999999", "stop 3"},
	} {
		wantEval(t, someBound, row[0], row[1])
	}
	full := list(repeat(num(1), 20)...)
	full.Kids[0], full.Kids[19] = num(5), num(6)
	bound := []liftBound{{Name: "l", Tree: full}}
	wantMeans(t, bound, readValue(t, "at l 0"), num(5), 0)
	wantMeans(t, bound, readValue(t, "at l 19"), num(6), 0)
	wantMeans(t, bound, readValue(t, "at l 20"), tree{}, 3)
	wantMeans(t, bound, readValue(t, "part l 0 20"), full, 0)
	wantMeans(t, bound, readValue(t, "part l 0 21"), tree{}, 3)
}

// Texts: as long as they may be, one ahead of another, and those that are numbers.
func TestRunTexts(t *testing.T) {
	sixty, last := strings.Repeat("q", 60), strings.Repeat("q", 59)+"~"
	for _, row := range [][2]string{
		{fmt.Sprintf("join %q %q", sixty[:59], "q"), strconv.Quote(sixty)}, {fmt.Sprintf("join %q %q", sixty[:59], "qq"), "stop 4"}, {fmt.Sprintf("join %q %q", sixty, ""), strconv.Quote(sixty)}, {fmt.Sprintf("join %q %q", "", sixty), strconv.Quote(sixty)},
		{fmt.Sprintf("join %q %q", sixty, "q"), "stop 4"}, {fmt.Sprintf("join %q %q", sixty, sixty), "stop 4"}, {fmt.Sprintf("size %q", sixty), "60"}, {fmt.Sprintf("part %q 59 60", sixty), `"q"`}, {fmt.Sprintf("part %q 60 60", sixty), `""`}, {fmt.Sprintf("part %q 60 61", sixty), "stop 3"},
		{fmt.Sprintf("less %q %q", sixty, last), "yes"}, {fmt.Sprintf("less %q %q", last, sixty), "no"}, {fmt.Sprintf("less %q %q", sixty[:59], sixty), "yes"}, {fmt.Sprintf("less %q %q", sixty, sixty[:59]), "no"}, {fmt.Sprintf("same %q %q", sixty, sixty), "yes"}, {fmt.Sprintf("same %q %q", sixty, last), "no"},
		{`less "" "a"`, "yes"}, {`less "a" ""`, "no"}, {`less "" ""`, "no"}, {`less "a" "ab"`, "yes"}, {`less "ab" "a"`, "no"}, {`less "ab" "b"`, "yes"}, {`less "Z" "a"`, "yes"}, {`less " " "!"`, "yes"}, {`less "a " "a"`, "no"}, {`less "~" "a"`, "no"}, {`less "10" "9"`, "yes"}, {`less "-1" "-2"`, "yes"},
		{`read "05"`, "~"}, {`read "-0"`, "~"}, {`read "-05"`, "~"}, {`read "00"`, "~"}, {`read ""`, "~"}, {`read "-"`, "~"}, {`read " 5"`, "~"}, {`read "5 "`, "~"}, {`read " "`, "~"}, {`read "+5"`, "~"}, {`read "5.0"`, "~"}, {`read "1e3"`, "~"}, {`read "0x5"`, "~"}, {`read "1_0"`, "~"}, {`read "--5"`, "~"}, {`read "5-"`, "~"}, {`read "yes"`, "~"}, {`read "[1]"`, "~"}, {`read "~"`, "~"}, {`read "?1"`, "~"}, {`read "{}"`, "~"},
		{`read "999999999"`, "?999999999"}, {`read "-999999999"`, "?-999999999"}, {`read "1000000000"`, "~"}, {`read "-1000000000"`, "~"}, {`read "9999999999"`, "~"}, {`read "99999999999999999999999999"`, "~"}, {`read "18446744073709551617"`, "~"}, {`read "4294967297"`, "~"},
		{"show 999999999", `"999999999"`}, {"show -999999999", `"-999999999"`}, {`show else read "-999999999" 0`, `"-999999999"`}, {`same "1" show 1`, "yes"}, {`size show -999999999`, "10"},
	} {
		wantEval(t, "", row[0], row[1])
	}
	for n := -1200; n <= 1200; n++ {
		wantEval(t, "", fmt.Sprintf("read show %d", n), fmt.Sprintf("?%d", n))
		wantEval(t, "", fmt.Sprintf("show %d", n), fmt.Sprintf("%q", fmt.Sprint(n)))
	}
	// Of two rows of bytes, all of which a text may have.
	for b := byte(32); b <= 126; b++ {
		if b == '"' {
			continue
		}
		wantMeans(t, nil, nOp(impl.LiftLess, "", nText(string(b)), nText("a")), flag(map[bool]int{true: 1}[b < 'a']), 0)
		wantMeans(t, nil, nOp(impl.LiftJoin, "", nText(string(b)), nText("a")), text(string(b)+"a"), 0)
	}
}

// partsTree is a form of just so many parts, in lists.
func partsTree(n int) tree {
	t := form("")
	for i := 0; parts(t) < n; i++ {
		t.Names = append(t.Names, fmt.Sprintf("p%02d", i))
		t.Kids = append(t.Kids, list(repeat(num(1), min(20, n-parts(t)-1))...))
	}
	return t
}

// A tree that is made and just ok, and with one part, level, element or byte more.
func TestRunBigTrees(t *testing.T) {
	deep := func(levels int) tree { return within(num(1), levels-1) }
	deepForm := func(levels int) tree { return form("a", deep(levels-1)) }
	ones := func(n int) tree { return list(repeat(num(1), n)...) }
	sevens := list(repeat(ones(6), 17)...)
	bound := []liftBound{
		aBound("p118", partsTree(118)), aBound("p119", partsTree(119)), aBound("p120", partsTree(120)), aBound("d5", deep(5)), aBound("d6", deep(6)), aBound("f5", deepForm(5)), aBound("f6", deepForm(6)),
		aBound("l10", ones(10)), aBound("l19", ones(19)), aBound("l20", ones(20)), aBound("l17", ones(17)), aBound("l8", ones(8)), aBound("six", ones(6)), aBound("five", ones(5)), aBound("big", sevens), aBound("ten", list(repeat(ones(9), 10)...)), aBound("one0", list(ones(9))), aBound("one1", list(ones(18))), aBound("one2", list(ones(19))), aBound("p15", partsTree(15)),
	}
	for _, b := range bound {
		if !okTree(b.Tree) || b.Name[0] == 'p' && fmt.Sprint("p", parts(b.Tree)) != b.Name || b.Name[0] == 'd' && fmt.Sprint("d", levels(b.Tree)) != b.Name || b.Name[0] == 'f' && b.Name != "five" && fmt.Sprint("f", levels(b.Tree)) != b.Name {
			t.Fatalf("%s has %d parts and %d levels", b.Name, parts(b.Tree), levels(b.Tree))
		}
	}
	for _, row := range []struct {
		text          string
		parts, levels int // of what is made; 0, if it is too big
	}{
		{"some p119", 120, 4}, {"some p120", 0, 0}, {"some d5", 6, 6}, {"some d6", 0, 0}, {"some f5", 6, 6}, {"some f6", 0, 0},
		{"one p119", 120, 4}, {"one p120", 0, 0}, {"one d5", 6, 6}, {"one d6", 0, 0},
		{"put q p119 1", 120, 3}, {"put q p120 1", 0, 0}, {"put a p119 1", 120, 3}, {"put a p120 no", 0, 0}, {"put q p118 one 1", 120, 3}, {"put q p119 one 1", 0, 0}, {"put q p118 some 1", 120, 3}, {"put q p119 some 1", 0, 0},
		{"put p00 p120 1", 100, 3}, {"put p00 p120 l20", 120, 3}, {"put p00 p120 one l20", 0, 0}, {"put p00 p120 one l19", 120, 4}, {"put q form end d5", 6, 6}, {"put q form end d6", 0, 0}, {"put a f6 d5", 6, 6}, {"put a f6 d6", 0, 0}, {"put a f6 1", 2, 2}, {"put a form a 1 end d6", 0, 0},
		{"form a p119 end", 120, 4}, {"form a p120 end", 0, 0}, {"form a p118 b 1 end", 120, 4}, {"form a p119 b 1 end", 0, 0}, {"form a 1 b p118 end", 120, 4}, {"form a 1 b p119 end", 0, 0}, {"form a d5 end", 6, 6}, {"form a d6 end", 0, 0}, {"form a 1 b d6 c 1 end", 0, 0}, {"form a p15 b p15 c p15 d p15 e p15 f p15 g p15 h 1 end", 107, 4}, {"form a p15 b p15 c p15 d p15 e p15 f p15 g p15 h p15 end", 0, 0},
		{"join l10 l10", 21, 2}, {"join l19 one 1", 21, 2}, {"join l20 one 1", 0, 0}, {"join one 1 l20", 0, 0}, {"join l20 l20", 0, 0}, {"join l20 empty num", 21, 2}, {"join empty num l20", 21, 2}, {"join l10 l19", 0, 0},
		{"join big empty [num]", 120, 3}, {"join big one empty num", 0, 0}, {"join ten one0", 111, 3}, {"join ten one1", 120, 3}, {"join ten one2", 0, 0}, {"join one1 ten", 120, 3}, {"join one2 ten", 0, 0}, {"join ten ten", 0, 0},
		{"map x l17 six", 120, 3}, {"map x join l17 one 1 six", 0, 0}, {"map x l20 five", 0, 0}, {"map x l19 five", 115, 3}, {"map x l8 p15", 0, 0}, {"map x part l8 0 7 p15", 106, 4}, {"map x l20 x", 21, 2}, {"map x l20 some x", 41, 3}, {"map x l20 form a x b x c x d x end", 101, 3}, {"map x l20 form a x b x c x d x e x end", 0, 0},
		{"map x l10 d5", 51, 6}, {"map x l10 d6", 0, 0}, {"map x empty num d6", 1, 1}, {"map x empty num p120", 1, 1}, {"map x one 1 p119", 120, 4}, {"map x one 1 p120", 0, 0}, {"map x one 1 d5", 6, 6}, {"map x one 1 d6", 0, 0},
		{"keep x l20 yes", 21, 2}, {"keep x big yes", 120, 3}, {"keep x big no", 1, 1}, {"keep x big same x six", 120, 3}, {"keep x ten yes", 101, 3},
		{"size some p120", 0, 0}, {"let x one d6 1", 0, 0}, {"get p00 p120", 21, 2}, {"cut p00 p120", 99, 3}, {"at one p119 0", 119, 3}, {"at one p120 0", 0, 0}, {"else some p119 p15", 119, 3}, {"else none num p120", 120, 3}, {"case x some p119 x x", 119, 3}, {"if yes p120 some p120", 120, 3}, {"fold s x l20 p120 s", 120, 3}, {"fold s x l20 1 some s", 0, 0}, {"fold s x part l20 0 5 1 some s", 6, 6}, {"fold s x part l20 0 6 1 some s", 0, 0}, {"fold s x l20 empty num join s one x", 21, 2}, {"fold s x l20 one 1 join s one x", 0, 0},
	} {
		n := readValue(t, row.text)
		wanted, code := toldEval(bound, n)
		if row.parts == 0 && code != 4 || row.parts > 0 && (code != 0 || parts(wanted) != row.parts || levels(wanted) != row.levels) {
			t.Errorf("%q: the tests themselves tell %d, %d parts, %d levels", row.text, code, parts(wanted), levels(wanted))
		}
		wantMeans(t, bound, n, wanted, code)
	}
	wantRun(t, partsTree(120), readLift(t, "emit old"), "emit "+impl.TreeWrite(partsTree(120)))
	wantRun(t, partsTree(120), readLift(t, "both emit old emit put q old 1"), "stop 4 0")
	wantRun(t, partsTree(119), readLift(t, "emit put q old 1"), "emit "+impl.TreeWrite(partsTree(119))[:len(impl.TreeWrite(partsTree(119)))-1]+",q:1}")
}

// What is done for each element of an empty list: nothing, but the second kid of `fold`.
func TestRunEmptyLists(t *testing.T) {
	for _, row := range [][2]string{
		{"map x empty num div 1 0", "[]"}, {"map x empty num q", "[]"}, {"keep x empty num q", "[]"}, {"keep x empty num 5", "[]"}, {"keep x empty num same 1 div 1 0", "[]"},
		{"fold s x empty num 5 q", "5"}, {"fold s x empty num 5 div 1 0", "5"}, {"fold s x empty num div 1 0 s", "stop 2"}, {"fold s x empty num q s", "stop 6"}, {"fold s x l div 1 0 s", "stop 2"}, {"fold s x l at l 9 div 1 0", "stop 3"},
		{"fold s x l 0 div 1 0", "stop 2"}, {"fold s x l 0 if less x 0 div 1 0 x", "stop 2"}, {"map x l div 1 sub x 3", "stop 2"}, {"keep x l same 1 div 1 add x 4", "stop 2"}, {"map x l at l x", "stop 3"}, {"map x l if same x 5 div 1 0 at l sub x 2", "stop 3"},
		{"keep x l if less x 0 5 yes", "stop 6"}, {"keep x one 3 if less x 0 5 yes", "[3]"},
	} {
		wantEval(t, someBound, row[0], row[1])
	}
	for _, row := range [][2]string{
		{"each x empty num fail 1", "drop"}, {"each x empty num emit 5", "drop"}, {"each x empty num emit q", "drop"}, {"each x keep x get l old less 9 x fail 1", "drop"}, {"each x div 1 0 drop", "stop 2 0"},
		{"both each x empty num fail 1 emit form end", "emit {}"},
	} {
		wantTextRun(t, row[0], row[1])
	}
}

// Of `and`, `or`, `if`, `else`, `case` and `choose` only what is meant is done.
func TestRunWhichKids(t *testing.T) {
	for _, stop := range [][2]string{{"div 1 0", "stop 2"}, {"q", "stop 6"}, {"at l 9", "stop 3"}, {"mul 999999999 2", "stop 1"}, {"size one one one one one one 1", "stop 4"}, {"add 1 yes", "stop 6"}} {
		bad := stop[0]
		for _, row := range [][2]string{
			{"and no same 1 " + bad, "no"}, {"and no " + bad, "no"}, {"and yes same 1 " + bad, stop[1]}, {"and same 1 " + bad + " no", stop[1]}, {"or yes same 1 " + bad, "yes"}, {"or yes " + bad, "yes"}, {"or no same 1 " + bad, stop[1]}, {"or same 1 " + bad + " yes", stop[1]},
			{"if yes 1 " + bad, "1"}, {"if no " + bad + " 2", "2"}, {"if yes " + bad + " 2", stop[1]}, {"if no 1 " + bad, stop[1]}, {"if same 1 " + bad + " 1 2", stop[1]},
			{"else m " + bad, "4"}, {"else none num " + bad, stop[1]}, {"else some " + bad + " 1", stop[1]},
			{"case x m x " + bad, "4"}, {"case x none num " + bad + " 2", "2"}, {"case x m " + bad + " 2", stop[1]}, {"case x none num 1 " + bad, stop[1]}, {"case x some " + bad + " 1 2", stop[1]},
			{"let x " + bad + " 1", stop[1]}, {"let x 1 " + bad, stop[1]}, {"same " + bad + " 1", stop[1]}, {"same 1 " + bad, stop[1]}, {"form a 1 b " + bad + " end", stop[1]}, {"put a o " + bad, stop[1]}, {"some " + bad, stop[1]}, {"one " + bad, stop[1]},
		} {
			wantEval(t, someBound, row[0], row[1])
		}
		// `l` is not bound in an upcaster: there it is `old` that is asked.
		bad = strings.ReplaceAll(bad, "at l", "at get l old")
		for _, row := range [][2]string{
			{"choose yes drop emit form n " + bad + " end", "drop"}, {"choose no emit form n " + bad + " end drop", "drop"}, {"choose yes emit form n " + bad + " end drop", stop[1] + " 0"}, {"choose no drop emit form n " + bad + " end", stop[1] + " 0"}, {"choose same 1 " + bad + " drop drop", stop[1] + " 0"},
			{"take x " + bad + " drop", stop[1] + " 0"}, {"take x 1 emit form n " + bad + " end", stop[1] + " 0"}, {"both emit form end emit form n " + bad + " end", stop[1] + " 0"}, {"both emit form n " + bad + " end fail 7", stop[1] + " 0"}, {"both fail 7 emit form n " + bad + " end", "stop 5 7"}, {"each x get l old choose same x 5 emit form n " + bad + " end emit form n x end", stop[1] + " 0"},
		} {
			wantTextRun(t, row[0], row[1])
		}
	}
	// What is not done may be of another sort than is wanted; nothing is asked of what `if`, `case`, `else` and `fold` choose.
	for _, row := range [][2]string{
		{"and no 5", "no"}, {"or yes t", "yes"}, {"and yes 5", "stop 6"}, {"or no t", "stop 6"}, {"and 5 no", "stop 6"}, {"or t yes", "stop 6"},
		{"if yes 1 t", "1"}, {"if no 1 t", `"abc"`}, {"else m t", "4"}, {"else mt 5", "5"}, {"case x m t 5", `"abc"`}, {"case x mt t 5", "5"}, {"fold s x l t x", "5"}, {"fold s x l 0 yes", "yes"}, {"fold s x l 0 if same s 0 yes one s", "[[yes]]"}, {"fold s x lo o x", "{a:-2}"},
		{"same 1 t", "no"}, {"same 0 no", "no"}, {`same 1 "1"`, "no"}, {"same none num none text", "yes"}, {"same empty num empty {}", "yes"}, {"same none num empty num", "no"}, {"same form end empty num", "no"}, {"same some 1 1", "no"}, {"same one 1 some 1", "no"}, {`same "" none num`, "no"},
		{"join l lt", `[3,-4,5,"b","","a"]`}, {"join one 1 one yes", "[1,yes]"}, {"at lt 0", `"b"`},
	} {
		wantEval(t, someBound, row[0], row[1])
	}
}

// Each op with kids of every sort, and with kids that stop, in each place: the first that stops, or is not what it must be, says how.
func TestRunEachRowOfKids(t *testing.T) {
	values := []node{}
	for _, s := range []string{"1", "0", `"q"`, "yes", "no", "one 5", "empty num", "some 3", "none num", "form a 1 end", "form end", "div 1 0", "at empty num 0", "mul 99999 99999", "unbound"} {
		values = append(values, readValue(t, s))
	}
	codes := map[[2]int]int{}
	row := func(op int, kids []node) {
		n := node{Op: op, Kids: kids}
		if op == impl.LiftSend {
			n.Num = 1
		}
		for _, part := range strings.Fields(opTable[op]) {
			if part == "X" || part == "N" {
				n.Names = append(n.Names, string(rune('a'+len(n.Names))))
			}
		}
		if op < impl.LiftDrop {
			wanted, code := toldEval(nil, n)
			wantMeans(t, nil, n, wanted, code)
			codes[[2]int{op, code}]++
			return
		}
		d := toldRun(n, form(""))
		wantRun(t, form(""), n, doneText(d))
		codes[[2]int{op, d.Code}]++
	}
	for op := impl.LiftSome; op <= impl.LiftEach; op++ {
		rows := [][]node{nil}
		for _, part := range strings.Fields(opTable[op]) {
			kids := map[string][]node{"V": values, "A": {nDrop(), nEmit(nOp(impl.LiftForm, "")), nEmit(nNum(1)), {Op: impl.LiftFail, Num: 8}}}[part]
			if kids == nil {
				continue
			}
			var longer [][]node
			for _, ahead := range rows {
				for _, kid := range kids {
					longer = append(longer, append(slices.Clip(ahead), kid))
				}
			}
			rows = longer
		}
		if op == impl.LiftForm {
			continue
		}
		for _, kids := range rows {
			row(op, kids)
		}
		if slices.Contains([]int{impl.LiftDrop, impl.LiftFail}, op) {
			continue
		}
		if codes[[2]int{op, 0}] == 0 || op != impl.LiftBoth && (codes[[2]int{op, 2}] == 0 || codes[[2]int{op, 6}] == 0) {
			t.Errorf("op %d: the codes are %v", op, codes)
		}
	}
}

// The first, second and third kid of another sort, behind a kid that stops and ahead of one.
func TestRunWrongKids(t *testing.T) {
	for _, row := range []struct {
		texts string
		code  int
	}{
		// The wrong one is the first, and what stops comes behind it.
		{"add t div 1 0; sub f div 1 0; mul l div 1 0; div m div 1 0; rem o div 1 0; less f div 1 0; less o div 1 0; and n same 1 div 1 0; or t same 1 div 1 0; if n div 1 0 div 1 0; put a l div 1 0; at t div 1 0; at m div 1 0; join n div 1 0; join m div 1 0; part n div 1 0 div 1 0; else n div 1 0; else l div 1 0; case x l div 1 0 div 1 0; case x o 1 div 1 0; map x t div 1 0; map x m div 1 0; keep x t div 1 0; keep x o div 1 0; fold s x t div 1 0 s; fold s x m div 1 0 s", 6},
		// The first stops, and the second is the wrong one.
		{"add div 1 0 t; sub div 1 0 t; mul div 1 0 t; div div 1 0 t; rem div 1 0 t; less div 1 0 t; same div 1 0 t; and same 1 div 1 0 n; or same 1 div 1 0 n; at map x l div 1 0 t; join show div 1 0 n; part show div 1 0 t t; keep x map x l div 1 0 x; put a form a div 1 0 end e; if same 1 div 1 0 t n", 2},
		// The second is the wrong one, ahead of a third that stops, and a third behind a second that stops.
		{"part l t div 1 0; part t f div 1 0; part lo mt div 1 0", 6}, {"part l div 1 0 t; part t div 1 0 t", 2},
		{"add n t; sub n t; mul n f; div n m; rem n l; div n yes; rem 1 t; less n t; less t n; less n f; less t lt; and f n; or not f n; at l t; at l f; at l m; join l t; join t l; join l n; join t n; join lt m; part l f 1; part l 0 t; part t 0 l; part t 0 none num; keep x l x; keep x l m", 6},
		{"add f 1; sub t 1; mul m 1; div l 1; rem o 1; less f f; less l l; less m m; less o o; and n f; or m f; not n; not m; not none flag; if n 1 2; if m 1 2; get a n; get a l; get a m; put a n 1; put a lo 1; cut a n; cut a t; at n 0; at t 0; at m 0; at o 0; size n; size f; size o; size m; join n n; join f f; join o o; join m m; part n 0 1; part o 0 0; show t; show m; show f; read n; read mt; read l; else n n; else l 1; else t 1; case x n 1 2; case x l 1 2; map x n 1; map x o 1; keep x n yes; keep x m yes; fold s x n 0 s; fold s x t 0 s", 6},
		// Names that are not bound, and fields that are not there.
		{"q; add q 1; add 1 q; let x 1 q; let q q 1; add let x 1 x x; case x mt q x; case x m q x; add case x m x 1 x; map x l q; join map x l x x; fold s x l 0 q; fold s x l x s; fold s x l s 0; add fold s x l 0 s x; if f q 1; keep x l q", 6},
		{"get c o; get aa o; get a e; get z z; cut c o; cut a e; cut only cut only z; get a cut a o; get b form a 1 end; get end o; cut a0 o; get a get b put b o e; map x lo get b x; add get q o t", 6},
		// What a kid must be is looked at ahead of the field.
		{"get q div 1 0; cut q div 1 0; get a form a 1 b div 1 0 end; cut a put b o div 1 0", 2}, {"get q n; cut q l", 6},
	} {
		for _, s := range strings.Split(row.texts, "; ") {
			wantEval(t, someBound, s, fmt.Sprintf("stop %d", row.code))
		}
	}
	for _, row := range [][2]string{
		{"emit 5", "stop 6 0"}, {`emit "q"`, "stop 6 0"}, {"emit yes", "stop 6 0"}, {"emit get l old", "stop 6 0"}, {"emit get m old", "stop 6 0"}, {"emit one old", "stop 6 0"}, {"emit some old", "stop 6 0"}, {"send paid 2 5", "stop 6 0"}, {"send paid 2 one old", "stop 6 0"}, {"emit q", "stop 6 0"}, {"send paid 2 q", "stop 6 0"}, {"emit get z old", "stop 6 0"}, {"emit div 1 0", "stop 2 0"},
		{"choose 1 drop drop", "stop 6 0"}, {"choose old fail 1 fail 2", "stop 6 0"}, {"choose some yes fail 1 fail 2", "stop 6 0"}, {"choose q fail 1 fail 2", "stop 6 0"}, {"choose same 1 div 1 0 fail 1 fail 2", "stop 2 0"},
		{"each x old fail 1", "stop 6 0"}, {"each x 5 fail 1", "stop 6 0"}, {`each x "q" fail 1`, "stop 6 0"}, {"each x get m old fail 1", "stop 6 0"}, {"each x q drop", "stop 6 0"}, {"take x q drop", "stop 6 0"}, {"both take x 1 drop emit form n x end", "stop 6 0"}, {"both each x get l old drop emit form n x end", "stop 6 0"},
		{"both emit old emit 5", "stop 6 0"}, {"both emit 5 fail 3", "stop 6 0"}, {"both fail 3 emit 5", "stop 5 3"}, {"choose yes emit old emit 5", "emit " + someOld},
		// What was made already is not told.
		{"both emit old fail 3", "stop 5 3"}, {"both both emit old send paid 2 old fail 0", "stop 5 0"}, {"each x get l old choose same x 5 fail 99 emit old", "stop 5 99"}, {"both each x get l old emit old emit form n div 1 0 end", "stop 2 0"},
	} {
		wantTextRun(t, row[0], row[1])
	}
}

// Names and trees that are not ok, nodes that are none, bodies that are none: StopBroken ahead of all.
func TestRunBadArguments(t *testing.T) {
	values := []node{nNum(1), nName("a"), nOp(impl.LiftDiv, "", nNum(1), nNum(0)), nOp(impl.LiftAt, "", node{Op: impl.LiftEmpty, Text: "num"}, nNum(0))}
	for _, n := range values {
		for _, name := range []string{"", "A", "1a", "a b", "a-", "ninebytes", "é", "a\x00", " a", "a_b"} {
			for _, vars := range [][]liftBound{{aBound(name, num(1))}, {aBound("a", num(1)), aBound(name, num(1))}, {aBound(name, num(1)), aBound("a", num(1))}} {
				wantMeans(t, vars, n, tree{}, 6)
			}
		}
		for _, x := range badTrees() {
			for _, vars := range [][]liftBound{{aBound("a", x)}, {aBound("a", num(1)), aBound("b", x)}, {aBound("b", x), aBound("a", num(1))}, {aBound("a", x), aBound("a", num(1))}} {
				wantMeans(t, vars, n, tree{}, 6)
			}
		}
	}
	for _, name := range []string{"a", "abcdefgh", "a1234567", "add", "end", "yes", "no", "drop", "old"} {
		wantMeans(t, []liftBound{aBound(name, text("q"))}, nNum(1), num(1), 0)
		wantMeans(t, []liftBound{aBound(name, text("q"))}, nOp(impl.LiftDiv, "", nNum(1), nNum(0)), tree{}, 2)
	}
	// One name several times: the last counts.
	for _, row := range [][2]string{{"x 1; x 2", "2"}, {"x 1; y 3; x 2; z 4", "2"}, {`x 2; x "q"`, `"q"`}, {"x 1; x 2; x ~", "~"}, {"x [1,2]; y 1", "[1,2]"}} {
		wantEval(t, row[0], "x", row[1])
	}
	wantEval(t, "x 1; x 2", "let x 3 x", "3")
	wantEval(t, "x 1; x 2", "add let x 3 x x", "5")

	bodies := map[string]tree{"nothing": {}, "a number": num(1), "a text": text("q"), "a flag": flag(1), "a list": list(form("")), "a maybe": maybe(form("")), "121 parts": form("a", partsTree(120)), "7 levels": form("a", within(num(1), 5)), "names": form("b a", num(1), num(2)), "no kids": form("a"), "a bad kid": form("a", num(1000000000)), "a long text": form("a", text(strings.Repeat("q", 61))), "a number too": {Sort: 5, Num: 1}}
	for _, n := range []node{nDrop(), {Op: impl.LiftFail, Num: 3}, nEmit(nName("old")), nEmit(nOp(impl.LiftDiv, "", nNum(1), nNum(0))), nEmit(nNum(1))} {
		for what, old := range bodies {
			wantRun(t, old, n, "stop 6 0")
			if okTree(old) && old.Sort == 5 {
				t.Errorf("%s is a body", what)
			}
		}
		for _, x := range badTrees() {
			wantRun(t, x, n, "stop 6 0")
			wantRun(t, form("a", x), n, "stop 6 0")
		}
	}
	wantRun(t, form(""), nDrop(), "drop")
	wantRun(t, tree{Sort: 5, Names: []string{}, Kids: []tree{}}, nEmit(nName("old")), "emit {}")
}

// Nodes that are no value, or no action, that is ok.
func TestRunNotOk(t *testing.T) {
	bad := []node{{}, {Op: 44}, {Op: -1}, {Op: impl.LiftNum, Text: "q"}, {Op: impl.LiftSome}, nOp(impl.LiftSome, "", nNum(1), nNum(2)), nOp(impl.LiftSome, "", node{}), nOp(impl.LiftSome, "", nDrop()), nBoth(nDrop(), nNum(1)), nOp(impl.LiftLet, "", nNum(1), nNum(1)), nOp(impl.LiftLet, "add", nNum(1), nNum(1)), nOp(impl.LiftFold, "a a", nName("l"), nNum(1), nNum(1)),
		nOp(impl.LiftForm, "b a", nNum(1), nNum(1)), nOp(impl.LiftForm, "end", nNum(1)), {Op: impl.LiftNone, Text: "nun"}, nNum(impl.TreeMaxNum + 1), nText("\""), nFlag(2), {Op: impl.LiftSend, Names: []string{"t"}, Kids: []node{nOp(impl.LiftForm, "")}}, nEmit(nFields(199, nNum(1))), nFields(200, nNum(1)), nEmit(nWithin(nNum(1), impl.LiftSome, 23)), nWithin(nNum(1), impl.LiftSome, 24), longLift(3001), longLift(3006).Kids[0], {Op: impl.LiftFail, Num: 100}, {Op: impl.LiftFail, Num: -1}, nBoth(nDrop(), node{Op: impl.LiftFail, Num: -1}), nOp(impl.LiftIf, "", nFlag(1), nNum(1), node{}), nOp(impl.LiftChoose, "", nFlag(1), nDrop(), node{})}
	for _, n := range bad {
		wantMeans(t, nil, n, tree{}, 6)
		wantRun(t, form(""), n, "stop 6 0")
	}
	for _, row := range eachOp() {
		if value := row.node; value.Op == impl.LiftEmit {
			wantMeans(t, nil, value, tree{}, 6)
			wantRun(t, form(""), value.Kids[0], "stop 6 0")
		} else {
			wantMeans(t, nil, value, tree{}, 6)
		}
	}
	// Those that just meet the bounds of nodes, levels and bytes.
	wantMeans(t, nil, nWithin(nFlag(1), impl.LiftNot, 23), flag(0), 0)
	wantMeans(t, nil, nOp(impl.LiftSize, "", nWithin(nNum(1), impl.LiftOne, 22)), tree{}, 4)
	wantMeans(t, nil, nFields(119, nNum(1)), okFields(119), 0)
	wantMeans(t, nil, nFields(120, nNum(1)), tree{}, 4)
	wantMeans(t, nil, nFields(199, nNum(1)), tree{}, 4)
	wantMeans(t, nil, longLift(3000).Kids[0], toldOrNone(longLift(3000).Kids[0]), codeOf(longLift(3000).Kids[0]))
	wantRun(t, form(""), longLift(3000), doneText(toldRun(longLift(3000), form(""))))
}

// okFields is what nFields of ones means.
func okFields(n int) tree {
	made := form("")
	for i := range n {
		made.Names, made.Kids = append(made.Names, fmt.Sprintf("n%03d", i)), append(made.Kids, num(1))
	}
	return made
}

func toldOrNone(n node) tree {
	x, _ := toldEval(nil, n)
	return x
}

func codeOf(n node) int {
	_, code := toldEval(nil, n)
	return code
}

// A cost of just LiftMaxCost and one more, a fan of just LiftMaxFan and one more.
func TestRunCostAndFan(t *testing.T) {
	t.Parallel()
	full := form("l", list(repeat(num(1), 20)...))
	for _, op := range []int{impl.LiftMap, impl.LiftKeep, impl.LiftFold, impl.LiftEach} {
		for _, cost := range []int{39998, 39999, 40000} {
			n := costing(t, op, cost)
			wantRun(t, full, n, doneText(toldRun(n, full)))
			wantRun(t, form("l", list()), n, "drop")
			if d := impl.LiftRun(n, full); d.Code == 6 {
				t.Errorf("op %d costs %d: %v", op, cost, d)
			}
		}
		for _, cost := range []int{40001, 40002, 41000, 79999} {
			wantRun(t, full, costing(t, op, cost), "stop 6 0")
			wantRun(t, form("l", list()), costing(t, op, cost), "stop 6 0")
		}
		if op == impl.LiftEach {
			continue
		}
		value, bound := costing(t, op, 40000).Kids[0], []liftBound{aBound("old", full)}
		told, code := toldEval(bound, value)
		if impl.LiftCost(value) != 39998 || code == 6 {
			t.Errorf("op %d: %d, %d", op, impl.LiftCost(value), code)
		}
		wantMeans(t, bound, value, told, code)
		one := nOp(impl.LiftSame, "", value, value)
		wantMeans(t, bound, one, tree{}, 6)
		for _, around := range []int{1, 2, 3} {
			n := nWithin(value, impl.LiftOne, around)
			told, code := toldEval(bound, n)
			if (code == 6) != (around > 2) {
				t.Errorf("op %d, %d around: the tests themselves tell %d", op, around, code)
			}
			wantMeans(t, bound, n, told, code)
		}
	}
	bare := form("l", list())
	twenty := strings.TrimSuffix(strings.Repeat("emit {n:1} | ", 400), " | ")
	wantRun(t, full, readLift(t, "each x get l old each y get l old emit form n 1 end"), twenty)
	wantRun(t, full, readLift(t, "both each x get l old each y get l old emit form n 1 end drop"), twenty)
	wantRun(t, full, readLift(t, "choose yes each x get l old each y get l old emit form n 1 end emit form end"), twenty)
	wantRun(t, bare, readLift(t, "each x get l old each y get l old emit form n 1 end"), "drop")
	for _, s := range []string{"both each x get l old each y get l old emit form n 1 end emit form n 1 end", "both emit form n 1 end each x get l old each y get l old emit form n 1 end", "each x get l old each y get l old both emit form n 1 end emit form n 1 end", "choose no each x get l old each y get l old each z get l old emit form end drop", "each x get l old each y get l old choose yes drop both emit old emit old"} {
		wantRun(t, full, readLift(t, s), "stop 6 0")
		wantRun(t, bare, readLift(t, s), "stop 6 0")
	}
	// Too costly and too wide, and yet a `fail` would come first.
	wantRun(t, full, nBoth(node{Op: impl.LiftFail, Num: 3}, costing(t, impl.LiftEach, 40000)), "stop 6 0")
	wantRun(t, full, readLift(t, "both fail 3 each x get l old each y get l old each z get l old emit form end"), "stop 6 0")
}

// bodyOf is a body of a schema, by chance: a small one, or one whose lists are filled.
func bodyOf(r *rand.Rand, k kind) tree {
	for {
		x := treeOfKind(r, k)
		if room := 30 + r.Intn(91); r.Intn(3) == 0 {
			x = largeTree(r, k, &room)
		}
		if okTree(x) {
			return x
		}
	}
}

// edgy puts other numbers and texts in a node, some at their bounds.
func edgy(r *rand.Rand, n *node) {
	if n.Op == impl.LiftNum && r.Intn(3) == 0 {
		n.Num = []int{999999999, -999999999, 31623, -1, 0, 19, 20, 3}[r.Intn(8)]
	}
	if n.Op == impl.LiftText && r.Intn(3) == 0 {
		n.Text = []string{strings.Repeat("q", 60), strings.Repeat("q", 31), "12", "-0", "999999999", "1000000000", "q", "qq"}[r.Intn(8)]
	}
	for i := range n.Kids {
		edgy(r, &n.Kids[i])
	}
}

// P11: upcasters that are accepted make events of the schemas of their sinks, not more than their fan, or stop with a code that is named; and just those that the tests themselves tell. Others too do what is told.
func TestRunMany(t *testing.T) {
	t.Parallel()
	r := rand.New(rand.NewSource(15))
	sinks, told := sinksOf(t, "@0 {a:num}; paid@1 {}; paid@2 {a:num,b:text}; paid@3 {o:{a:num}}")
	from := "{a:num,b:text,l:[num],m:?text}"
	fromKind := readKind(t, from)
	codes, ops, made := map[int]int{}, map[int]int{}, 0
	for range 7000 {
		n := actionOf(r, bindings{{"old", from}}, told, 1+r.Intn(6)+r.Intn(20)/18*2)
		edgy(r, &n)
		for range 3 {
			f := impl.LiftCheck(fromKind, sinks, n)
			for range 4 {
				old := bodyOf(r, fromKind)
				d := impl.LiftRun(n, old)
				if wanted := toldRun(n, old); !sameDone(d, wanted) {
					t.Fatalf("%q of %s: %s, but the tests tell %s", impl.LiftWrite(n), impl.TreeWrite(old), doneText(d), doneText(wanted))
				}
				if f.Code != 0 {
					continue
				}
				codes[d.Code]++
				made += len(d.Outs)
				wantSound(t, n, sinks, old, d)
			}
			if f.Code == 0 {
				countOps(n, ops)
			}
			n = copyNode(n)
			otherPart(r, &n)
		}
	}
	for code, least := range map[int]int{0: 5000, 1: 100, 2: 100, 3: 500, 4: 10, 5: 1000} {
		if codes[code] < least {
			t.Errorf("the code %d came %d times", code, codes[code])
		}
	}
	for op := 1; op <= 43; op++ {
		if ops[op] < 100 {
			t.Errorf("the op %d came %d times in what is accepted", op, ops[op])
		}
	}
	if codes[6] != 0 || made < 5000 {
		t.Errorf("%v, %d events", codes, made)
	}
}

// wantSound is P11 for one that is accepted, and what came of a body of its schema.
func wantSound(t *testing.T, n node, sinks []liftSink, old tree, d liftDone) {
	t.Helper()
	if d.Code < 0 || d.Code > 5 || len(d.Outs) > impl.LiftFan(n) || d.Code != 5 && d.Why != 0 || d.Code != 0 && len(d.Outs) > 0 {
		t.Errorf("%q of %s: %s, the fan being %d", impl.LiftWrite(n), impl.TreeWrite(old), doneText(d), impl.LiftFan(n))
	}
	for _, out := range d.Outs {
		at := slices.IndexFunc(sinks, func(s liftSink) bool { return s.Name == out.Name && s.Version == out.Version })
		if at < 0 || !impl.KindHas(sinks[at].Kind, out.Body) {
			t.Errorf("%q of %s: %s %d %s is of no sink", impl.LiftWrite(n), impl.TreeWrite(old), out.Name, out.Version, impl.TreeWrite(out.Body))
		}
	}
}

// chanceBound are names with schemas and trees of them, by chance.
func chanceBound(t *testing.T, r *rand.Rand) (vars []liftVar, bound bindings, trees []liftBound) {
	for range r.Intn(5) {
		name, k := string(rune('u'+r.Intn(6))), chanceKind(r)
		vars, bound = append(vars, liftVar{Name: name, Kind: readKind(t, k)}), bound.and(name, k)
		trees = append(trees, liftBound{Name: name, Tree: bodyOf(r, readKind(t, k))})
	}
	return vars, bound, trees
}

// P14, P19: values have the schema that was reckoned for them, or stop with a code from StopOver to StopBig; a name that is not used changes nothing.
func TestRunManyValues(t *testing.T) {
	t.Parallel()
	r := rand.New(rand.NewSource(16))
	codes := map[int]int{}
	for range 8000 {
		vars, bound, trees := chanceBound(t, r)
		n := valueOf(r, bound, chanceKind(r), 1+r.Intn(6))
		edgy(r, &n)
		for range 3 {
			x, code := impl.LiftEval(trees, n)
			if wanted, wantedCode := toldEval(trees, n); code != wantedCode || !sameTree(x, wanted) {
				t.Fatalf("%v of %v: %v %d, but the tests tell %v %d", n, trees, x, code, wanted, wantedCode)
			}
			k, f := impl.LiftKind(vars, n)
			if f.Code == 0 {
				codes[code]++
				costly := impl.LiftCost(n) > impl.LiftMaxCost
				if code == 0 && !impl.KindHas(k, x) || code < 0 || code > 4 && !(costly && code == 6) || costly && code != 6 {
					t.Fatalf("%v of %v is of %q: %v %d", n, trees, impl.KindWrite(k), x, code)
				}
			}
			if nodesOf(n) < 40 {
				wantUnusedName(t, r, vars, trees, n)
			}
			n = copyNode(n)
			otherPart(r, &n)
		}
	}
	for code, least := range map[int]int{0: 5000, 1: 50, 2: 50, 3: 500, 4: 10} {
		if codes[code] < least {
			t.Errorf("the code %d came %d times", code, codes[code])
		}
	}
}

// wantUnusedName is P19: a name that a value does not use, or that is bound again, is bound ahead of all others.
func wantUnusedName(t *testing.T, r *rand.Rand, vars []liftVar, trees []liftBound, n node) {
	t.Helper()
	k, f := impl.LiftKind(vars, n)
	x, code := impl.LiftEval(trees, n)
	other := readKind(t, chanceKind(r))
	for _, name := range []string{"unused", "add", "end"} {
		moreVars := append([]liftVar{{Name: name, Kind: other}}, vars...)
		moreTrees := append([]liftBound{{Name: name, Tree: bodyOf(r, other)}}, trees...)
		k2, f2 := impl.LiftKind(moreVars, n)
		x2, code2 := impl.LiftEval(moreTrees, n)
		if f != f2 || !sameKind(k, k2) || code != code2 || !sameTree(x, x2) {
			t.Fatalf("%v with %q ahead: %v %v %v %d, without it %v %v %v %d", n, name, k2, f2, x2, code2, k, f, x, code)
		}
	}
}

// P19: told one by one; and a name that is used does change something.
func TestRunUnusedNames(t *testing.T) {
	for _, s := range []string{"1", "n", "let q 1 q", "map q l q", "fold q x l 0 add q x", "case q m q 0", "keep q l less q 0", "form q 1 end", "get q form q 1 end", "put q o 1", `"q"`, "none {q:num}"} {
		for _, x := range []string{"1", `"t"`, "[]", "{q:1}", "~"} {
			wanted, code := impl.LiftEval(boundsOf(t, someBound), readValue(t, s))
			wantMeans(t, boundsOf(t, "q "+x+"; "+someBound), readValue(t, s), wanted, code)
			if code != 0 {
				t.Errorf("%q stops with %d", s, code)
			}
		}
	}
	wantEval(t, "", "q", "stop 6")
	wantEval(t, "q 1", "q", "1")
	wantEval(t, "q 1; q 2", "q", "2")
	wantEval(t, "q 1", "let q add q 1 q", "2")
}

// P17: two upcasters, one behind the other.
func TestRunBoth(t *testing.T) {
	old := readTree(t, someOld)
	actions := []string{"drop", "fail 0", "fail 7", "emit old", "emit form n 1 end", "send paid 2 form end", "emit 5", "emit form n div 1 0 end", "emit form n at get l old 3 end", "emit form n add 999999999 1 end", "each x get l old emit form n x end", "each x get l old choose less x 0 fail 3 emit form n x end", "both emit form n 1 end fail 2", "both drop emit form n 2 end", "take x 1 emit form n x end", "emit form n x end", "choose get f old emit form n 1 end drop"}
	for _, a := range actions {
		for _, b := range actions {
			wantBothOf(t, readLift(t, a), readLift(t, b), old)
		}
	}
	r := rand.New(rand.NewSource(17))
	sinks, from := [][2]string{{"@0", "{a:num}"}, {"paid@1", "{}"}}, "{a:num,b:text,l:[num],m:?text}"
	fine := 0
	for range 5000 {
		a, b := actionOf(r, bindings{{"old", from}}, sinks, 1+r.Intn(4)), actionOf(r, bindings{{"old", from}}, sinks, 1+r.Intn(4))
		edgy(r, &a)
		edgy(r, &b)
		if wantBothOf(t, a, b, bodyOf(r, readKind(t, from))) {
			fine++
		}
	}
	if fine < 4000 {
		t.Errorf("%d pairs are fine", fine)
	}
}

// wantBothOf is P17 for two upcasters; false, if both together are not ok, too costly or too wide.
func wantBothOf(t *testing.T, a, b node, old tree) bool {
	t.Helper()
	both := nBoth(a, b)
	if !okAs(both, "A") || atMost(toldCost(both), 40000) > 40000 || atMost(toldFan(both), 400) > 400 {
		if d := impl.LiftRun(both, old); !sameDone(d, liftDone{Code: 6}) {
			t.Errorf("too much at once: %s", doneText(d))
		}
		return false
	}
	first, second := impl.LiftRun(a, old), impl.LiftRun(b, old)
	wanted := liftDone{Outs: slices.Concat(first.Outs, second.Outs)}
	if first.Code != 0 {
		wanted = first
	} else if second.Code != 0 {
		wanted = second
	}
	if d := impl.LiftRun(both, old); !sameDone(d, wanted) {
		t.Errorf("%q: %s, one by one %s", impl.LiftWrite(both), doneText(d), doneText(wanted))
	}
	return true
}

// P18: what is done for each element, for a first part and then for the rest.
func TestRunEachInParts(t *testing.T) {
	t.Parallel()
	r := rand.New(rand.NewSource(18))
	sinks, from := [][2]string{{"@0", "{a:num}"}, {"paid@1", "{}"}}, "{a:num,l:[num]}"
	bound := bindings{{"old", from}, {"x", "num"}}
	stops, makes := 0, 0
	for range 3000 {
		done := actionOf(r, bound, sinks, 1+r.Intn(4))
		if r.Intn(2) == 0 {
			done = nOp(impl.LiftChoose, "", nOp(impl.LiftSame, "", nName("x"), nNum(r.Intn(5))), node{Op: impl.LiftFail, Num: r.Intn(100)}, done)
		}
		if r.Intn(3) == 0 {
			done = nEmit(nOp(impl.LiftForm, "a", nOp(impl.LiftDiv+r.Intn(2), "", nNum(7), nOp(impl.LiftSub, "", nName("x"), nNum(r.Intn(9))))))
		}
		elements := list()
		for range r.Intn(12) {
			elements.Kids = append(elements.Kids, num(r.Intn(14)-4))
		}
		each := nOp(impl.LiftEach, "x", readValue(t, "get l old"), done)
		if !okAs(each, "A") || atMost(toldCost(each), 40000) > 40000 || atMost(toldFan(each), 400) > 400 {
			continue
		}
		of := func(kids []tree) liftDone { return impl.LiftRun(each, form("a l", num(3), list(kids...))) }
		// `get l old` within what is done would see the part alone.
		if strings.Count(impl.LiftWrite(each), "old") > 1 {
			continue
		}
		whole := of(elements.Kids)
		if whole.Code != 0 {
			stops++
		} else if len(whole.Outs) > 1 {
			makes++
		}
		for cut := range len(elements.Kids) + 1 {
			first, rest := of(elements.Kids[:cut]), of(elements.Kids[cut:])
			wanted := liftDone{Outs: slices.Concat(first.Outs, rest.Outs)}
			if first.Code != 0 {
				wanted = first
			} else if rest.Code != 0 {
				wanted = rest
			}
			if !sameDone(whole, wanted) {
				t.Fatalf("%q of %v, cut at %d: %s, in parts %s", impl.LiftWrite(each), elements, cut, doneText(whole), doneText(wanted))
			}
		}
	}
	if stops < 200 || makes < 200 {
		t.Errorf("%d stop, %d make several", stops, makes)
	}
	// With `part` within one upcaster, wherever it is cut.
	for _, done := range []string{"emit form n x end", "choose less x 0 fail 4 emit form n x end", "emit form n div 1 sub x 5 end", "both emit form n x end send paid 2 form end", "drop"} {
		whole := impl.LiftRun(readLift(t, "each x get l old "+done), readTree(t, someOld))
		for cut := range 4 {
			wantTextRun(t, fmt.Sprintf("both each x part get l old 0 %d %s each x part get l old %d 3 %s", cut, done, cut, done), doneText(whole))
		}
	}
}

// Nodes by chance, in which hardly anything fits, and nodes that are spoiled.
func TestRunAnyNodes(t *testing.T) {
	t.Parallel()
	r := rand.New(rand.NewSource(19))
	old := readTree(t, someOld)
	codes := map[int]int{}
	for range 30000 {
		n := anyLift(r, "A", 1+r.Intn(5))
		if r.Intn(6) == 0 {
			spoilLift(r, &n)
		}
		d := impl.LiftRun(n, old)
		if wanted := toldRun(n, old); !sameDone(d, wanted) {
			t.Fatalf("%v: %s, but the tests tell %s", n, doneText(d), doneText(wanted))
		}
		value := anyLift(r, "V", 1+r.Intn(4))
		if r.Intn(6) == 0 {
			spoilLift(r, &value)
		}
		bound := []liftBound{aBound("x", anyTree(r, 3)), aBound("a", list(num(1), num(2))), aBound("b", form("a x", num(1), text("q"))), aBound("old", flag(1))}
		x, code := impl.LiftEval(bound, value)
		if wanted, wantedCode := toldEval(bound, value); code != wantedCode || !sameTree(x, wanted) {
			t.Fatalf("%v: %v %d, but the tests tell %v %d", value, x, code, wanted, wantedCode)
		}
		codes[code]++
	}
	if codes[0] < 1000 || codes[6] < 1000 {
		t.Errorf("%v: too few to tell anything", codes)
	}
}

// Every function answers, at nodes and trees that hold themselves too.
func TestRunWithoutEnd(t *testing.T) {
	self := nBoth(nDrop(), nDrop())
	self.Kids[0], self.Kids[1] = self, self
	value := nOp(impl.LiftAdd, "", nNum(1), nNum(1))
	value.Kids[0], value.Kids[1] = value, value
	for _, n := range []node{self, value, nEmit(value), nBoth(nDrop(), self), {Op: impl.LiftForm, Kids: make([]node, 1000000), Names: make([]string, 1000000)}, {Op: math.MaxInt}, {Op: math.MinInt}} {
		if x, code := impl.LiftEval(nil, n); code != 6 || !sameTree(x, tree{}) {
			t.Errorf("a node without end: %v %d", x, code)
		}
		if d := impl.LiftRun(n, form("")); !sameDone(d, liftDone{Code: 6}) {
			t.Errorf("a node without end: %v", d)
		}
	}
	kids := make([]tree, 1)
	kids[0] = form("a", kids...)
	kids[0].Kids = kids
	for _, x := range []tree{kids[0], list(kids...), list(make([]tree, 1000000)...), {Sort: 5, Names: make([]string, 1000000), Kids: make([]tree, 1000000)}} {
		if y, code := impl.LiftEval([]liftBound{aBound("a", x)}, nNum(1)); code != 6 || !sameTree(y, tree{}) {
			t.Errorf("a tree without end: %v %d", y, code)
		}
		if d := impl.LiftRun(nDrop(), x); !sameDone(d, liftDone{Code: 6}) {
			t.Errorf("a body without end: %v", d)
		}
	}
	many := slices.Repeat([]liftBound{aBound("a", num(1))}, 300000)
	many[len(many)-1].Tree = text("q")
	if x, code := impl.LiftEval(many, nName("a")); code != 0 || !sameTree(x, text("q")) {
		t.Errorf("many names: %v %d", x, code)
	}
}

// The empty list and the nil list are the same value.
func TestRunEmptyAndNil(t *testing.T) {
	empty := tree{Sort: impl.TreeForm, Names: []string{}, Kids: []tree{}}
	for _, bare := range []node{{Op: impl.LiftForm, Names: []string{}, Kids: []node{}}, {Op: impl.LiftForm}, nOp(impl.LiftCut, "a", nOp(impl.LiftPut, "a", nOp(impl.LiftForm, ""), nNum(1)))} {
		for _, vars := range [][]liftBound{nil, {}} {
			wantMeans(t, vars, bare, empty, 0)
			wantMeans(t, vars, nOp(impl.LiftSame, "", bare, nOp(impl.LiftForm, "")), flag(1), 0)
		}
		for _, old := range []tree{empty, form("")} {
			wantRun(t, old, nEmit(bare), "emit {}")
			wantRun(t, old, nEmit(nName("old")), "emit {}")
		}
	}
	for _, x := range []tree{list(), {Sort: impl.TreeList, Names: []string{}, Kids: []tree{}}} {
		for _, s := range []string{"l", "join l l", "part l 0 0", "map x l q", "keep x l q"} {
			wantMeans(t, []liftBound{aBound("l", x)}, readValue(t, s), list(), 0)
		}
		wantMeans(t, []liftBound{aBound("l", x)}, readValue(t, "size l"), num(0), 0)
	}
	for _, x := range []tree{maybe(), {Sort: impl.TreeMaybe, Names: []string{}, Kids: []tree{}}} {
		wantMeans(t, []liftBound{aBound("m", x)}, readValue(t, "else m 5"), num(5), 0)
	}
}

// spareTree is a tree whose lists have room behind their ends, in which something stands.
func spareTree(x tree) tree {
	names := append(make([]string, 0, len(x.Names)+4), x.Names...)
	kids := append(make([]tree, 0, len(x.Kids)+4), x.Kids...)
	for i := range kids {
		kids[i] = spareTree(kids[i])
	}
	for i := len(names); i < cap(names); i++ {
		names[:cap(names)][i] = "spare"
	}
	for i := len(kids); i < cap(kids); i++ {
		kids[:cap(kids)][i] = text("spare")
	}
	return tree{Sort: x.Sort, Num: x.Num, Text: x.Text, Names: names, Kids: kids}
}

func wantSpareTree(t *testing.T, what string, x tree) {
	t.Helper()
	for _, name := range x.Names[len(x.Names):cap(x.Names)] {
		if name != "spare" {
			t.Errorf("%s: a name behind the end became %q", what, name)
		}
	}
	for _, kid := range x.Kids[len(x.Kids):cap(x.Kids)] {
		if !sameTree(kid, text("spare")) {
			t.Errorf("%s: a tree behind the end became %v", what, kid)
		}
	}
	for _, kid := range x.Kids {
		wantSpareTree(t, what, kid)
	}
}

// valuesOfOld are values that take `old` apart and put it together again.
var valuesOfOld = []string{"old", "put a old 1", "put c old 1", "put z old old", "cut a old", "cut o old", "form a old b old end", "form q one old end", "get o old", "put x get o old 1", "put y get o old old", "form a get l old b get l old end", "form l join get l old get l old end", "form l part get l old 0 2 end", "form l part get l old 1 3 end", "form l map x get l old x end", "form l map x get l old old end",
	"form l keep x get l old less 0 x end", "form l fold s x get l old get l old join s one x end", "form l join part get l old 0 1 part get l old 0 1 end", "form t part get b old 0 2 u join get b old get b old end", "form t show get a old end", "let x old form a x b x end", "if yes old old", "else some old old", "case x some old x old", "at one old 0", "put l old join part get l old 0 1 one 9"}

// Nothing is written into an argument or behind its end.
func TestRunArgumentsStay(t *testing.T) {
	plain := readTree(t, someOld)
	for _, s := range valuesOfOld {
		old := spareTree(plain)
		vars := append(make([]liftBound, 0, 4), liftBound{Name: "old", Tree: old})
		n := readValue(t, s)
		n.Names, n.Kids = slices.Grow(n.Names, 3), slices.Grow(n.Kids, 3)
		before := copyNode(n)
		if _, code := impl.LiftEval(vars, n); code != 0 {
			t.Errorf("%q stops with %d", s, code)
		}
		impl.LiftRun(nEmit(n), old)
		impl.LiftRun(nBoth(nEmit(n), nEmit(n)), old)
		if !sameTree(old, plain) || !sameNode(n, before) || vars[0].Name != "old" {
			t.Errorf("%q: something was changed", s)
		}
		wantSpareTree(t, s, old)
		if v := vars[:2][1]; v.Name != "" || !sameTree(v.Tree, tree{}) {
			t.Errorf("%q: a name behind the end became %v", s, v)
		}
		for i, kid := range n.Kids[len(n.Kids):cap(n.Kids)] {
			if !sameNode(kid, node{}) {
				t.Errorf("%q: the kid %d behind the end became %v", s, i, kid)
			}
		}
		for i, name := range n.Names[len(n.Names):cap(n.Names)] {
			if name != "" {
				t.Errorf("%q: the name %d behind the end became %q", s, i, name)
			}
		}
	}
}

// wantListsApart writes into one list of an answer after another, its spare room included: all others stay.
func wantListsApart(t *testing.T, what string, answer func() tree) {
	t.Helper()
	wanted := answer()
	count := 0
	for i := 0; ; i++ {
		x, at := answer(), 0
		var spoil func(x *tree) bool
		spoil = func(x *tree) bool {
			if at++; at > i {
				for j := range x.Names[:cap(x.Names)] {
					x.Names[:cap(x.Names)][j] = "spoilt"
				}
				for j := range x.Kids[:cap(x.Kids)] {
					x.Kids[:cap(x.Kids)][j] = tree{Sort: 77}
				}
				*x = tree{Sort: 99}
				return true
			}
			for j := range x.Kids {
				if spoil(&x.Kids[j]) {
					return true
				}
			}
			return false
		}
		if !spoil(&x) {
			break
		}
		count++
		if !sameButSpoilt(x, wanted) {
			t.Errorf("%s: two lists of the answer share something: %v, wanted %v", what, x, wanted)
		}
	}
	if count != parts(wanted) {
		t.Errorf("%s: %d of %d parts", what, count, parts(wanted))
	}
}

func sameButSpoilt(x, wanted tree) bool {
	if x.Sort == 99 {
		return true
	}
	return x.Sort == wanted.Sort && x.Num == wanted.Num && x.Text == wanted.Text && slices.Equal(x.Names, wanted.Names) && slices.EqualFunc(x.Kids, wanted.Kids, sameButSpoilt)
}

// Every answer is new memory: it shares none with an argument, and no two lists of one answer share any.
func TestRunAnswersAreNew(t *testing.T) {
	plain := readTree(t, someOld)
	for _, s := range append(valuesOfOld, `form a "text" b form end c none num d empty num end`, `form a one "long text" b one "long text" end`) {
		old, n := copyTree(plain), readValue(t, s)
		vars := []liftBound{{Name: "old", Tree: old}}
		x, code := impl.LiftEval(vars, n)
		if code != 0 {
			t.Fatalf("%q stops with %d", s, code)
		}
		wantTextsApart(t, textsOf(x), textsOf(old))
		wantTextsApart(t, textsOf(x), liftTexts(n))
		wantListsApart(t, s, func() tree { x, _ := impl.LiftEval(vars, n); return x })
		twice := nBoth(nEmit(n), nOp(impl.LiftBoth, "", nEmit(n), node{Op: impl.LiftSend, Num: 1, Names: []string{"longname"}, Kids: []node{n}}))
		run := func() tree {
			d := impl.LiftRun(twice, old)
			all := list()
			for _, out := range d.Outs {
				wantTextsApart(t, append(textsOf(out.Body), out.Name), append(textsOf(old), liftTexts(twice)...))
				all.Kids = append(all.Kids, out.Body)
			}
			if d.Code != 0 || len(d.Outs) != 3 {
				t.Fatalf("%q: %s", s, doneText(d))
			}
			return all
		}
		wantListsApart(t, s, run)
		first, second := impl.LiftRun(twice, old), impl.LiftRun(twice, old)
		spoilAll(first.Outs[0].Body)
		first.Outs[0] = liftOut{Name: "spoilt"}
		if !sameDone(second, impl.LiftRun(twice, old)) || !sameTree(old, plain) || !sameNode(n, readValue(t, s)) {
			t.Errorf("%q: an answer shares something", s)
		}
	}
}
