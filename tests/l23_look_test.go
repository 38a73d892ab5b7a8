package tests

import (
	"fmt"
	"math"
	"math/rand"
	"slices"
	"strings"
	"testing"

	"loop.example/teagle/impl"
)

type codeFault = impl.CodeFault

// readCode is the code that a text is: ops as they are written, with "; " between.
func readCode(t *testing.T, s string) []codeOp {
	t.Helper()
	var ops []codeOp
	for _, line := range strings.Split(s, "; ") {
		words := strings.Fields(line)
		op := codeOp{Op: slices.IndexFunc(codeTable, func(row string) bool { return row != "" && strings.Fields(row)[0] == words[0] })}
		switch words[0] {
		case "push":
			cut := strings.LastIndex(line, " ")
			op.Tree, op.Kind = readTree(t, line[len("push "):cut]), readKind(t, line[cut+1:])
		case "do":
			op.A, op.Names = slices.IndexFunc(opTable, func(row string) bool { return row != "" && strings.Fields(row)[0] == words[1] }), words[2:]
		case "loop":
			op.B, op.A = 1+slices.Index([]string{"map", "keep", "fold", "each"}, words[1]), numOf(words[2])
			if len(words) > 3 {
				op.Kind = readKind(t, words[3])
			}
		case "send":
			op.Names, op.A = words[1:2], numOf(words[2])
		default:
			if len(words) > 1 {
				op.A = numOf(words[1])
			}
		}
		ops = append(ops, op)
	}
	return ops
}

// here is what there is at a place, schemas being texts.
type here struct {
	stack, locals []string
	loops         []loopHere
}

type loopHere struct {
	first, sort   int
	kind, list    string
	stack, around []string
	locals        []string
}

// told is a text that two places have just if the same is there.
func (h here) told() string {
	var firsts []string
	for _, l := range h.loops {
		firsts = append(firsts, fmt.Sprint(l.first))
	}
	return strings.Join(h.stack, " ") + "|" + strings.Join(h.locals, " ") + "|" + strings.Join(firsts, " ")
}

// codeEyes look over code as the document tells; once there is a fault, nothing more is looked at.
type codeEyes struct {
	sinks map[string]string
	ops   []codeOp
	come  map[int]here
	at    int
	fault codeFault
}

func (e *codeEyes) want(holds bool, code int) bool {
	if !holds && e.fault.Code == 0 {
		e.fault = codeFault{Code: code, At: e.at}
	}
	return e.fault.Code == 0
}

func (e *codeEyes) comeTo(place int, h here) {
	if !e.want(place > e.at && place < len(e.ops), 5) {
		return
	}
	if before, is := e.come[place]; is {
		e.want(before.told() == h.told(), 4)
		return
	}
	e.come[place] = h
}

func plus(list []string, more ...string) []string {
	return append(slices.Clip(list), more...)
}

// taken takes one off the stack; it must be what a word of the table of kids says, or this schema.
func (e *codeEyes) taken(h *here, word string) string {
	if !e.want(len(h.stack) > 0, 2) {
		return ""
	}
	last := len(h.stack) - 1
	k := h.stack[last]
	h.stack = h.stack[:last:last]
	e.want(word == "any" || k == word || sortWord(k) == word, 3)
	return k
}

func (e *codeEyes) look(op codeOp, h here) {
	next := func(h here) {
		if e.fault.Code == 0 {
			e.comeTo(e.at+1, h)
		}
	}
	other := func(h here) {
		if e.fault.Code == 0 {
			e.comeTo(op.A, h)
		}
	}
	switch strings.Fields(codeTable[op.Op])[0] {
	case "push":
		next(here{plus(h.stack, textOf(op.Kind)), h.locals, h.loops})
	case "var":
		if e.want(op.A < len(h.locals), 2) {
			next(here{plus(h.stack, h.locals[op.A]), h.locals, h.loops})
		}
	case "do":
		k := e.done(op, &h)
		next(here{plus(h.stack, k), h.locals, h.loops})
	case "jump":
		other(h)
	case "no":
		e.taken(&h, "flag")
		next(h)
		other(h)
	case "none":
		if k := e.taken(&h, "maybe"); e.fault.Code == 0 {
			next(here{plus(h.stack, inside(k)), h.locals, h.loops})
		}
		other(h)
	case "bind":
		k := e.taken(&h, "any")
		next(here{h.stack, plus(h.locals, k), h.loops})
	case "free":
		if e.want(len(h.locals) > 0, 2) {
			next(here{h.stack, slices.Clip(h.locals[:len(h.locals)-1]), h.loops})
		}
	case "emit", "send":
		k := e.taken(&h, "any")
		sink, is := e.sinks[strings.Join(op.Names, "")+"@"+fmt.Sprint(op.A)]
		e.want(is && sink == k, 3)
		next(h)
	case "stop":
		e.want(len(h.stack) == 0 && len(h.locals) == 1 && len(h.loops) == 0, 4)
	case "loop":
		e.loop(op, h, next, other)
	case "next":
		e.next(op, h, next)
	}
}

func (e *codeEyes) done(op codeOp, h *here) string {
	kids, _, _ := strings.Cut(kidTable[op.A], ">")
	words := strings.Fields(kids)
	if op.A == impl.LiftForm {
		words = slices.Repeat([]string{"any"}, len(op.Names))
	}
	if !e.want(len(h.stack) >= len(words), 2) {
		return ""
	}
	cut := len(h.stack) - len(words)
	kinds := h.stack[cut:]
	h.stack = h.stack[:cut:cut]
	n := node{Op: op.A, Names: op.Names}
	l := looker{}
	for i, word := range words {
		if !e.want(l.kidWanted(n, word, kinds[:i], kinds[i]), 3) {
			return ""
		}
	}
	_, own, _ := strings.Cut(kidTable[op.A], ">")
	k, code := ownText(n, strings.TrimSpace(own), nil, kinds)
	if e.want(code == 0, 3) {
		e.want(fitsBounds(k), 3)
	}
	return k
}

func (l loopHere) leaves(h here) here {
	stack := l.stack
	switch l.sort {
	case 1:
		stack = plus(stack, "["+l.kind+"]")
	case 2:
		stack = plus(stack, l.list)
	case 3:
		stack = plus(stack, l.kind)
	}
	return here{stack, l.around, h.loops[: len(h.loops)-1 : len(h.loops)-1]}
}

func (e *codeEyes) loop(op codeOp, h here, next, other func(here)) {
	kind := ""
	if okKind(op.Kind) {
		kind = textOf(op.Kind)
	}
	bound := []string{}
	if op.B == 3 {
		e.taken(&h, kind)
		bound = []string{kind}
	}
	if e.fault.Code != 0 {
		return
	}
	list := e.taken(&h, "list")
	if e.fault.Code != 0 || op.B == 1 && !e.want(fitsBounds("["+kind+"]"), 3) {
		return
	}
	locals := plus(h.locals, append(bound, inside(list))...)
	l := loopHere{first: e.at + 1, sort: op.B, kind: kind, list: list, stack: h.stack, around: h.locals, locals: locals}
	under := here{h.stack, locals, append(slices.Clip(h.loops), l)}
	next(under)
	other(l.leaves(under))
}

func (e *codeEyes) next(op codeOp, h here, next func(here)) {
	last := len(h.loops) - 1
	if !e.want(last >= 0 && h.loops[last].first == op.A, 5) {
		return
	}
	l := h.loops[last]
	switch l.sort {
	case 1, 3:
		e.taken(&h, l.kind)
	case 2:
		e.taken(&h, "flag")
	}
	if e.fault.Code == 0 {
		e.want(slices.Equal(h.stack, l.stack) && slices.Equal(h.locals, l.locals), 4)
	}
	next(l.leaves(h))
}

// toldLook is by itself the first fault of code, from and the sinks being ok.
func toldLook(from string, sinks [][2]string, ops []codeOp) codeFault {
	if len(ops) < 1 || len(ops) > 1000 {
		return codeFault{Code: 1}
	}
	for i, op := range ops {
		if _, ok := toldOp(op, len(ops)); !ok {
			return codeFault{Code: 1, At: i}
		}
	}
	e := codeEyes{sinks: map[string]string{}, ops: ops, come: map[int]here{0: {locals: []string{from}}}}
	for _, sink := range sinks {
		if _, is := e.sinks[sink[0]]; !is {
			e.sinks[sink[0]] = sink[1]
		}
	}
	for i, op := range ops {
		e.at = i
		if h, is := e.come[i]; is && e.fault.Code == 0 {
			e.look(op, h)
		}
	}
	return e.fault
}

// wantLook: this is found in code, and P25 holds. The tests themselves tell the same.
func wantLook(t *testing.T, from, sinks string, ops []codeOp, code, at int) {
	t.Helper()
	list, told := sinksOf(t, sinks)
	wanted := codeFault{Code: code, At: at}
	f := impl.CodeLook(readKind(t, from), list, ops)
	if f != wanted {
		t.Errorf("%v is found, wanted %v, in\n%.900s", f, wanted, impl.CodeShow(ops))
	}
	if f := toldLook(from, told, ops); f != wanted {
		t.Errorf("the tests themselves tell %v, wanted %v, of\n%.900s", f, wanted, impl.CodeShow(ops))
	}
	wantFoundThere(t, f, ops)
}

// wantFoundThere is P25: what is not well formed is CodeBad; what is told is an op that is there, or 0.
func wantFoundThere(t *testing.T, f codeFault, ops []codeOp) {
	t.Helper()
	if f.At != 0 && (f.At < 0 || f.At >= len(ops)) || f.Code == 0 && f.At != 0 || !impl.CodeOk(ops) != (f.Code == impl.CodeBad) || f.Code < 0 || f.Code > 5 {
		t.Errorf("%v is told of %d ops, ok %v", f, len(ops), impl.CodeOk(ops))
	}
}

// wantSeen: this is found in the code of a text, with schemas of the tests.
func wantSeen(t *testing.T, s string, code, at int) {
	t.Helper()
	wantLook(t, someFrom, someSinks, readCode(t, s), code, at)
}

// P23: code that is made of an accepted upcaster passes.
func TestLookOfMade(t *testing.T) {
	sinks, _ := sinksOf(t, someSinks)
	from := readKind(t, someFrom)
	for _, n := range []node{readLift(t, everyOp), casesOf(199), costing(t, impl.LiftMap, 40000), costing(t, impl.LiftKeep, 40000), costing(t, impl.LiftFold, 40000), costly(t, 40000), nDrop(), readLift(t, "fail 3"), readLift(t, "both drop drop"), readLift(t, "choose yes drop drop"), readLift(t, "take x some 1 take z case x x add x 1 else x 2 drop"), nWithinBoth(24), readLift(t, "each x get l old each y get l old emit form n 1 end")} {
		ops, ok := impl.CodeMake(from, sinks, n)
		if !ok || !impl.CodeOk(ops) {
			t.Errorf("%.100q is not made", impl.LiftWrite(n))
		}
		wantLook(t, someFrom, someSinks, ops, 0, 0)
	}
	r := rand.New(rand.NewSource(23))
	sinks, told := sinksOf(t, chanceSinks)
	from = readKind(t, chanceFrom)
	made := 0
	for range 4000 {
		n := chanceLift(t, r)
		ops, ok := impl.CodeMake(from, sinks, n)
		if !ok {
			continue
		}
		made++
		if f := impl.CodeLook(from, sinks, ops); f != (codeFault{}) || !impl.CodeOk(ops) {
			t.Fatalf("%q: %v in\n%s", impl.LiftWrite(n), f, impl.CodeShow(ops))
		}
		if f := toldLook(chanceFrom, told, ops); f != (codeFault{}) {
			t.Fatalf("%q: the tests themselves tell %v of\n%s", impl.LiftWrite(n), f, impl.CodeShow(ops))
		}
	}
	if made < 3000 {
		t.Errorf("%d are made", made)
	}
}

// P23: ordinary code that is written by hand, in which nothing is found.
func TestLookNothingFound(t *testing.T) {
	for _, s := range []string{
		"stop", "fail 7", "jump 1; stop", "jump 1; fail 0", "var 0; bind; free; stop", "free; push 1 num; bind; stop", "push 1 num; bind; free; stop",
		"push 5 num; do form n; emit; stop", "do form; send paid 2; stop", `push "q" text; do form t; send paid 12; stop`,
		"push yes flag; no 2; stop", "push yes flag; no 3; jump 3; stop", "push yes flag; no 3; fail 1; stop", "push yes flag; no 4; push 1 num; jump 5; push 2 num; do form n; emit; stop",
		"push ~ ?num; none 4; bind; free; stop", "push ~ ?num; none 3; jump 4; push 1 num; do form n; emit; stop", "push ?1 ?num; none 5; do form n; emit; jump 5; stop", "push ~ ??num; none 5; none 5; bind; free; stop",
		"push [] [num]; loop each 3; next 2; stop", "push [] [num]; loop each 6; var 1; do form n; emit; next 2; stop", "push [] [num]; loop map 4 num; var 1; next 2; bind; free; stop", "push [] [num]; loop keep 4; push yes flag; next 2; bind; free; stop", "push [] [num]; push 0 num; loop fold 5 num; var 1; next 3; do form n; emit; stop",
		"push [] [num]; loop map 4 {}; do form; next 2; bind; free; stop", "push [] [text]; push [] [num]; loop fold 5 [num]; var 1; next 3; bind; free; stop",
		"push [] [[num]]; loop each 6; var 1; loop each 5; next 4; next 2; stop", "push [] [num]; loop each 6; push 1 num; bind; free; next 2; stop",
		// Something below on the stack, more locals around.
		"push 1 num; push [] [num]; loop map 5 num; var 1; next 3; bind; free; do form n; emit; stop", "push 1 num; bind; push [] [num]; loop each 5; next 4; free; stop", "push 1 num; push [] [num]; loop each 4; next 3; do form n; emit; stop",
		// A loop that is left by a fail, or in which something fails.
		"push [] [num]; loop each 3; fail 1; stop", "push [] [num]; loop each 6; push yes flag; no 5; fail 1; next 2; stop",
		// Locals may be others than from when it stops.
		"free; push yes flag; bind; stop", "free; push 5 num; bind; var 0; do form n; emit; stop",
		// Ops to which nobody comes are not looked at, whatever they are.
		"stop; stop", "stop; do add", "stop; jump 0", "stop; next 0; loop each 0; free; free; emit; do form a b", "fail 1; do add; var 1000; stop", "jump 4; push 1 num; do not; free; stop", "jump 2; loop map 0 num; stop; bind; bind", "push yes flag; no 4; jump 4; send none 3; stop", "push [] [num]; loop each 4; fail 1; next 3; stop", "jump 3; stop; stop; jump 4; stop",
		// One comes to a place by the next op and by jumps, with the same things.
		"push yes flag; no 4; push yes flag; no 4; stop", "push yes flag; no 5; push no flag; no 5; jump 5; stop", "push 1 num; push yes flag; no 3; do form n; emit; stop", "push 1 num; push yes flag; no 5; bind; jump 6; bind; free; stop",
	} {
		wantSeen(t, s, 0, 0)
	}
	// The last place there may be, and code as long as it may be.
	ops := slices.Repeat(readCode(t, "push 1 num; bind; free"), 333)
	ops = append(ops, codeOp{Op: impl.CodeStop})
	wantLook(t, someFrom, someSinks, ops, 0, 0)
	far := slices.Repeat(readCode(t, "do add"), 1000)
	far[0], far[999] = codeOp{Op: impl.CodeJump, A: 999}, codeOp{Op: impl.CodeStop}
	wantLook(t, someFrom, someSinks, far, 0, 0)
}

// wantAllSeen: each line is a code, the place at which it is found, and the code.
func wantAllSeen(t *testing.T, lines ...string) {
	t.Helper()
	for _, line := range lines {
		words := strings.SplitN(line, " ", 3)
		wantSeen(t, words[2], numOf(words[0]), numOf(words[1]))
	}
}

// P25: fewer on the stack than are taken, at each op; a local that is not there.
func TestLookEmpty(t *testing.T) {
	for op, count := range map[string]int{"some": 1, "one": 1, "not": 1, "get q": 1, "cut q": 1, "size": 1, "show": 1, "read": 1, "put q": 2, "add": 2, "sub": 2, "mul": 2, "div": 2, "rem": 2, "less": 2, "same": 2, "at": 2, "join": 2, "part": 3, "form a b c": 3, "form a": 1} {
		for have := range count {
			wantSeen(t, strings.Repeat("push 1 num; ", have)+"do "+op+"; stop", impl.CodeEmpty, have)
			// What is missing is found ahead of what is wrong.
			wantSeen(t, strings.Repeat("push ~ ?num; ", have)+"do "+op+"; stop", impl.CodeEmpty, have)
		}
	}
	wantAllSeen(t,
		"2 0 no 1; stop", "2 0 none 1; stop", "2 0 bind; stop", "2 0 emit; stop", "2 0 send paid 2; stop", "2 0 send nobody 1; stop",
		"2 0 loop each 1; next 1; stop", "2 0 loop map 1 num; next 1; stop", "2 0 loop keep 1; next 1; stop", "2 0 loop fold 1 num; next 1; stop", "2 1 push 1 num; loop fold 2 num; stop",
		"2 0 var 1; stop", "2 0 var 1000; stop", "2 1 free; var 0; stop", "2 2 push 1 num; bind; var 2; stop", "2 1 free; free; stop", "2 4 push 1 num; bind; free; free; free; stop",
		"2 2 push [] [num]; loop map 3 num; next 2; stop", "2 2 push [] [num]; loop keep 3; next 2; stop", "2 3 push [] [num]; push 1 num; loop fold 4 num; next 3; stop",
		"2 2 push [] [num]; loop each 3; var 2; next 2; stop", "2 0 no 0; stop", "2 0 loop each 0; stop")
}

// P25: what is taken is not what it must be.
func TestLookWrong(t *testing.T) {
	wantAllSeen(t,
		// Each kid of each plain op.
		"3 2 push yes flag; push 1 num; do add; stop", "3 2 push 1 num; push yes flag; do add; stop", `3 2 push "" text; push 1 num; do sub; stop`, "3 2 push 1 num; push ~ ?num; do sub; stop", "3 2 push 1 num; push ~ ?num; do mul; stop", "3 2 push ~ ?num; push 1 num; do mul; stop", "3 2 push [] [num]; push 1 num; do div; stop", "3 2 push 1 num; push [] [num]; do div; stop", "3 2 var 0; push 1 num; do rem; stop", "3 2 push 1 num; var 0; do rem; stop",
		"3 2 push yes flag; push yes flag; do less; stop", `3 2 push 1 num; push "" text; do less; stop`, `3 2 push "" text; push 1 num; do less; stop`, `3 2 push 1 num; push "" text; do same; stop`, "3 2 push [] [num]; push [] [text]; do same; stop", "3 1 push 1 num; do not; stop",
		"3 1 push 1 num; do get a; stop", "3 1 push 1 num; do cut a; stop", "3 2 push 1 num; push 2 num; do put a; stop", "3 1 var 0; do get z; stop", "3 1 var 0; do cut z; stop", "3 1 do form; do get z; stop",
		"3 2 push 1 num; push 1 num; do at; stop", "3 2 push [] [num]; push yes flag; do at; stop", `3 2 push "" text; push 1 num; do at; stop`, "3 1 push 1 num; do size; stop", "3 1 push ~ ?text; do size; stop", "3 2 push 1 num; push 1 num; do join; stop", "3 2 push [] [num]; push [] [text]; do join; stop", `3 2 push "" text; push [] [num]; do join; stop`,
		"3 3 push 1 num; push 1 num; push 1 num; do part; stop", "3 3 push [] [num]; push yes flag; push 1 num; do part; stop", `3 3 push "" text; push 1 num; push "" text; do part; stop`, "3 1 push yes flag; do show; stop", "3 1 push 1 num; do read; stop",
		// Schemas that are too big.
		"3 1 push [] [[[[[num]]]]]; do one; stop", "3 1 push ~ ?????num; do some; stop", "3 1 push [] [[[[[num]]]]]; do form a; stop", "3 2 do form; push [] [[[[[num]]]]]; do put a; stop", "3 5 var 0; var 0; var 0; var 0; var 0; do form a b c d e; stop",
		"4 2 push [] [[[[num]]]]; do one; stop", "4 2 push ~ ????num; do some; stop", "4 4 var 0; var 0; var 0; do form a b c; stop",
		// Of the other ops.
		"3 1 push 1 num; no 2; stop", "3 1 push ~ ?flag; no 2; stop", "3 1 push 1 num; none 2; stop", "3 1 push [] [num]; none 2; stop", "3 1 push yes flag; none 2; stop",
		"3 1 push 1 num; loop each 2; stop", `3 1 push "" text; loop map 2 num; stop`, "3 1 push ~ ?num; loop keep 2; stop", "3 2 push 1 num; push 1 num; loop fold 3 num; stop", `3 2 push [] [num]; push "" text; loop fold 3 num; stop`, "3 2 push [] [num]; push [] [text]; loop fold 3 [num]; stop",
		// What LoopFold begins with is taken, and looked at, ahead of the list.
		"3 2 push 1 num; push [] [num]; loop fold 3 num; stop", "3 1 push [] [num]; loop fold 2 num; stop", "2 1 push [] [num]; loop fold 2 [num]; stop", "3 1 push 1 num; loop fold 2 flag; stop",
		// The list of what LoopMap makes.
		"3 1 push [] [num]; loop map 2 [[[[[num]]]]]; stop", "3 1 push 1 num; loop map 2 [[[[[num]]]]]; stop", "2 0 loop map 1 [[[[[num]]]]]; stop", "4 1 push [] [num]; loop map 2 [[[[num]]]]; stop",
		"3 3 push [] [num]; loop map 4 num; push yes flag; next 2; stop", "3 4 push [] [num]; push 0 num; loop fold 5 num; push yes flag; next 3; stop", "3 3 push [] [num]; loop keep 4; push 1 num; next 2; stop", "3 3 push [] [num]; loop map 4 [num]; push [] [text]; next 2; stop", "3 3 push [] [flag]; loop map 4 num; var 1; next 2; stop",
		// Events.
		"3 1 push 1 num; emit; stop", "3 1 do form; emit; stop", "3 1 var 0; emit; stop", "3 2 push yes flag; do form n; emit; stop", "3 1 do form; send paid 1; stop", "3 1 do form; send paid 12; stop", "3 1 do form; send other 2; stop", "3 2 push 1 num; do form n; send paid 2; stop", "3 1 push 1 num; send paid 2; stop")
	for _, row := range [][2]string{{"38", "0 0"}, {"39", "3 1"}} {
		fields := numOf(row[0])
		k := textOf(kFields(fields, kNum))
		words := strings.Fields(row[1])
		s := "push [] [num]; loop map 3 " + k + "; fail 1; bind; free; stop"
		wantSeen(t, s, numOf(words[0]), numOf(words[1]))
	}
}

// P25: other things at a place to which one has come before; a loop that does not leave what there was; a stop with something left.
func TestLookUnlike(t *testing.T) {
	wantAllSeen(t,
		"4 2 push yes flag; no 3; push 1 num; stop", "4 3 push yes flag; no 4; push 1 num; bind; stop", "4 2 push yes flag; no 3; free; stop", "4 4 push yes flag; no 4; push 1 num; jump 5; push no flag; stop",
		"4 4 push yes flag; no 4; push [] [num]; jump 5; push [] [text]; bind; free; stop", "4 5 push yes flag; no 5; push 1 num; bind; jump 6; free; stop",
		"4 1 push ~ ?num; none 2; stop", "4 1 push ~ ?num; none 2; bind; free; stop",
		// A loop's next op and A are one place; one jumps out of a loop, into one, to its next ahead of its end.
		"4 1 push [] [num]; loop each 2; stop", "4 1 push [] [num]; loop each 2; next 2; stop", "4 2 push [] [num]; loop each 3; jump 3; stop", "4 3 push [] [num]; loop each 4; push yes flag; no 4; stop", "4 3 push [] [num]; loop each 5; push yes flag; no 5; next 2; stop",
		"4 3 push yes flag; no 4; push [] [num]; loop each 5; next 4; stop",
		// The same schemas, but in another loop, or in one more.
		"4 9 push yes flag; no 6; push [] [num]; loop each 13; var 1; jump 10; push [] [num]; loop each 13; var 1; jump 10; bind; free; next 8; stop",
		"4 3 push [] [num]; loop each 5; push [] [num]; loop each 5; fail 1; stop",
		// CodeNext with a stack that is deeper, less deep, or another.
		"4 3 push [] [num]; loop each 4; push 1 num; next 2; stop", "4 4 push [] [num]; loop map 5 num; push 1 num; push 1 num; next 2; stop", "4 5 push 1 num; push [] [num]; loop each 6; bind; free; next 3; stop", "4 6 push 1 num; push [] [num]; loop each 7; bind; free; push yes flag; next 3; stop", "4 3 push 1 num; push [] [num]; loop map 4 num; next 3; bind; free; stop",
		// With a local more, fewer, or another.
		"4 4 push [] [num]; loop each 5; push 1 num; bind; next 2; stop", "4 3 push [] [num]; loop each 4; free; next 2; stop", "4 4 push [] [num]; loop each 5; free; free; next 2; stop", "4 5 push [] [num]; loop each 6; free; push yes flag; bind; next 2; stop", "4 5 push [] [num]; push 0 num; loop fold 6 num; var 1; free; next 3; stop", "4 6 push [] [text]; push 0 num; loop fold 7 num; free; free; push 1 num; next 3; stop",
		// CodeStop with something on the stack, with two locals, with none, in a loop.
		"4 1 push 1 num; stop", "4 2 push 1 num; push 1 num; stop", "4 2 push 1 num; bind; stop", "4 1 free; stop", "4 2 push [] [num]; loop each 3; stop; stop", "4 1 var 0; stop", "4 3 push [] [num]; loop each 4; free; stop; stop")
	// A local that is of the same schema, but is bound anew, is as good.
	wantSeen(t, "push [] [num]; loop each 6; free; push 1 num; bind; next 2; stop", 0, 0)
	wantSeen(t, "push 5 num; push [] [num]; loop each 7; bind; free; push 1 num; next 3; do form n; emit; stop", 0, 0)
}

// P25: places that are not behind the op, and loops that are none.
func TestLookOff(t *testing.T) {
	wantAllSeen(t,
		// The op itself, the one ahead, the one behind, the last one.
		"5 0 jump 0; stop", "5 1 jump 1; jump 0; stop", "5 1 jump 1; jump 1; stop", "0 0 jump 1; jump 2; stop", "0 0 jump 1; jump 3; stop; stop",
		"5 1 push yes flag; no 1; stop", "5 1 push yes flag; no 0; stop", "0 0 push yes flag; no 2; stop", "5 1 push ~ ?num; none 1; bind; free; stop", "5 1 push ~ ?num; none 0; bind; free; stop",
		"5 1 push [] [num]; loop each 1; next 2; stop", "5 1 push [] [num]; loop each 0; next 2; stop", "5 1 push [] [num]; loop map 1 num; fail 1", "5 1 push [] [num]; loop keep 0; fail 1", "5 2 push [] [num]; push 1 num; loop fold 2 num; fail 1",
		// Behind the last op.
		"5 0 var 0", "5 1 var 0; bind", "5 0 free", "5 0 push 1 num", "5 1 push yes flag; no 1", "5 1 push ~ ?num; none 0", "5 2 push 1 num; do form n; emit", "5 1 do form; send paid 2", "5 0 do form", "5 1 push [] [num]; loop each 1", "5 1 push 1 num; bind",
		// CodeNext without a loop, or in another one.
		"5 0 next 0; stop", "5 0 next 1; stop", "5 1 push 1 num; next 0; stop", "5 2 push [] [num]; loop each 3; next 1; stop", "5 2 push [] [num]; loop each 3; next 3; stop", "5 2 push [] [num]; loop each 3; next 0; stop", "5 3 push [] [num]; loop each 3; next 2; next 2; stop", "5 3 push [] [num]; loop each 4; var 1; next 3; stop",
		"5 4 push [] [[num]]; loop each 6; var 1; loop each 5; next 2; next 2; stop", "5 5 push [] [[num]]; loop each 6; var 1; loop each 5; next 4; next 4; stop", "0 0 push [] [[num]]; loop each 6; var 1; loop each 5; next 4; next 2; stop",
		// It is looked whether it is in that loop ahead of what came, of the stack and of the locals.
		"5 2 push [] [num]; loop map 3 num; next 1; stop", "5 3 push [] [num]; loop map 4 num; push yes flag; next 1; stop", "5 3 push [] [num]; loop each 4; free; next 1; stop", "5 3 push [] [num]; loop each 4; push 1 num; next 1; stop",
		// What came, ahead of the stack and the locals.
		"3 4 push [] [num]; loop map 5 num; push 1 num; push yes flag; next 2; stop", "2 3 push [] [num]; loop keep 4; free; next 2; stop", "3 4 push [] [num]; loop keep 5; free; push 1 num; next 2; stop",
		// Both the next op and A are wrong: the next one first.
		"5 1 push yes flag; no 0", "5 1 push yes flag; no 1",
		"4 3 push yes flag; no 4; push ?1 ?num; none 0; bind; free; stop", "4 3 push yes flag; no 4; push [] [num]; loop each 0; stop", "4 4 push yes flag; no 5; free; push yes flag; no 1; stop")
}

// P25: what is found ahead of all, and in the order in which things are done.
func TestLookFirst(t *testing.T) {
	stop := readCode(t, "stop")
	from := readKind(t, someFrom)
	sinks, _ := sinksOf(t, someSinks)
	bad := func(what string, from kind, sinks []liftSink, ops []codeOp, at int) {
		t.Helper()
		if f := impl.CodeLook(from, sinks, ops); f != (codeFault{Code: impl.CodeBad, At: at}) {
			t.Errorf("%s: %v", what, f)
		}
	}
	for what, k := range badKinds() {
		bad("from: "+what, k, sinks, stop, 0)
		bad("a sink: "+what, from, []liftSink{{Kind: k}}, stop, 0)
		bad("the last sink: "+what, from, append(slices.Clip(sinks), aSink("t", 1, k)), stop, 0)
		bad("from and an op: "+what, k, sinks, []codeOp{stop[0], {}}, 0)
	}
	for _, k := range []kind{kNum, kText, kFlag, kList(kForm("")), kMaybe(kForm(""))} {
		bad("from no form", k, sinks, stop, 0)
		bad("a sink of no form", from, []liftSink{{Kind: k}}, stop, 0)
	}
	for _, sink := range []liftSink{aSink("", 1, kForm("")), aSink("t", 0, kForm("")), aSink("t", 13, kForm("")), aSink("T", 1, kForm("")), aSink("", -1, kForm("")), aSink("t", -1, kForm(""))} {
		bad("a sink that is none", from, []liftSink{sink}, stop, 0)
		bad("a sink that is none, and an op", from, []liftSink{sink}, []codeOp{stop[0], {}}, 0)
	}
	bad("no ops", from, sinks, nil, 0)
	bad("no ops", from, sinks, []codeOp{}, 0)
	wantLook(t, someFrom, someSinks, slices.Repeat(stop, 1000), 0, 0)
	bad("one op more", from, sinks, slices.Repeat(stop, 1001), 0)
	bad("one op more, and one that is not ok", from, sinks, append(slices.Repeat(stop, 1000), codeOp{}), 0)
	// One op that is not ok by itself, behind others that are wrong otherwise, and behind those to which one comes.
	for _, one := range []codeOp{{}, {Op: 15}, {Op: -1}, {Op: math.MaxInt}, {Op: impl.CodeStop, A: 1}, {Op: impl.CodeJump, A: 99}, {Op: impl.CodeVar, A: -1}, do(impl.LiftIf), {Op: impl.CodePush, Tree: num(1), Kind: kText}, {Op: impl.CodeFail, A: 100}, {Op: impl.CodeSend, A: 1}, {Op: impl.CodeLoop, B: 5}, {Op: impl.CodeLoop, B: impl.LoopMap}} {
		for _, before := range []string{"stop", "do add", "jump 0", "free; free", "next 0", "push 1 num; stop", "stop; stop; stop", "emit"} {
			ops := append(readCode(t, before), one)
			wantLook(t, someFrom, someSinks, ops, impl.CodeBad, len(ops)-1)
			wantLook(t, someFrom, someSinks, append(ops, stop...), impl.CodeBad, len(ops)-1)
			wantLook(t, someFrom, someSinks, append(ops, codeOp{}), impl.CodeBad, len(ops)-1)
		}
	}
	wantAllSeen(t,
		// The first op in which something is wrong, in the order of places, not of jumps.
		"2 1 jump 1; do add; do add", "2 2 jump 2; jump 0; do add; stop", "3 3 push yes flag; no 4; push 1 num; no 4; do add; stop", "4 5 push yes flag; no 4; push 1 num; jump 5; push 1 num; stop",
		// Taken first, then looked at, then gone on.
		"3 1 push 1 num; no 0", "2 0 no 0", "3 1 push 1 num; none 1", "3 1 push 1 num; emit", "2 0 emit", "3 1 push 1 num; do not", "2 0 var 1", "3 1 push 1 num; loop each 0", "2 1 push 1 num; loop fold 0 num", "3 1 push 1 num; loop fold 0 flag")
	// Of sinks with one name and version the first one counts.
	for _, s := range []string{"@0 {n:num}; @0 {}", "paid@2 {}; @0 {n:num}; @0 {m:num}; paid@2 {n:num}"} {
		wantLook(t, someFrom, s, readCode(t, "push 1 num; do form n; emit; stop"), 0, 0)
		wantLook(t, someFrom, s, readCode(t, "do form; emit; stop"), 3, 1)
	}
	for _, s := range []string{"paid@1 {n:num}; paid@1 {}; paid@2 {}", "@0 {}; paid@2 {}; paid@1 {n:num}; other@1 {}; paid@1 {m:num}"} {
		wantLook(t, someFrom, s, readCode(t, "push 1 num; do form n; send paid 1; stop"), 0, 0)
		wantLook(t, someFrom, s, readCode(t, "do form; send paid 1; stop"), 3, 1)
		wantLook(t, someFrom, s, readCode(t, "do form; send paid 2; stop"), 0, 0)
		wantLook(t, someFrom, s, readCode(t, "do form; send paid 3; stop"), 3, 1)
	}
	wantLook(t, someFrom, "", readCode(t, "do form; emit; stop"), 3, 1)
	wantLook(t, "{}", "@0 {}", readCode(t, "var 0; emit; stop"), 0, 0)
}

// spoilCode changes code a little, by chance.
func spoilCode(r *rand.Rand, good []codeOp, ops []codeOp) []codeOp {
	at := r.Intn(len(ops))
	switch r.Intn(8) {
	case 0:
		ops[at].A += r.Intn(5) - 2
	case 1:
		other := r.Intn(len(ops))
		ops[at], ops[other] = ops[other], ops[at]
	case 2:
		ops = slices.Delete(ops, at, at+1)
	case 3:
		ops = slices.Insert(ops, at, anyOp(r, good, len(ops)))
	case 4:
		ops[at] = anyOp(r, good, len(ops))
	case 5:
		if ops[at].Op == impl.CodeLoop {
			ops[at].B = 1 + r.Intn(4)
			ops[at].Kind = kind{}
			if ops[at].B%2 == 1 {
				ops[at].Kind = []kind{kNum, kText, kList(kNum)}[r.Intn(3)]
			}
		}
	case 6:
		ops = slices.Insert(ops, at, ops[r.Intn(len(ops))])
	default:
		ops[at].A = r.Intn(len(ops))
	}
	return ops
}

// P25: much code that was made and then spoiled, and code by chance, held against what the tests tell.
func TestLookMany(t *testing.T) {
	t.Parallel()
	r := rand.New(rand.NewSource(25))
	sinks, told := sinksOf(t, chanceSinks)
	from := readKind(t, chanceFrom)
	var good []codeOp
	for _, row := range eachCodeOp(t) {
		good = append(good, row.op)
	}
	codes, at := map[int]int{}, map[[2]int]int{}
	look := func(ops []codeOp) {
		f := impl.CodeLook(from, sinks, ops)
		if wanted := toldLook(chanceFrom, told, ops); f != wanted {
			t.Fatalf("%v is found, but the tests tell %v, in\n%.900s", f, wanted, impl.CodeShow(ops))
		}
		wantFoundThere(t, f, ops)
		codes[f.Code]++
		if f.Code > 1 {
			at[[2]int{f.Code, ops[f.At].Op}]++
		}
	}
	for range 6000 {
		ops, ok := impl.CodeMake(from, sinks, chanceLift(t, r))
		if !ok {
			continue
		}
		for range 4 {
			ops = spoilCode(r, good, slices.Clone(ops))
			if len(ops) == 0 {
				break
			}
			look(ops)
		}
	}
	for range 10000 {
		ops := make([]codeOp, 1+r.Intn(6))
		for i := range ops {
			ops[i] = anyOp(r, good, len(ops))
		}
		look(ops)
	}
	for code := range 6 {
		if codes[code] < 500 {
			t.Errorf("%d times %d: too few to tell anything", codes[code], code)
		}
	}
	for _, pair := range [][2]int{{2, 2}, {2, 3}, {2, 5}, {2, 6}, {2, 7}, {2, 8}, {2, 9}, {2, 10}, {2, 11}, {2, 12}, {3, 3}, {3, 5}, {3, 6}, {3, 9}, {3, 10}, {3, 11}, {3, 12}, {4, 1}, {4, 4}, {4, 5}, {4, 6}, {4, 9}, {4, 10}, {4, 14}, {5, 4}, {5, 5}, {5, 6}, {5, 9}, {5, 10}} {
		if at[pair] == 0 {
			t.Errorf("the code %d is never found at the op %d", pair[0], pair[1])
		}
	}
}

// Every function answers at every argument, and in time: at schemas that hold themselves, at long code.
func TestLookWithoutEnd(t *testing.T) {
	kinds := make([]kind, 1)
	kinds[0] = kind{Sort: impl.TreeForm, Names: []string{"a"}, Kids: kinds}
	stop := []codeOp{{Op: impl.CodeStop}}
	for _, f := range []codeFault{
		impl.CodeLook(kinds[0], nil, stop), impl.CodeLook(kForm(""), []liftSink{{Kind: kinds[0]}}, stop), impl.CodeLook(kForm(""), nil, []codeOp{{Op: impl.CodeLoop, B: impl.LoopMap, Kind: kinds[0]}}), impl.CodeLook(kForm(""), nil, make([]codeOp, 3000000)), impl.CodeLook(kForm(""), nil, []codeOp{{Op: impl.CodePush, Kind: kinds[0]}}),
	} {
		if f != (codeFault{Code: impl.CodeBad}) {
			t.Errorf("%v", f)
		}
	}
	// The deepest stacks, which are held against each other many times, all of their schemas being great ones.
	k := textOf(kFields(39, kNum))
	x := impl.TreeWrite(fields(39, num(0)))
	deep := strings.Repeat("push "+x+" "+k+"; ", 200)
	s := "push yes flag; no 203; " + deep + "jump 403; " + deep + strings.Repeat("push yes flag; no 403; ", 200)
	ops := readCode(t, s+"fail 1")
	for i := range ops {
		if ops[i].Op == impl.CodeNo && i > 1 {
			ops[i].A = len(ops) - 1
		}
		if ops[i].Op == impl.CodeJump {
			ops[i].A = len(ops) - 1
		}
	}
	wantLook(t, someFrom, someSinks, ops, 0, 0)
	ops[1].A = 202
	wantLook(t, someFrom, someSinks, ops, 4, 201)
	// Names that no stack can have.
	names := make([]string, 0, 1000)
	for i := range 1000 {
		names = append(names, fmt.Sprintf("n%03d", i))
	}
	wantLook(t, someFrom, someSinks, []codeOp{{Op: impl.CodeVar}, do(impl.LiftForm, names...), stop[0]}, 2, 1)
}

// The empty list and the nil list are the same value.
func TestLookEmptyAndNil(t *testing.T) {
	bare := kind{Sort: impl.TreeForm, Names: []string{}, Kids: []kind{}}
	for _, from := range []kind{bare, {Sort: impl.TreeForm}} {
		for _, sink := range []kind{bare, {Sort: impl.TreeForm}} {
			for _, names := range [][]string{nil, {}} {
				ops := []codeOp{{Op: impl.CodeDo, A: impl.LiftForm, Names: names}, {Op: impl.CodeEmit, Names: names}, {Op: impl.CodeVar, Names: names}, {Op: impl.CodeEmit}, {Op: impl.CodeStop}}
				if f := impl.CodeLook(from, []liftSink{{Kind: sink}}, ops); f != (codeFault{}) {
					t.Errorf("%v", f)
				}
			}
		}
		for _, sinks := range [][]liftSink{nil, {}} {
			if f := impl.CodeLook(from, sinks, []codeOp{{Op: impl.CodeStop}}); f != (codeFault{}) {
				t.Errorf("%v", f)
			}
		}
	}
}

// Nothing is written into an argument or behind its end.
func TestLookArgumentsStay(t *testing.T) {
	sinks, _ := sinksOf(t, someSinks)
	from := spareKind(readKind(t, someFrom))
	ops, _ := impl.CodeMake(from, sinks, readLift(t, everyOp))
	shown := impl.CodeShow(ops)
	for i := range ops {
		ops[i].Tree, ops[i].Kind = spareTree(ops[i].Tree), spareKind(ops[i].Kind)
		ops[i].Names = append(append(make([]string, 0, 9), ops[i].Names...), "spare")[:len(ops[i].Names)]
	}
	ops = append(ops, codeOp{Op: 77})[:len(ops)]
	if f := impl.CodeLook(from, sinks, ops); f != (codeFault{}) {
		t.Errorf("%v", f)
	}
	if impl.CodeShow(ops) != shown || textOf(from) != someFrom || ops[:len(ops)+1][len(ops)].Op != 77 {
		t.Error("something was changed")
	}
	wantSpareKind(t, "from", from)
	for _, op := range ops {
		wantSpareTree(t, "a tree", op.Tree)
		wantSpareKind(t, "a schema", op.Kind)
		if op.Names[:len(op.Names)+1][len(op.Names)] != "spare" {
			t.Error("a name behind the end was changed")
		}
	}
}
