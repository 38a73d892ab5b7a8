package tests

import (
	"fmt"
	"math/rand"
	"slices"
	"strings"
	"testing"

	"loop.example/teagle/impl"
)

// loopRun is a loop that is under way in the tests' own machine.
type loopRun struct {
	sort, at, locals int
	list, came       []tree
}

// ownMachine does ops as the document tells; what plain ops mean is told by the doer.
type ownMachine struct {
	doer
	stack, locals []tree
	loops         []loopRun
}

func (m *ownMachine) take(word string) tree {
	if m.code != 0 || len(m.stack) == 0 {
		return m.stop(6)
	}
	x := m.stack[len(m.stack)-1]
	m.stack = m.stack[:len(m.stack)-1]
	if word != "any" && sortWords[x.Sort] != word {
		return m.stop(6)
	}
	return x
}

func (m *ownMachine) push(x tree) {
	if m.code == 0 {
		m.stack = append(m.stack, x)
	}
}

// plain takes all kids, looks at them in order, and does the op.
func (m *ownMachine) plain(op codeOp) {
	wants, _, _ := strings.Cut(kidTable[op.A], ">")
	words := strings.Fields(wants)
	if op.A == impl.LiftForm {
		words = slices.Repeat([]string{"any"}, len(op.Names))
	}
	kids := make([]tree, len(words))
	for i := range kids {
		kids[len(kids)-1-i] = m.take("any")
	}
	if m.code != 0 {
		return
	}
	for i, word := range words {
		same := word == "=1" && (op.A == impl.LiftSame || kids[i].Sort == kids[0].Sort)
		if word != "any" && !same && !slices.Contains(strings.Split(word, "|"), sortWords[kids[i].Sort]) {
			m.stop(6)
			return
		}
	}
	m.push(m.made(node{Op: op.A, Names: op.Names}, kids))
}

// bindNext binds what a loop binds for its element.
func (m *ownMachine) bindNext(l loopRun) {
	if l.sort == impl.LoopFold {
		m.locals = append(m.locals, l.came[0])
	}
	m.locals = append(m.locals, l.list[l.at])
}

func (m *ownMachine) leave(l loopRun) {
	switch l.sort {
	case impl.LoopMap, impl.LoopKeep:
		m.push(m.fine(list(l.came...)))
	case impl.LoopFold:
		m.push(l.came[0])
	}
}

// loop is whether it goes to A.
func (m *ownMachine) loop(op codeOp) bool {
	l := loopRun{sort: op.B, locals: len(m.locals)}
	if op.B == impl.LoopFold {
		l.came = []tree{m.take("any")}
	}
	l.list = m.take("list").Kids
	if m.code != 0 {
		return false
	}
	if len(l.list) == 0 {
		m.leave(l)
		return true
	}
	m.loops = append(m.loops, l)
	m.bindNext(l)
	return false
}

// next is whether it goes to A.
func (m *ownMachine) next() bool {
	if len(m.loops) == 0 {
		m.stop(6)
		return false
	}
	l := m.loops[len(m.loops)-1]
	switch l.sort {
	case impl.LoopMap:
		l.came = append(slices.Clip(l.came), m.take("any"))
	case impl.LoopFold:
		l.came = []tree{m.take("any")}
	case impl.LoopKeep:
		if m.take("flag").Num == 1 {
			l.came = append(slices.Clip(l.came), l.list[l.at])
		}
	}
	if len(m.locals) < l.locals {
		m.stop(6)
	}
	if m.code != 0 {
		return false
	}
	m.locals = m.locals[:l.locals]
	l.at++
	m.loops[len(m.loops)-1] = l
	if l.at < len(l.list) {
		m.bindNext(l)
		return true
	}
	m.loops = m.loops[:len(m.loops)-1]
	m.leave(l)
	return false
}

// do does an op, and is whether it goes to A.
func (m *ownMachine) do(op codeOp) bool {
	switch strings.Fields(codeTable[op.Op])[0] {
	case "push":
		m.push(op.Tree)
	case "var":
		if op.A >= len(m.locals) {
			m.stop(6)
			return false
		}
		m.push(m.locals[op.A])
	case "do":
		m.plain(op)
	case "jump":
		return true
	case "no":
		return m.take("flag").Num == 0
	case "none":
		x := m.take("maybe")
		m.stack = append(m.stack, x.Kids...)
		return len(x.Kids) == 0
	case "bind":
		m.locals = append(m.locals, m.take("any"))
	case "free":
		if len(m.locals) == 0 {
			m.stop(6)
			return false
		}
		m.locals = m.locals[:len(m.locals)-1]
	case "loop":
		return m.loop(op)
	case "next":
		return m.next()
	case "emit", "send":
		body := m.take("form")
		if m.code == 0 && len(m.outs) == 400 {
			m.stop(7)
		}
		m.outs = append(m.outs, liftOut{Name: strings.Join(op.Names, ""), Version: op.A, Body: body})
	case "fail":
		m.why = op.A
		m.stop(5)
	}
	return false
}

// toldMachine is by itself what code makes of a body.
func toldMachine(ops []codeOp, old tree) liftDone {
	if _, ok := toldCode(ops); !ok || old.Sort != 5 || !okTree(old) {
		return liftDone{Code: 6}
	}
	m := ownMachine{locals: []tree{old}}
	for at, steps := 0, 0; m.code == 0; {
		if at >= len(ops) {
			m.stop(6)
			break
		}
		if steps == 200000 {
			m.stop(7)
			break
		}
		steps++
		if ops[at].Op == impl.CodeStop {
			return liftDone{Outs: m.outs}
		}
		if m.do(ops[at]) {
			at = ops[at].A
		} else {
			at++
		}
	}
	return liftDone{Code: m.code, Why: m.why}
}

// wantDone: what code makes of a body; the tests themselves tell the same.
func wantDone(t *testing.T, ops []codeOp, old tree, wanted string) {
	t.Helper()
	if d := impl.CodeRun(ops, old); doneText(d) != wanted {
		t.Errorf("%.900s of %s: %.300s, wanted %.300s", impl.CodeShow(ops), impl.TreeWrite(old), doneText(d), wanted)
	}
	if d := toldMachine(ops, old); doneText(d) != wanted {
		t.Errorf("%.900s of %s: the tests themselves tell %.300s, wanted %.300s", impl.CodeShow(ops), impl.TreeWrite(old), doneText(d), wanted)
	}
}

// wantTextDone: what the code of a text makes of the body of the tests.
func wantTextDone(t *testing.T, s, wanted string) {
	t.Helper()
	wantDone(t, readCode(t, s), readTree(t, someOld), wanted)
}

// shows is code that emits what stands on the stack as the field a.
const shows = "do form a; emit; stop"

// P22: ordinary upcasters with every op, whose outs, codes and numbers are known and are those of LiftRun.
func TestMachineOrdinary(t *testing.T) {
	from, to := someFrom, "@0 {n:num}; paid@2 {}; paid@12 {t:text}"
	sinks, _ := sinksOf(t, to)
	seen := map[int]int{}
	for _, row := range [][2]string{
		{"drop", "drop"}, {"fail 0", "stop 5 0"}, {"fail 99", "stop 5 99"}, {"emit form n 5 end", "emit {n:5}"}, {`send paid 12 form t "q" end`, `paid@12 {t:"q"}`}, {"both emit form n 1 end both send paid 2 form end emit form n 2 end", "emit {n:1} | paid@2 {} | emit {n:2}"},
		{"both emit form n 1 end fail 9", "stop 5 9"}, {"both fail 9 emit form n 1 end", "stop 5 9"}, {"choose get f old emit form n 1 end fail 2", "emit {n:1}"}, {"choose not get f old emit form n 1 end fail 2", "stop 5 2"},
		{"take x get a old emit form n mul x x end", "emit {n:49}"}, {"each x get l old emit form n x end", "emit {n:3} | emit {n:-4} | emit {n:5}"}, {"each x get l old choose less x 0 fail 3 emit form n x end", "stop 5 3"}, {"each x keep y get l old less y 0 emit form n x end", "emit {n:-4}"}, {"each x get l old each y get l old choose less x y emit form n add x y end drop", "emit {n:8} | emit {n:-1} | emit {n:1}"},
		{"emit form n fold s x get l old 0 add mul s 10 x end", "emit {n:265}"}, {"emit form n fold s x map y get l old mul y y 0 add s x end", "emit {n:50}"}, {"emit form n at map x get l old mul x x 1 end", "emit {n:16}"}, {"emit form n at get l old 3 end", "stop 3 0"}, {"emit form n div 1 0 end", "stop 2 0"}, {"emit form n rem 1 0 end", "stop 2 0"}, {"emit form n add 999999999 1 end", "stop 1 0"}, {"emit form n sub -999999999 1 end", "stop 1 0"}, {"emit form n size join part get b old 1 3 show -15 end", "emit {n:5}"},
		{"emit form n else get m old 9 end", "emit {n:9}"}, {"emit form n else some 8 9 end", "emit {n:8}"}, {"emit form n case x get m old x 7 end", "emit {n:7}"}, {"emit form n case x read show 12 add x 1 7 end", "emit {n:13}"}, {`emit form n case x read "q" add x 1 7 end`, "emit {n:7}"},
		{"choose and no same 1 div 1 0 fail 1 fail 2", "stop 5 2"}, {"choose and yes no fail 1 fail 2", "stop 5 2"}, {"choose or yes same 1 div 1 0 fail 1 fail 2", "stop 5 1"}, {"choose or no yes fail 1 fail 2", "stop 5 1"}, {"emit form n if yes 1 div 1 0 end", "emit {n:1}"}, {"emit form n if no div 1 0 2 end", "emit {n:2}"},
		{"emit form n let x 1 let x add x 1 x end", "emit {n:2}"}, {"emit cut q put n put q form end 1 get a old", "emit {n:7}"}, {"emit form n size one one empty num end", "emit {n:1}"}, {"emit form n at one get x get o old 0 end", "emit {n:1}"}, {"choose same none num get m old fail 1 drop", "stop 5 1"}, {"take x part get l old 0 4 drop", "stop 3 0"}, {"take x map y get l old map z get l old map w get l old w drop", "drop"}, {"take x map y get l old map z get l old join get l old get l old drop", "drop"},
	} {
		n := readLift(t, row[0])
		countOps(n, seen)
		ops, ok := impl.CodeMake(readKind(t, from), sinks, n)
		if !ok {
			t.Errorf("%q has no code", row[0])
		}
		wantRun(t, readTree(t, someOld), n, row[1])
		wantDone(t, ops, readTree(t, someOld), row[1])
	}
	for op := 1; op <= 43; op++ {
		if seen[op] == 0 {
			t.Errorf("no upcaster has the op %d", op)
		}
	}
}

// Each op of code, by hand.
func TestMachineOfEachOp(t *testing.T) {
	for _, row := range [][2]string{
		{"stop", "drop"}, {"fail 0", "stop 5 0"}, {"fail 99", "stop 5 99"}, {"jump 1; stop", "drop"}, {"jump 2; fail 1; stop", "drop"},
		{"push 5 num; " + shows, "emit {a:5}"}, {`push {x:[?"q"],y:~} {x:[?text],y:?num}; ` + shows, `emit {a:{x:[?"q"],y:~}}`}, {"push [] [num]; " + shows, "emit {a:[]}"},
		{"var 0; emit; stop", "emit " + someOld}, {"push 5 num; bind; var 1; " + shows, "emit {a:5}"}, {"push 5 num; bind; push 6 num; bind; var 1; " + shows, "emit {a:5}"}, {"push 5 num; bind; push 6 num; bind; free; var 1; " + shows, "emit {a:5}"}, {"push 5 num; bind; push 6 num; bind; var 2; " + shows, "emit {a:6}"}, {"free; push 5 num; bind; var 0; " + shows, "emit {a:5}"},
		{"push yes flag; no 3; fail 1; fail 2", "stop 5 1"}, {"push no flag; no 3; fail 1; fail 2", "stop 5 2"}, {"push ~ ?num; none 3; fail 1; fail 2", "stop 5 2"}, {"push ?7 ?num; none 4; do form a; emit; stop", "emit {a:7}"}, {"push ?~ ??num; none 4; do form a; emit; stop", "emit {a:~}"}, {"push 1 num; push ~ ?num; none 3; do form a; emit; stop", "emit {a:1}"}, {"push 1 num; push no flag; no 3; do form a; emit; stop", "emit {a:1}"},
		{"do form; emit; do form; send paid 1; do form; send paid 12; stop", "emit {} | paid@1 {} | paid@12 {}"}, {"do form; emit; fail 4", "stop 5 4"}, {"do form; send x 1; push 1 num; push 0 num; do div; stop", "stop 2 0"},
		// The kids of plain ops, in the order in which they were put.
		{"push 7 num; push 2 num; do add; " + shows, "emit {a:9}"}, {"push 7 num; push 2 num; do sub; " + shows, "emit {a:5}"}, {"push 7 num; push 2 num; do mul; " + shows, "emit {a:14}"}, {"push -7 num; push 2 num; do div; " + shows, "emit {a:-3}"}, {"push -7 num; push 2 num; do rem; " + shows, "emit {a:-1}"}, {"push 7 num; push 2 num; do less; " + shows, "emit {a:no}"}, {`push "a" text; push "b" text; do less; ` + shows, "emit {a:yes}"}, {"push 7 num; push 7 num; do same; " + shows, "emit {a:yes}"}, {`push 7 num; push "7" text; do same; ` + shows, "emit {a:no}"}, {"push yes flag; do not; " + shows, "emit {a:no}"},
		{"push 7 num; do some; " + shows, "emit {a:?7}"}, {"push 7 num; do one; " + shows, "emit {a:[7]}"}, {"var 0; do get b; " + shows, `emit {a:"abc"}`}, {"push {x:1} {x:num}; push 2 num; do put y; " + shows, "emit {a:{x:1,y:2}}"}, {"push {x:1} {x:num}; push 2 num; do put x; emit; stop", "emit {x:2}"}, {"push {x:1,y:2} {x:num,y:num}; do cut x; emit; stop", "emit {y:2}"}, {"push 1 num; push yes flag; push ~ ?num; do form a b c; emit; stop", "emit {a:1,b:yes,c:~}"}, {"do form; emit; stop", "emit {}"},
		{"push [4,5,6] [num]; push 2 num; do at; " + shows, "emit {a:6}"}, {"push [4,5,6] [num]; do size; " + shows, "emit {a:3}"}, {`push "abc" text; do size; ` + shows, "emit {a:3}"}, {`push "ab" text; push "c" text; do join; ` + shows, `emit {a:"abc"}`}, {"push [1] [num]; push [2] [num]; do join; " + shows, "emit {a:[1,2]}"}, {"push [4,5,6] [num]; push 1 num; push 2 num; do part; " + shows, "emit {a:[5]}"}, {"push -5 num; do show; " + shows, `emit {a:"-5"}`}, {`push "-5" text; do read; ` + shows, "emit {a:?-5}"},
		// What stops.
		{"push 999999999 num; push 1 num; do add; stop", "stop 1 0"}, {"push 1 num; push 0 num; do rem; stop", "stop 2 0"}, {"push [4] [num]; push 1 num; do at; stop", "stop 3 0"}, {"push [4] [num]; push -1 num; do at; stop", "stop 3 0"}, {`push "" text; push 0 num; push 1 num; do part; stop`, "stop 3 0"}, {"push ?????1 ?????num; do some; stop", "stop 4 0"}, {"push ????1 ????num; do some; stop", "drop"}, {"push [[[[[1]]]]] [[[[[num]]]]]; do one; stop", "stop 4 0"}, {`push "` + strings.Repeat("q", 60) + `" text; push "q" text; do join; stop`, "stop 4 0"}, {"var 0; do get z; stop", "stop 6 0"}, {"var 0; do cut z; stop", "stop 6 0"},
		// What is left on the stack, and among the locals, when it stops does not matter.
		{"var 0; stop", "drop"}, {"var 0; bind; stop", "drop"}, {"free; stop", "drop"}, {"push [1] [num]; loop each 2; stop", "drop"},
	} {
		wantTextDone(t, row[0], row[1])
	}
}

// elements is the text of a list of numbers from 1 on.
func elements(n int) string {
	var texts []string
	for i := range n {
		texts = append(texts, fmt.Sprint(i+1))
	}
	return "[" + strings.Join(texts, ",") + "]"
}

// Each sort of loop over an empty list, a list of one, one of as many as there may be; loops in loops; what stands around.
func TestMachineLoops(t *testing.T) {
	for _, n := range []int{0, 1, 2, 3, 19, 20} {
		l := "push " + elements(n) + " [num]; "
		sum, last, evens, doubles, each := 0, 100, []string{}, []string{}, []string{}
		for i := 1; i <= n; i++ {
			sum, last = sum+i, i
			doubles, each = append(doubles, fmt.Sprint(2*i)), append(each, fmt.Sprintf("emit {a:%d}", i))
			if i%2 == 0 {
				evens = append(evens, fmt.Sprint(i))
			}
		}
		wantTextDone(t, l+"loop map 6 num; var 1; var 1; do add; next 2; "+shows, "emit {a:["+strings.Join(doubles, ",")+"]}")
		wantTextDone(t, l+"loop keep 8; var 1; push 2 num; do rem; push 0 num; do same; next 2; "+shows, "emit {a:["+strings.Join(evens, ",")+"]}")
		wantTextDone(t, l+"push 100 num; loop fold 7 num; var 1; var 2; do add; next 3; "+shows, fmt.Sprintf("emit {a:%d}", 100+sum))
		wantTextDone(t, l+"push 100 num; loop fold 5 num; var 2; next 3; "+shows, fmt.Sprintf("emit {a:%d}", last))
		wantTextDone(t, l+"push 100 num; loop fold 5 num; var 1; next 3; "+shows, "emit {a:100}")
		wantTextDone(t, l+"loop each 6; var 1; do form a; emit; next 2; stop", strings.Join(append(each, "")[:max(1, n)], " | ")+map[bool]string{true: "drop"}[n == 0])
		wantTextDone(t, l+"loop map 4 [num]; var 1; next 2; "+shows, "emit {a:"+elements(n)+"}")
		wantTextDone(t, l+"loop keep 4; push no flag; next 2; "+shows, "emit {a:[]}")
		wantTextDone(t, l+"loop keep 4; push yes flag; next 2; "+shows, "emit {a:"+elements(n)+"}")
		// Something stands on the stack below, and behind the loop's end.
		wantTextDone(t, "push 9 num; "+l+"loop each 4; next 3; "+shows, "emit {a:9}")
		wantTextDone(t, "push 9 num; "+l+"loop map 5 num; var 1; next 3; do form a b; emit; stop", "emit {a:9,b:"+elements(n)+"}")
		wantTextDone(t, "push 9 num; "+l+"push 100 num; loop fold 6 num; var 2; next 4; do form a b; emit; stop", fmt.Sprintf("emit {a:9,b:%d}", last))
		wantTextDone(t, l+"loop each 3; next 2; stop", "drop")
		// An empty list goes to A, wherever that is; else the next op is done.
		wanted := "stop 5 1"
		if n == 0 {
			wanted = "stop 5 2"
		}
		for _, loop := range []string{"loop each 3", "loop keep 3", "loop map 3 num"} {
			wantTextDone(t, l+loop+"; fail 1; fail 2", wanted)
			wantTextDone(t, "jump 2; fail 2; "+l+strings.Replace(loop, " 3", " 1", 1)+"; fail 1", wanted)
		}
		wantTextDone(t, l+"push 1 num; loop fold 4 num; fail 1; fail 2", wanted)
		// Locals that are bound in it are struck, those around stay.
		wantTextDone(t, "push 8 num; bind; "+l+"loop each 8; var 2; bind; push 1 num; next 4; var 1; "+shows, "emit {a:8}")
		wantTextDone(t, "push 8 num; bind; "+l+"loop each 7; var 2; bind; next 4; var 1; "+shows, "emit {a:8}")
		wantTextDone(t, "push 8 num; bind; "+l+"loop each 6; free; next 4; var 1; "+shows, "emit {a:8}")
	}
	for _, row := range [][2]string{
		{"push [[1,2],[],[3]] [[num]]; loop each 9; var 1; loop each 8; var 2; do form a; emit; next 4; next 2; stop", "emit {a:1} | emit {a:2} | emit {a:3}"},
		{"push [[1,2],[],[3]] [[num]]; loop map 10 num; var 1; push 0 num; loop fold 9 num; var 2; var 3; do add; next 5; next 2; " + shows, "emit {a:[3,0,3]}"},
		{"push [3,4] [num]; loop map 9 [num]; push [1,2] [num]; loop map 8 num; var 1; var 2; do mul; next 4; next 2; " + shows, "emit {a:[[3,6],[4,8]]}"},
		{"push [1,2,3] [num]; loop keep 9; push [1,2] [num]; loop keep 6; push yes flag; next 4; bind; push yes flag; next 2; " + shows, "emit {a:[1,2,3]}"},
	} {
		wantTextDone(t, row[0], row[1])
	}
	// CodeNext goes to its own A, whatever that is, while there is a next element; behind it, when there is none.
	wantTextDone(t, "push [1,2] [num]; loop each 2; next 4; fail 1; fail 2", "stop 5 2")
	wantTextDone(t, "push [1] [num]; loop each 2; next 4; fail 1; fail 2", "stop 5 1")
	wantTextDone(t, "jump 2; fail 3; push [1,2] [num]; loop each 5; next 1; fail 1", "stop 5 3")
	wantTextDone(t, "push [1,2,3] [num]; loop each 4; var 1; bind; next 2; stop", "drop")
	wantTextDone(t, "push [1,2,3] [num]; loop each 6; var 1; do form a; emit; next 2; do form; emit; stop", "emit {a:1} | emit {a:2} | emit {a:3} | emit {}")
	// The last of several loops goes on.
	wantTextDone(t, "push [1,2] [num]; loop each 12; push [3,4] [num]; loop each 8; var 2; do form a; emit; next 4; var 1; do form a; emit; next 2; stop", "emit {a:3} | emit {a:4} | emit {a:1} | emit {a:3} | emit {a:4} | emit {a:2}")
}

// CodeNext with just as many locals as when the loop began, one more, one fewer.
func TestMachineLocals(t *testing.T) {
	for _, row := range [][2]string{
		{"push [1,2] [num]; loop each 4; free; next 2; var 0; emit; stop", "emit " + someOld}, {"push [1,2] [num]; loop each 3; next 2; var 0; emit; stop", "emit " + someOld}, {"push [1,2] [num]; loop each 5; free; free; next 2; stop", "stop 6 0"}, {"push [1,2] [num]; loop each 5; var 1; bind; next 2; stop", "drop"},
		{"push [1,2] [num]; loop each 6; free; free; var 0; next 2; stop", "stop 6 0"}, {"push [1,2] [num]; loop each 7; free; free; push 7 num; bind; next 2; var 0; " + shows, "emit {a:7}"},
		{"push [1,2] [num]; push 5 num; loop fold 7 num; var 2; free; free; next 3; " + shows, "emit {a:2}"}, {"push [1,2] [num]; push 5 num; loop fold 8 num; var 2; free; free; free; next 3; " + shows, "stop 6 0"},
		{"push [1,2] [num]; loop map 7 num; var 1; free; free; push 4 num; next 2; " + shows, "stop 6 0"}, {"free; push [1,2] [num]; loop each 5; free; next 3; stop", "drop"}, {"free; push [1,2] [num]; loop each 6; free; free; next 3; stop", "stop 6 0"},
		// Struck behind the element, the places of locals are as before.
		{"push [1,2] [num]; loop each 10; push 7 num; bind; push 8 num; bind; var 1; do form a; emit; next 2; var 1; " + shows, "stop 6 0"}, {"push [1,2] [num]; loop each 10; push 7 num; bind; push 8 num; bind; var 1; do form a; emit; next 2; stop", "emit {a:1} | emit {a:2}"},
		{"push [1,2] [num]; push 5 num; loop fold 7 num; var 1; var 2; do sub; next 3; " + shows, "emit {a:2}"}, {"push [1,2] [num]; push 5 num; bind; push 6 num; loop fold 9 num; var 2; var 3; do sub; next 5; " + shows, "emit {a:3}"},
	} {
		wantTextDone(t, row[0], row[1])
	}
}

// The list that a loop leaves is just ok, or one part, level or element too big.
func TestMachineBigLists(t *testing.T) {
	// Twenty lists; with one more around each of them they have twenty parts more.
	rows := func(size int) (tree, kind) {
		x := list(repeat(list(), 20)...)
		for i := 0; parts(x) < size; i = (i + 1) % 20 {
			x.Kids[i] = list(append(x.Kids[i].Kids, num(1))...)
		}
		return x, kList(kList(kNum))
	}
	loopOver := func(x tree, k kind, more string) []codeOp {
		ops := readCode(t, "push 1 num; loop map 4 num; var 1; "+more+"next 2; bind; stop")
		ops[0] = codeOp{Op: impl.CodePush, Tree: x, Kind: k}
		ops[1].A = len(ops) - 2
		return ops
	}
	old := readTree(t, someOld)
	for _, size := range []int{98, 99, 100, 101, 102} {
		x, k := rows(size)
		wanted := "drop"
		if size > 100 {
			wanted = "stop 4 0"
		}
		for _, more := range []string{"do one; ", "do some; ", "do form a; "} {
			wantDone(t, loopOver(x, k, more), old, wanted)
		}
		wantDone(t, loopOver(x, k, ""), old, "drop")
		wantDone(t, loopOver(x, k, "push 1 num; bind; "), old, "drop")
	}
	full, k := rows(120)
	wantDone(t, loopOver(full, k, ""), old, "drop")
	keep := loopOver(full, k, "push yes flag; ")
	keep[1].B, keep[1].Kind, keep[2] = impl.LoopKeep, kind{}, codeOp{Op: impl.CodeJump, A: 3}
	wantDone(t, keep, old, "drop")
	// Six levels, and one more.
	for levels := 1; levels <= 5; levels++ {
		x, k := within(num(1), levels), kWithin(kNum, levels, kMaybe)
		wanted := "drop"
		if levels+2 > 6 {
			wanted = "stop 4 0"
		}
		ops := readCode(t, "push [1] [num]; loop map 5 num; push 1 num; next 2; bind; stop")
		ops[2] = codeOp{Op: impl.CodePush, Tree: x, Kind: k}
		wantDone(t, ops, old, wanted)
	}
	// What comes need not be of the schema of the loop: that is looked at by CodeLook alone.
	wantTextDone(t, "push [1,2] [num]; loop map 4 flag; push ~ ?num; next 2; "+shows, "emit {a:[~,~]}")
	wantTextDone(t, `push [1,2] [num]; push "q" text; loop fold 5 num; push yes flag; next 3; `+shows, "emit {a:yes}")
}

// counted is code that goes round so many times, ten ops each, and then does what ends it.
func counted(t *testing.T, rounds int, end string) []codeOp {
	return readCode(t, fmt.Sprintf("push %d num; bind; push 0 num; var 1; do less; no 12; var 1; push 1 num; do sub; free; bind; jump 2; ", rounds)+end)
}

// CodeMaxSteps ops and one more, the stop counting as one.
func TestMachineSteps(t *testing.T) {
	t.Parallel()
	old := readTree(t, someOld)
	// Two ops ahead, ten a round, four to see that it is over: then the ones of the end.
	const rounds, ahead = 19999, 2 + 10*19999 + 4
	left := impl.CodeMaxSteps - ahead
	pads := func(n int) string { return strings.Repeat("var 0; ", n) }
	for _, row := range []struct {
		end, wanted string
	}{
		{pads(left-2) + "stop", "drop"}, {pads(left-1) + "stop", "drop"}, {pads(left) + "stop", "stop 7 0"}, {pads(left+1) + "stop", "stop 7 0"},
		{pads(left-1) + "fail 3", "stop 5 3"}, {pads(left) + "fail 3", "stop 7 0"}, {pads(left-1) + "free; stop", "stop 7 0"},
		// Behind the last op one comes by the last op that is done.
		{pads(left-1) + "var 0", "stop 6 0"}, {pads(left) + "var 0", "stop 7 0"}, {pads(left-1) + "do add", "stop 6 0"}, {pads(left-1) + "do not; stop", "stop 6 0"}, {pads(left) + "do add", "stop 7 0"}, {pads(left) + "do not", "stop 7 0"},
		{pads(left-2) + "emit; stop", "emit " + someOld}, {pads(left-1) + "emit; stop", "stop 7 0"},
	} {
		wantDone(t, counted(t, rounds, row.end), old, row.wanted)
	}
	// Jumps to the op itself, and back.
	for _, s := range []string{"jump 0", "jump 0; stop", "jump 1; jump 0; stop", "var 0; jump 0", "push no flag; no 0; stop", "push ~ ?num; none 0; stop", "push [] [num]; loop each 0; stop", "push [1,2] [num]; loop each 0; jump 0; stop", "do form; jump 0", "push 1 num; bind; jump 0"} {
		wantTextDone(t, s, "stop 7 0")
	}
	// Loops alone reach it too: 20 times 20 times 20 elements, each with 25 ops.
	deep := "push " + elements(20) + " [num]; bind; "
	inner := "var 1; loop each 4; var 1; loop each 6; var 1; loop each 8; " + strings.Repeat("var 0; bind; ", 12) + "next 8; next 6; next 4; stop"
	ops := readCode(t, deep+inner)
	for i := range ops {
		if ops[i].Op == impl.CodeLoop {
			ops[i].A = len(ops) - 1
		}
	}
	wantDone(t, ops, old, "stop 7 0")
	ops = slices.Delete(slices.Clone(ops), 8, 14)
	for i := range ops {
		if ops[i].Op == impl.CodeLoop {
			ops[i].A = len(ops) - 1
		}
	}
	wantDone(t, ops, old, "drop")
	if impl.CodeMaxSteps != 200000 || impl.StopLong != 7 {
		t.Error("CodeMaxSteps")
	}
}

// LiftMaxFan events and one more.
func TestMachineEvents(t *testing.T) {
	old := readTree(t, someOld)
	emits := func(n int, end string) []codeOp {
		ops := counted(t, n, "stop")[:12]
		ops = slices.Insert(ops, 6, readCode(t, "do form; emit")...)
		ops[5].A = len(ops)
		return append(ops, readCode(t, end)...)
	}
	of := func(n int) string { return strings.TrimSuffix(strings.Repeat("emit {} | ", n), " | ") }
	for _, n := range []int{1, 2, 399, 400} {
		wantDone(t, emits(n, "stop"), old, of(n))
		wantDone(t, emits(n, "fail 1"), old, "stop 5 1")
	}
	wantDone(t, emits(399, "do form; send paid 2; stop"), old, of(399)+" | paid@2 {}")
	for _, end := range []string{"do form; emit; stop", "do form; send paid 2; stop", "do form; emit; fail 1", "do form; emit; do add"} {
		wantDone(t, emits(400, end), old, "stop 7 0")
	}
	wantDone(t, emits(401, "stop"), old, "stop 7 0")
	wantDone(t, emits(5000, "stop"), old, "stop 7 0")
	// One event more that is none.
	wantDone(t, emits(400, "push 1 num; emit; stop"), old, "stop 6 0")
	wantDone(t, emits(400, "emit; stop"), old, "stop 6 0")
}

// Code and bodies that are not ok: StopBroken, ahead of all.
func TestMachineNotOk(t *testing.T) {
	old := readTree(t, someOld)
	for _, ops := range [][]codeOp{nil, {}, {{}}, {{Op: 15}}, {{Op: impl.CodeFail, A: 3}, {}}, {{Op: impl.CodeStop}, {Op: impl.CodeJump, A: 2}}, {{Op: impl.CodeFail, A: 100}}, {{Op: impl.CodeStop, A: 1}}, slices.Repeat(readCode(t, "fail 3"), 1001), {{Op: impl.CodeStop}, do(impl.LiftIf)}} {
		wantDone(t, ops, old, "stop 6 0")
	}
	wantDone(t, slices.Repeat(readCode(t, "fail 3"), 1000), old, "stop 5 3")
	fail := readCode(t, "fail 3")
	for _, x := range []tree{num(1), text("q"), flag(1), list(), maybe(), maybe(form("")), list(form("")), {}} {
		wantDone(t, fail, x, "stop 6 0")
	}
	for what, x := range badTrees() {
		if d := impl.CodeRun(fail, x); !sameDone(d, liftDone{Code: 6}) {
			t.Errorf("%s: %v", what, d)
		}
	}
	wantDone(t, fail, form(""), "stop 5 3")
	wantDone(t, fail, partsTree(120), "stop 5 3")
	wantDone(t, fail, partsTree(121), "stop 6 0")
}

// At each op a stack that has too few, and one of another sort, first, second and third; a local that is not there; no loop.
func TestMachineBroken(t *testing.T) {
	other := map[string]string{"num": `push "q" text`, "text": "push 1 num", "flag": "push 1 num", "list": "push 1 num", "form": "push 1 num", "maybe": "push 1 num", "num|text": "push yes flag", "list|text": "push 1 num"}
	fine := map[string]string{"num": "push 1 num", "text": `push "q" text`, "flag": "push yes flag", "list": "push [5,6] [num]", "form": "push {q:1} {q:num}", "maybe": "push ~ ?num", "num|text": "push 1 num", "list|text": "push [5,6] [num]", "any": "push ~ ?num"}
	for _, op := range plainOps() {
		wants, _, _ := strings.Cut(kidTable[op], ">")
		words := strings.Fields(wants)
		names := ""
		if plainWords[opWord(op)] == 1 {
			names = " q"
		}
		if op == impl.LiftForm {
			words, names = []string{"any", "any"}, " a b"
		}
		kids := []string{}
		for _, word := range words {
			if word == "=1" {
				word = words[0]
			}
			kids = append(kids, fine[word])
		}
		line := func(kids []string) string {
			return strings.TrimPrefix(strings.Join(append(slices.Clone(kids), "do "+opWord(op)+names), "; ")+"; stop", "; ")
		}
		wantTextDone(t, line(kids), "drop")
		for i := range kids {
			wantTextDone(t, line(kids[:i]), "stop 6 0")
			wantTextDone(t, line(kids[i+1:]), "stop 6 0")
			word := words[i]
			spoilt := slices.Clone(kids)
			switch {
			case word == "any":
				continue
			case word == "=1":
				spoilt[i] = `push ~ ?num`
				if op == impl.LiftSame {
					continue
				}
			default:
				spoilt[i] = other[word]
			}
			wantTextDone(t, line(spoilt), "stop 6 0")
			spoilt[i] = "push ~ ?num"
			wantTextDone(t, line(spoilt), "stop 6 0")
		}
	}
	for _, s := range []string{
		"no 1; stop", "none 1; stop", "bind; stop", "emit; stop", "send t 1; stop", "loop each 1; stop", "loop map 1 num; stop", "loop keep 1; stop", "loop fold 1 num; stop", "push [] [num]; loop fold 2 num; stop", "push 1 num; loop fold 2 num; stop",
		"push 1 num; no 2; stop", "push ~ ?flag; no 2; stop", "push 1 num; none 2; stop", "push [] [num]; none 2; stop", "push 1 num; emit; stop", "push [] [num]; emit; stop", "push ?1 ?num; send t 1; stop", "push 1 num; loop each 2; stop", `push "" text; loop map 2 num; stop`, "push ~ ?num; loop keep 2; stop", "push 1 num; push 1 num; loop fold 3 num; stop", "push 1 num; push [] [num]; loop fold 3 num; stop",
		"var 1; stop", "var 1000; stop", "free; var 0; stop", "free; free; stop", "push 1 num; bind; var 2; stop",
		"next 0", "next 1; stop", "push 1 num; next 0; stop", "push [1] [num]; loop each 3; next 2; next 2; stop", "push [] [num]; loop each 2; next 2; stop",
		"push [1] [num]; loop map 3 num; next 2; stop", "push [1] [num]; loop keep 3; next 2; stop", "push [1] [num]; push 1 num; loop fold 4 num; next 3; stop", "push [1] [num]; loop keep 4; push 1 num; next 2; stop", "push [1] [num]; loop keep 4; push ~ ?flag; next 2; stop",
		// The last op is no stop: it goes behind it.
		"var 0", "var 0; bind", "free", "push 1 num", "do form; emit", "do form; send t 1", "push yes flag; no 0", "push ?1 ?num; none 0", "push [1] [num]; loop each 0", "push [1] [num]; loop each 2; next 2", "do form",
	} {
		wantTextDone(t, s, "stop 6 0")
	}
	// With events that were made ahead: the code alone.
	for _, s := range []string{"var 0; emit; do add; stop", "var 0; emit; var 0; emit; free; free; stop", "var 0; emit; var 0"} {
		wantTextDone(t, s, "stop 6 0")
	}
	wantTextDone(t, "var 0; emit; fail 8", "stop 5 8")
	wantTextDone(t, "var 0; emit; var 0; send t 1; push 1 num; push 0 num; do div; stop", "stop 2 0")
}

// P22: upcasters by chance, with bodies by chance: code does just what they mean.
func TestMachineMany(t *testing.T) {
	t.Parallel()
	r := rand.New(rand.NewSource(22))
	sinks, _ := sinksOf(t, chanceSinks)
	from := readKind(t, chanceFrom)
	codes, several := map[int]int{}, 0
	for range 5000 {
		n := chanceLift(t, r)
		ops, ok := impl.CodeMake(from, sinks, n)
		if !ok {
			continue
		}
		for range 4 {
			old := bodyOf(r, from)
			d, wanted := impl.CodeRun(ops, old), impl.LiftRun(n, old)
			if !sameDone(d, wanted) || !sameDone(d, toldMachine(ops, old)) {
				t.Fatalf("%q of %s: %s, LiftRun %s, the tests tell %s", impl.LiftWrite(n), impl.TreeWrite(old), doneText(d), doneText(wanted), doneText(toldMachine(ops, old)))
			}
			wantSound(t, n, sinks, old, d)
			codes[d.Code]++
			if len(d.Outs) > 1 {
				several++
			}
		}
	}
	for code := range 6 {
		if codes[code] < 20 {
			t.Errorf("%d end with %d", codes[code], code)
		}
	}
	if several < 300 {
		t.Errorf("%d make several", several)
	}
	// The costliest, each with the longest list.
	for _, op := range []int{impl.LiftMap, impl.LiftKeep, impl.LiftFold, impl.LiftEach} {
		n := costing(t, op, 40000)
		sinks, _ := sinksOf(t, someSinks)
		ops, ok := impl.CodeMake(readKind(t, someFrom), sinks, n)
		old := readTree(t, strings.Replace(someOld, "[3,-4,5]", elements(20), 1))
		if d := impl.CodeRun(ops, old); !ok || !sameDone(d, impl.LiftRun(n, old)) || d.Code == 7 {
			t.Errorf("the costliest of the op %d: %s, LiftRun %s", op, doneText(d), doneText(impl.LiftRun(n, old)))
		}
	}
}

// P24: code that passed the look never breaks; other code does what the tests tell.
func TestMachineNeverBroken(t *testing.T) {
	t.Parallel()
	r := rand.New(rand.NewSource(24))
	sinks, _ := sinksOf(t, chanceSinks)
	from := readKind(t, chanceFrom)
	var good []codeOp
	for _, row := range eachCodeOp(t) {
		good = append(good, row.op)
	}
	passed, broken, codes := 0, 0, map[int]int{}
	run := func(ops []codeOp) {
		look := impl.CodeLook(from, sinks, ops)
		for range 2 {
			old := bodyOf(r, from)
			d := impl.CodeRun(ops, old)
			if wanted := toldMachine(ops, old); !sameDone(d, wanted) {
				t.Fatalf("%s of %s: %s, but the tests tell %s", impl.CodeShow(ops), impl.TreeWrite(old), doneText(d), doneText(wanted))
			}
			if look.Code != 0 {
				if d.Code == 6 {
					broken++
				}
				continue
			}
			passed++
			codes[d.Code]++
			if d.Code == 6 || len(d.Outs) > 400 {
				t.Fatalf("%s of %s: %s, though nothing is found", impl.CodeShow(ops), impl.TreeWrite(old), doneText(d))
			}
			for _, out := range d.Outs {
				at := slices.IndexFunc(sinks, func(s liftSink) bool { return s.Name == out.Name && s.Version == out.Version })
				if at < 0 || !impl.KindHas(sinks[at].Kind, out.Body) {
					t.Fatalf("%s of %s: %s is of no sink", impl.CodeShow(ops), impl.TreeWrite(old), impl.TreeWrite(out.Body))
				}
			}
		}
	}
	for range 3000 {
		ops, ok := impl.CodeMake(from, sinks, chanceLift(t, r))
		if !ok {
			continue
		}
		for range 3 {
			ops = spoilCode(r, good, slices.Clone(ops))
			if len(ops) == 0 {
				break
			}
			run(ops)
		}
	}
	for range 3000 {
		ops := make([]codeOp, 1+r.Intn(6))
		for i := range ops {
			ops[i] = anyOp(r, good, len(ops))
		}
		run(ops)
	}
	if passed < 1000 || broken < 1000 || codes[0] < 300 || codes[5] < 50 {
		t.Errorf("%d passed, %d broke, %v", passed, broken, codes)
	}
	// Just as many events as there may be, and one more, where nothing is found.
	for _, row := range []struct {
		more   string
		wanted int
	}{{"", 0}, {"do form; send paid 1; ", 7}} {
		ops := readCode(t, "var 0; do get l; loop each 10; var 0; do get l; loop each 9; do form; send paid 1; next 6; next 3; "+row.more+"stop")
		if f := impl.CodeLook(from, sinks, ops); f != (codeFault{}) {
			t.Errorf("%v", f)
		}
		old := form("a b l m", num(1), text(""), readTree(t, elements(20)), maybe())
		if d := impl.CodeRun(ops, old); d.Code != row.wanted || row.wanted == 0 && len(d.Outs) != 400 {
			t.Errorf("%d events, %d", len(d.Outs), d.Code)
		}
	}
}

// Every function answers at every argument: at trees that hold themselves, at code far too long.
func TestMachineWithoutEnd(t *testing.T) {
	trees := make([]tree, 1)
	trees[0] = tree{Sort: impl.TreeForm, Names: []string{"a"}, Kids: trees}
	kinds := make([]kind, 1)
	kinds[0] = kind{Sort: impl.TreeList, Kids: kinds}
	stop := []codeOp{{Op: impl.CodeStop}}
	for _, d := range []liftDone{impl.CodeRun(stop, trees[0]), impl.CodeRun([]codeOp{{Op: impl.CodePush, Tree: trees[0], Kind: kForm("")}}, form("")), impl.CodeRun([]codeOp{{Op: impl.CodeLoop, B: impl.LoopMap, Kind: kinds[0]}}, form("")), impl.CodeRun(make([]codeOp, 3000000), form("")), impl.CodeRun(stop, list(make([]tree, 1000000)...))} {
		if !sameDone(d, liftDone{Code: 6}) {
			t.Errorf("%v", d)
		}
	}
	// Stacks, locals and loops that grow as long as it runs.
	for _, s := range []string{"var 0; jump 0", "var 0; bind; jump 0", "push [1,2] [num]; loop each 0; jump 0", "do form; do one; jump 0"} {
		wantTextDone(t, s, "stop 7 0")
	}
	names := make([]string, 0, 1000)
	for i := range 1000 {
		names = append(names, fmt.Sprintf("n%03d", i))
	}
	wantDone(t, []codeOp{{Op: impl.CodeVar}, do(impl.LiftForm, names...), stop[0]}, form(""), "stop 6 0")
	many := append(slices.Repeat(readCode(t, "var 0"), 998), do(impl.LiftForm, names[:998]...), stop[0])
	wantDone(t, many, form(""), "stop 4 0")
}

// The empty list and the nil list are the same value.
func TestMachineEmptyAndNil(t *testing.T) {
	for _, old := range []tree{{Sort: impl.TreeForm}, {Sort: impl.TreeForm, Names: []string{}, Kids: []tree{}}} {
		for _, x := range []tree{{Sort: impl.TreeList}, {Sort: impl.TreeList, Names: []string{}, Kids: []tree{}}} {
			for _, names := range [][]string{nil, {}} {
				ops := readCode(t, "push [] [num]; loop map 2 num; bind; do form; emit; var 0; emit; var 1; "+shows)
				ops[0].Tree, ops[3].Names, ops[4].Names = x, names, names
				wantDone(t, ops, old, "emit {} | emit {} | emit {a:[]}")
			}
		}
		ops := readCode(t, "push ~ ?num; none 3; fail 1; stop")
		ops[0].Tree.Kids, ops[0].Tree.Names = []tree{}, []string{}
		wantDone(t, ops, old, "drop")
	}
}

// takesApart is code that takes the body apart and puts it together again.
var takesApart = []string{
	"var 0; emit; stop", "var 0; push 1 num; do put a; emit; stop", "var 0; push 1 num; do put q; emit; stop", "var 0; do cut a; emit; stop", "var 0; var 0; do form a b; emit; stop", "var 0; do get l; var 0; do get l; do join; " + shows, "var 0; do get l; push 0 num; push 2 num; do part; " + shows,
	"var 0; do get l; loop map 5 num; var 0; next 3; " + shows, "var 0; do get l; loop keep 5; push yes flag; next 3; " + shows, "var 0; do get l; var 0; do get l; loop fold 9 [num]; var 1; var 2; do one; do join; next 5; " + shows, "var 0; do get l; loop each 5; var 0; emit; next 3; stop", `push {x:["long text"]} {x:[text]}; bind; var 1; var 1; do form a b; emit; var 1; send longname 1; stop`, "var 0; do some; none 4; emit; stop", "var 0; do one; push 0 num; do at; emit; stop",
}

// Nothing is written into an argument or behind its end.
func TestMachineArgumentsStay(t *testing.T) {
	plain := readTree(t, someOld)
	for _, s := range takesApart {
		old, ops := spareTree(plain), readCode(t, s)
		shown := impl.CodeShow(ops)
		for i := range ops {
			ops[i].Tree, ops[i].Kind = spareTree(ops[i].Tree), spareKind(ops[i].Kind)
			ops[i].Names = append(append(make([]string, 0, 9), ops[i].Names...), "spare")[:len(ops[i].Names)]
		}
		if d := impl.CodeRun(ops, old); d.Code != 0 || len(d.Outs) == 0 {
			t.Errorf("%q: %s", s, doneText(d))
		}
		if !sameTree(old, plain) || impl.CodeShow(ops) != shown {
			t.Errorf("%q: something was changed", s)
		}
		wantSpareTree(t, s, old)
		for _, op := range ops {
			wantSpareTree(t, s, op.Tree)
			wantSpareKind(t, s, op.Kind)
			if op.Names[:len(op.Names)+1][len(op.Names)] != "spare" {
				t.Errorf("%q: a name behind the end was changed", s)
			}
		}
	}
}

// Every answer is new memory: it shares none with an argument, and no two lists of one answer share any.
func TestMachineAnswersAreNew(t *testing.T) {
	for _, s := range takesApart {
		old, ops := readTree(t, someOld), readCode(t, s)
		wantListsApart(t, s, func() tree {
			d := impl.CodeRun(ops, old)
			all := list()
			for _, out := range d.Outs {
				wantTextsApart(t, append(textsOf(out.Body), out.Name), append(textsOf(old), opTexts(ops)...))
				all.Kids = append(all.Kids, out.Body)
			}
			return all
		})
		first, second := impl.CodeRun(ops, old), impl.CodeRun(ops, old)
		for i := range first.Outs {
			spoilAll(first.Outs[i].Body)
			first.Outs[i] = liftOut{Name: "spoilt"}
		}
		if !sameDone(second, impl.CodeRun(readCode(t, s), readTree(t, someOld))) || !sameDone(second, impl.CodeRun(ops, old)) {
			t.Errorf("%q: an answer shares something", s)
		}
	}
}
