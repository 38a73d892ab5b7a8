package tests

import (
	"fmt"
	"math/rand"
	"slices"
	"strings"
	"testing"

	"loop.example/teagle/impl"
)

// codeOfNode is the document's table of codes: 0, 1, 2 are the kids, with + those for which the node binds its names; L: is a
// place and E the one behind all; K is the schema of the second kid, and what a node has stands for itself.
var codeOfNode = map[string]string{
	"and": "0; no L; 1; jump E; L:; push no flag", "or": "0; no L; push yes flag; jump E; L:; 1",
	"if": "0; no L; 1; jump E; L:; 2", "choose": "0; no L; 1; jump E; L:; 2",
	"let": "0; bind; 1+; free", "take": "0; bind; 1+; free",
	"else": "0; none L; jump E; L:; 1", "case": "0; none L; bind; 1+; free; jump E; L:; 2",
	"map": "0; loop map E K; L:; 1+; next L", "keep": "0; loop keep E; L:; 1+; next L", "fold": "0; 1; loop fold E K; L:; 2+; next L", "each": "0; loop each E; L:; 1+; next L",
	"drop": "", "fail": "fail NUM", "emit": "0; emit", "send": "0; send NAME NUM", "both": "0; 1",
}

// coder tells code as lines in which places are still marks, such as <3L>.
type coder struct {
	lines []string
	nodes int
}

func (c *coder) node(n node, bound bindings) {
	c.nodes++
	own := c.nodes
	mark := func(s string) string { return fmt.Sprintf("<%d%s>", own, s) }
	word := strings.Fields(opTable[n.Op])[0]
	switch word {
	case "NUMBER", "QUOTED", "FLAG":
		c.lines = append(c.lines, "push "+impl.TreeWrite(tree{Sort: n.Op, Num: n.Num, Text: n.Text})+" "+sortWords[n.Op])
		return
	case "X":
		for i, b := range slices.Backward(bound) {
			if b[0] == n.Names[0] {
				c.lines = append(c.lines, fmt.Sprint("var ", i))
				return
			}
		}
		panic("a name that is not bound")
	case "none":
		c.lines = append(c.lines, "push ~ ?"+n.Text)
		return
	case "empty":
		c.lines = append(c.lines, "push [] ["+n.Text+"]")
		return
	}
	rule, is := codeOfNode[word]
	if !is {
		for _, kid := range n.Kids {
			c.node(kid, bound)
		}
		c.lines = append(c.lines, strings.Join(append([]string{"do", word}, n.Names...), " "))
		return
	}
	within := c.within(n, bound)
	for _, step := range strings.Split(rule, "; ") {
		switch {
		case step == "":
		case step[0] >= '0' && step[0] <= '2':
			at := bound
			if strings.HasSuffix(step, "+") {
				at = within
			}
			c.node(n.Kids[step[0]-'0'], at)
		case step == "L:":
			c.lines = append(c.lines, mark("L")+":")
		default:
			words := strings.Fields(step)
			for i, w := range words {
				switch w {
				case "L", "E":
					words[i] = mark(w)
				case "K":
					words[i] = c.kindOf(n.Kids[1], map[bool]bindings{true: within, false: bound}[word == "map"])
				case "NUM":
					words[i] = fmt.Sprint(n.Num)
				case "NAME":
					words[i] = n.Names[0]
				}
			}
			c.lines = append(c.lines, strings.Join(words, " "))
		}
	}
	c.lines = append(c.lines, mark("E")+":")
}

// kindOf is the schema's text of a value with which nothing is wrong.
func (c *coder) kindOf(n node, bound bindings) string {
	k, f := toldKind(bound, n)
	if f.Code != 0 {
		panic("a value with a fault")
	}
	return k
}

// within are the names that are bound for a later kid of a node.
func (c *coder) within(n node, bound bindings) bindings {
	switch n.Op {
	case impl.LiftLet, impl.LiftTake, impl.LiftCase, impl.LiftMap, impl.LiftKeep, impl.LiftEach:
		return boundFor(n, bound, []string{c.kindOf(n.Kids[0], bound)})
	case impl.LiftFold:
		return boundFor(n, bound, []string{c.kindOf(n.Kids[0], bound), c.kindOf(n.Kids[1], bound)})
	}
	return bound
}

// toldMade is by itself the text of the code of an upcaster; empty, if something is wrong with it.
func toldMade(from string, sinks [][2]string, n node) string {
	if toldCheck(from, sinks, n).Code != 0 {
		return ""
	}
	c := coder{}
	c.node(n, bindings{{"old", from}})
	var code []string
	places := []string{}
	for _, line := range append(c.lines, "stop") {
		if mark, is := strings.CutSuffix(line, ":"); is && mark[0] == '<' {
			places = append(places, mark, fmt.Sprint(len(code)))
			continue
		}
		code = append(code, fmt.Sprint(len(code), " ", line))
	}
	return strings.NewReplacer(places...).Replace(strings.Join(code, "\n") + "\n")
}

// wantMadeOf: an upcaster's code is shown as the tests tell it, and P29 holds of it. It is the code.
func wantMadeOf(t *testing.T, from string, sinks []liftSink, told [][2]string, n node) []codeOp {
	t.Helper()
	ops, ok := impl.CodeMake(readKind(t, from), sinks, n)
	wanted := toldMade(from, told, n)
	if shown := impl.CodeShow(ops); ok != (wanted != "") || shown != wanted {
		t.Errorf("%.300q: %v\n%s\nwanted\n%s", impl.LiftWrite(n), ok, shown, wanted)
	}
	if !ok {
		if len(ops) != 0 {
			t.Errorf("%.300q: there is code: %v", impl.LiftWrite(n), ops)
		}
		return nil
	}
	wantNeverLong(t, n, ops)
	return ops
}

// wantNeverLong is P29: the code is ok, ends with a stop, and has at most four ops for each node, and one.
func wantNeverLong(t *testing.T, n node, ops []codeOp) {
	t.Helper()
	if _, ok := toldCode(ops); !ok || !impl.CodeOk(ops) || len(ops) > 4*nodesOf(n)+1 {
		t.Errorf("%.300q: ok %v, %d ops of %d nodes", impl.LiftWrite(n), ok, len(ops), nodesOf(n))
	}
	for i, op := range ops {
		if (op.Op == impl.CodeStop) != (i == len(ops)-1) {
			t.Errorf("%.300q: the op %d of %d is %d", impl.LiftWrite(n), i, len(ops), op.Op)
		}
	}
}

// wantMadeText: the code of an upcaster is that of a text, ops with "; " between, without the stop.
func wantMadeText(t *testing.T, from, sinks, s, wanted string) {
	t.Helper()
	list, told := sinksOf(t, sinks)
	n := readLift(t, s)
	ops := wantMadeOf(t, from, list, told, n)
	var lines []string
	for _, line := range strings.Split(strings.TrimPrefix(wanted+"; stop", "; "), "; ") {
		lines = append(lines, fmt.Sprint(len(lines), " ", line))
	}
	if shown := impl.CodeShow(ops); shown != strings.Join(lines, "\n")+"\n" {
		t.Errorf("%q is\n%swanted\n%s", s, shown, strings.Join(lines, "\n"))
	}
}

// P29: every row of the table, whose ops are known one by one.
func TestMadeOfEachRow(t *testing.T) {
	seen := map[int]int{}
	for _, row := range [][2]string{
		{"drop", ""}, {"fail 0", "fail 0"}, {"fail 99", "fail 99"},
		{"emit form n 5 end", "push 5 num; do form n; emit"}, {"emit form n -999999999 end", "push -999999999 num; do form n; emit"},
		{"send paid 2 form end", "do form; send paid 2"}, {`send paid 12 form t "a b" end`, `push "a b" text; do form t; send paid 12`}, {`send paid 12 form t "" end`, `push "" text; do form t; send paid 12`},
		{"both fail 1 fail 2", "fail 1; fail 2"}, {"both drop drop", ""}, {"both drop fail 1", "fail 1"}, {"both fail 1 drop", "fail 1"}, {"both both fail 1 fail 2 both fail 3 fail 4", "fail 1; fail 2; fail 3; fail 4"},
		{"take x yes drop", "push yes flag; bind; free"}, {"take x no take y x drop", "push no flag; bind; var 1; bind; free; free"}, {"take x old emit form n get a x end", "var 0; bind; var 1; do get a; do form n; emit; free"},
		{"take x none num drop", "push ~ ?num; bind; free"}, {"take x empty [text] drop", "push [] [[text]]; bind; free"}, {"take x none {a:num,b:[?flag]} drop", "push ~ ?{a:num,b:[?flag]}; bind; free"}, {"take x empty {} drop", "push [] [{}]; bind; free"}, {"take x none ?num drop", "push ~ ??num; bind; free"},
		{"choose get f old fail 1 fail 2", "var 0; do get f; no 5; fail 1; jump 6; fail 2"}, {"choose yes drop drop", "push yes flag; no 3; jump 3"}, {"choose yes drop fail 1", "push yes flag; no 3; jump 4; fail 1"}, {"choose yes fail 1 drop", "push yes flag; no 4; fail 1; jump 4"},
		{"choose and yes no drop drop", "push yes flag; no 4; push no flag; jump 5; push no flag; no 7; jump 7"}, {"choose or yes no drop drop", "push yes flag; no 4; push yes flag; jump 5; push no flag; no 7; jump 7"},
		{"choose not get f old drop drop", "var 0; do get f; do not; no 5; jump 5"},
		{"emit form n if get f old 1 2 end", "var 0; do get f; no 5; push 1 num; jump 6; push 2 num; do form n; emit"},
		{"emit form n let x 1 x end", "push 1 num; bind; var 1; free; do form n; emit"},
		{"emit form n else get m old 7 end", "var 0; do get m; none 4; jump 5; push 7 num; do form n; emit"},
		{"emit form n case x get m old x 7 end", "var 0; do get m; none 7; bind; var 1; free; jump 8; push 7 num; do form n; emit"},
		{"emit form n case x get m old case y some x y 1 2 end", "var 0; do get m; none 14; bind; var 1; do some; none 11; bind; var 2; free; jump 12; push 1 num; free; jump 15; push 2 num; do form n; emit"},
		{"take z map x get l old less x 0 drop", "var 0; do get l; loop map 7 flag; var 1; push 0 num; do less; next 3; bind; free"}, {"take z keep x get l old less x 0 drop", "var 0; do get l; loop keep 7; var 1; push 0 num; do less; next 3; bind; free"},
		{"take z map x get l old x drop", "var 0; do get l; loop map 5 num; var 1; next 3; bind; free"}, {"take z map x get l old old drop", "var 0; do get l; loop map 5 " + someFrom + "; var 0; next 3; bind; free"},
		{"take z fold s x get l old 0 add s x drop", "var 0; do get l; push 0 num; loop fold 8 num; var 1; var 2; do add; next 4; bind; free"},
		{`take z fold s x get l old "" s drop`, `var 0; do get l; push "" text; loop fold 6 text; var 1; next 4; bind; free`},
		{"take z fold s x get l old form a 1 end s drop", "var 0; do get l; push 1 num; do form a; loop fold 7 {a:num}; var 1; next 5; bind; free"}, {"take z fold s x get l old empty num join s one x drop", "var 0; do get l; push [] [num]; loop fold 9 [num]; var 1; var 2; do one; do join; next 4; bind; free"}, {"take z fold s x get l old none num some x drop", "var 0; do get l; push ~ ?num; loop fold 7 ?num; var 2; do some; next 4; bind; free"},
		{"each x get l old emit form n x end", "var 0; do get l; loop each 7; var 1; do form n; emit; next 3"}, {"each x get l old drop", "var 0; do get l; loop each 4; next 3"},
		{"each x get l old each y get l old fail 1", "var 0; do get l; loop each 9; var 0; do get l; loop each 8; fail 1; next 6; next 3"},
		{"take z form a 1 b yes end emit form n add get a z sub 3 2 end", "push 1 num; push yes flag; do form a b; bind; var 1; do get a; push 3 num; push 2 num; do sub; do add; do form n; emit; free"},
		{"emit form n mul div 7 2 rem 7 2 end", "push 7 num; push 2 num; do div; push 7 num; push 2 num; do rem; do mul; do form n; emit"},
		{`choose same "a" "b" drop drop`, `push "a" text; push "b" text; do same; no 5; jump 5`},
		{"emit form n at get l old size get b old end", "var 0; do get l; var 0; do get b; do size; do at; do form n; emit"},
		{`send paid 12 form t join show 5 part get b old 0 1 end`, `push 5 num; do show; var 0; do get b; push 0 num; push 1 num; do part; do join; do form t; send paid 12`},
		{`emit form n else read get b old 0 end`, `var 0; do get b; do read; none 5; jump 6; push 0 num; do form n; emit`},
		{"emit cut z put n put z form end 1 2", "do form; push 1 num; do put z; push 2 num; do put n; do cut z; emit"},
		{"take z one some old drop", "var 0; do some; do one; bind; free"},
	} {
		wantMadeText(t, someFrom, someSinks, row[0], row[1])
		countOps(readLift(t, row[0]), seen)
	}
	for op := 1; op <= 43; op++ {
		if seen[op] == 0 {
			t.Errorf("no upcaster has the op %d", op)
		}
	}
}

// P29: the document's example.
func TestMadeOfExample(t *testing.T) {
	wantMadeText(t, "{l:[num],n:num}", "@0 {n:num}", "choose less get n old 0 fail 7 each x get l old emit form n add x 1 end", "var 0; do get n; push 0 num; do less; no 7; fail 7; jump 16; var 0; do get l; loop each 16; var 1; push 1 num; do add; do form n; emit; next 10")
}

// P29: the place of a name that is bound twice, within itself, and used within and behind; names of other parts.
func TestMadeNames(t *testing.T) {
	for _, row := range [][2]string{
		{"take x 1 both take x add x 1 take z x drop take z x drop", "push 1 num; bind; var 1; push 1 num; do add; bind; var 2; bind; free; free; var 1; bind; free; free"},
		{"take z let x 1 let x add x 1 x drop", "push 1 num; bind; var 1; push 1 num; do add; bind; var 2; free; free; bind; free"},
		{"take z let x 1 add let x 2 x x drop", "push 1 num; bind; push 2 num; bind; var 2; free; var 1; do add; free; bind; free"},
		{"take old get a old take z old drop", "var 0; do get a; bind; var 1; bind; free; free"},
		{"both take old get a old drop emit form n get a old end", "var 0; do get a; bind; free; var 0; do get a; do form n; emit"},
		{"take x some 1 take z case x x add x 1 else x 2 drop", "push 1 num; do some; bind; var 1; none 11; bind; var 2; push 1 num; do add; free; jump 15; var 1; none 14; jump 15; push 2 num; bind; free; free"},
		{"take x get l old take z map x x add x 1 take y x drop", "var 0; do get l; bind; var 1; loop map 9 num; var 2; push 1 num; do add; next 5; bind; var 1; bind; free; free; free"},
		{"take x get l old take z keep x x less x 1 take y x drop", "var 0; do get l; bind; var 1; loop keep 9; var 2; push 1 num; do less; next 5; bind; var 1; bind; free; free; free"},
		{"take x get l old take z fold x y x size x add x y take y x drop", "var 0; do get l; bind; var 1; var 1; do size; loop fold 11 num; var 2; var 3; do add; next 7; bind; var 1; bind; free; free; free"},
		{"take x get l old take z fold s x x 0 add s x drop", "var 0; do get l; bind; var 1; push 0 num; loop fold 10 num; var 2; var 3; do add; next 6; bind; free; free"},
		{"take x get l old both each x x take z x drop each x x drop", "var 0; do get l; bind; var 1; loop each 9; var 2; bind; free; next 5; var 1; loop each 12; next 11; free"},
		{"both take x 1 drop take x yes choose x drop drop", "push 1 num; bind; free; push yes flag; bind; var 1; no 8; jump 8; free"},
		{"take z if yes let x 1 x let x 2 x drop", "push yes flag; no 7; push 1 num; bind; var 1; free; jump 11; push 2 num; bind; var 1; free; bind; free"},
		{"take x 5 take z if yes let x 1 2 x drop", "push 5 num; bind; push yes flag; no 9; push 1 num; bind; push 2 num; free; jump 10; var 1; bind; free; free"},
		{"take x 5 choose yes take x 6 drop take y x drop", "push 5 num; bind; push yes flag; no 8; push 6 num; bind; free; jump 11; var 1; bind; free; free"},
		{"take x 5 both take x 6 drop take y x drop", "push 5 num; bind; push 6 num; bind; free; var 1; bind; free; free"},
		{"take z case x none num x let x 3 x drop", "push ~ ?num; none 6; bind; var 1; free; jump 10; push 3 num; bind; var 1; free; bind; free"},
		{"each old get l old each old one old take z old drop", "var 0; do get l; loop each 11; var 1; do one; loop each 10; var 2; bind; free; next 6; next 3"},
		{"take a map x get l old map x one x map x one x x drop", "var 0; do get l; loop map 13 [[num]]; var 1; do one; loop map 12 [num]; var 2; do one; loop map 11 num; var 3; next 9; next 6; next 3; bind; free"},
		{"take z fold s x get l old 0 fold s x one x s add s x drop", "var 0; do get l; push 0 num; loop fold 13 num; var 2; do one; var 1; loop fold 12 num; var 3; var 4; do add; next 8; next 4; bind; free"},
		{"take a 1 take b 2 take c 3 take z add a add b c drop", "push 1 num; bind; push 2 num; bind; push 3 num; bind; var 1; var 2; var 3; do add; do add; bind; free; free; free; free"},
	} {
		wantMadeText(t, someFrom, someSinks, row[0], row[1])
	}
}

// P29: loops in loops, and jumps over parts that are loops, or that are nothing.
func TestMadeJumps(t *testing.T) {
	for _, row := range [][2]string{
		{"choose yes each x get l old drop each x get l old drop", "push yes flag; no 7; var 0; do get l; loop each 6; next 5; jump 11; var 0; do get l; loop each 11; next 10"},
		{"choose yes choose no drop drop drop", "push yes flag; no 6; push no flag; no 5; jump 5; jump 6"}, {"choose yes drop choose no drop drop", "push yes flag; no 3; jump 6; push no flag; no 6; jump 6"},
		{"choose yes both drop drop drop", "push yes flag; no 3; jump 3"}, {"each x get l old choose yes drop drop", "var 0; do get l; loop each 7; push yes flag; no 6; jump 6; next 3"},
		{"choose and or yes no and no yes drop fail 3", "push yes flag; no 4; push yes flag; jump 5; push no flag; no 12; push no flag; no 10; push yes flag; jump 11; push no flag; jump 13; push no flag; no 15; jump 16; fail 3"},
		{"take z if yes map x get l old 1 empty num drop", "push yes flag; no 8; var 0; do get l; loop map 7 num; push 1 num; next 5; jump 9; push [] [num]; bind; free"},
		{"take z map x keep y get l old yes fold s w get l old 0 s drop", "var 0; do get l; loop keep 5; push yes flag; next 3; loop map 13 num; var 0; do get l; push 0 num; loop fold 12 num; var 2; next 10; next 6; bind; free"},
		{"take z else else some get m old none num 4 drop", "var 0; do get m; do some; none 5; jump 6; push ~ ?num; none 8; jump 9; push 4 num; bind; free"},
	} {
		wantMadeText(t, someFrom, someSinks, row[0], row[1])
	}
	// One jump behind another, all to one place.
	for levels := 1; levels <= 22; levels++ {
		n := nDrop()
		for range levels {
			n = nOp(impl.LiftChoose, "", nFlag(1), nDrop(), n)
		}
		sinks, told := sinksOf(t, someSinks)
		ops := wantMadeOf(t, someFrom, sinks, told, n)
		for i, op := range ops {
			if op.Op == impl.CodeJump && op.A != len(ops)-1 || op.Op == impl.CodeNo && op.A != i+2 {
				t.Errorf("%d levels: the op %d goes to %d of %d", levels, i, op.A, len(ops))
			}
		}
	}
}

// casesOf is one row of `case` within `case` behind the other, until there are so many nodes, or hardly fewer.
func casesOf(nodes int) node {
	one := func(levels int) node {
		n := nNum(1)
		for range levels {
			n = nOp(impl.LiftCase, "x", node{Op: impl.LiftNone, Text: "num"}, n, nNum(0))
		}
		return nOp(impl.LiftTake, "z", n, nDrop())
	}
	// A level has three nodes more; take, drop and the innermost are three.
	all, left := nDrop(), nodes-1
	for left >= 4 {
		levels := min((left-4)/3, 12)
		all = nBoth(one(levels), all)
		left -= 4 + 3*levels
	}
	for range left / 2 {
		all = nBoth(nDrop(), all)
	}
	return all
}

// P29: the greatest upcasters that LiftCheck lets pass: most nodes, the longest text, the costliest, the widest, the deepest.
func TestMadeOfGreatest(t *testing.T) {
	sinks, told := sinksOf(t, someSinks)
	most := 0
	for _, n := range []node{
		casesOf(199), casesOf(198), nWithinBoth(24), costing(t, impl.LiftMap, 40000), costing(t, impl.LiftKeep, 40000), costing(t, impl.LiftFold, 40000), costly(t, 40000), longLift(3000),
		readLift(t, "each x get l old each y get l old emit form n 1 end"), nOp(impl.LiftTake, "z", nFields(39, nNum(1)), nOp(impl.LiftTake, "y", nFields(39, nNum(1)), nDrop())),
	} {
		ops := wantMadeOf(t, someFrom, sinks, told, n)
		if len(ops) == 0 && impl.LiftCheck(readKind(t, someFrom), sinks, n).Code == 0 {
			t.Errorf("no code of %.100q", impl.LiftWrite(n))
		}
		most = max(most, len(ops))
	}
	if n := nodesOf(casesOf(199)); n < 198 || n > 200 {
		t.Errorf("%d nodes", n)
	}
	if most < 370 {
		t.Errorf("the longest code has %d ops", most)
	}
	// Two hundred nodes, and one more: there is no code.
	for _, more := range []int{0, 1} {
		n := nDrop()
		for range 4 {
			n = nBoth(nOp(impl.LiftTake, "z", nFields(39, nNum(1)), nDrop()), n)
		}
		n = nBoth(nOp(impl.LiftTake, "z", nFields(19+more, nNum(1)), nDrop()), n)
		n = nBoth(nDrop(), nBoth(nDrop(), n))
		for nodesOf(n) < 200+more {
			n = nOp(impl.LiftTake, "y", nNum(1), n)
		}
		if nodesOf(n) != 200+more && nodesOf(n) != 201+more {
			t.Fatalf("%d nodes", nodesOf(n))
		}
		wantMadeOf(t, someFrom, sinks, told, n)
	}
}

// Code is made of just what is accepted: each fault of LiftCheck, of the node, of from, of the sinks.
func TestMadeOfNothing(t *testing.T) {
	sinks, told := sinksOf(t, someSinks)
	codes := map[int]int{}
	for _, s := range []string{"emit form n q end", "emit old", "emit form m 2 n 1 end", "send paid 3 form end", "send other 2 form end", "send paid 2 form a 1 end", "take x get z old drop", "take x cut z old drop", "take x add 1 yes drop", "choose 1 drop drop", "each x old drop", "take x one one one one one one 1 drop", "each x get l old each y get l old each z get l old emit form n 1 end", "each x get l old each y get l old each z get l old each w get l old drop", "both drop emit x", "both take x 1 drop emit form n x end", "take x let y 1 y emit form n y end", "both each x get l old drop emit form n x end", "take z if yes let x 1 x x drop"} {
		n := readLift(t, s)
		codes[impl.LiftCheck(readKind(t, someFrom), sinks, n).Code]++
		if ops := wantMadeOf(t, someFrom, sinks, told, n); ops != nil {
			t.Errorf("%q has code", s)
		}
	}
	codes[impl.LiftBadWord]++
	none := func(what string, from kind, sinks []liftSink, n node) {
		t.Helper()
		if ops, ok := impl.CodeMake(from, sinks, n); ok || len(ops) != 0 {
			t.Errorf("%s: %v", what, ops)
		}
	}
	from := readKind(t, someFrom)
	for _, n := range []node{{}, nNum(5), nName("old"), nOp(impl.LiftForm, ""), {Op: 44}, {Op: -1}, {Op: impl.LiftDrop, Num: 1}, {Op: impl.LiftDrop, Text: "q"}, {Op: impl.LiftDrop, Names: []string{""}}, {Op: impl.LiftFail, Num: 100}, {Op: impl.LiftFail, Num: -1}, nBoth(nDrop(), nNum(1)), nOp(impl.LiftEmit, "", nDrop()), nOp(impl.LiftTake, "add", nNum(1), nDrop()), {Op: impl.LiftBoth, Kids: []node{nDrop()}}, nWithinBoth(25), longLift(3001)} {
		none(fmt.Sprint(n.Op), from, sinks, n)
	}
	for what, k := range badKinds() {
		none("from: "+what, k, sinks, nDrop())
		none("a sink: "+what, from, append(slices.Clip(sinks), aSink("t", 1, k)), nDrop())
	}
	for _, k := range []kind{kNum, kText, kFlag, kList(kForm("")), kMaybe(kForm(""))} {
		none("from no form", k, sinks, nDrop())
		none("a sink of no form", from, []liftSink{{Kind: k}}, nDrop())
	}
	for _, sink := range []liftSink{aSink("", 1, kForm("")), aSink("t", 0, kForm("")), aSink("t", 13, kForm("")), aSink("T", 1, kForm("")), aSink("", -1, kForm(""))} {
		none("a sink that is none", from, []liftSink{sink}, nDrop())
	}
	for _, code := range []int{impl.LiftBadWord, impl.LiftUnknown, impl.LiftWrong, impl.LiftBigKind, impl.LiftNoField, impl.LiftCostly, impl.LiftWide} {
		if codes[code] == 0 {
			t.Errorf("no upcaster has the fault %d", code)
		}
	}
	if ops, ok := impl.CodeMake(kForm(""), nil, nDrop()); !ok || impl.CodeShow(ops) != "0 stop\n" {
		t.Errorf("without sinks: %v", ops)
	}
}

const (
	chanceFrom  = "{a:num,b:text,l:[num],m:?text}"
	chanceSinks = "@0 {a:num}; paid@1 {}; paid@2 {a:num,b:text}; @0 {}; paid@3 {o:{a:num}}; paid@3 {}"
)

// chanceLift is an upcaster from chanceFrom to the first ones of chanceSinks, by chance.
func chanceLift(t *testing.T, r *rand.Rand) node {
	_, told := sinksOf(t, chanceSinks)
	firsts := slices.DeleteFunc(told, func(s [2]string) bool { return s[1] == "{}" && s[0] != "paid@1" })
	n := actionOf(r, bindings{{"old", chanceFrom}}, firsts, 1+r.Intn(6)+r.Intn(20)/18*2)
	edgy(r, &n)
	return n
}

// P29: many upcasters by chance.
func TestMadeMany(t *testing.T) {
	t.Parallel()
	r := rand.New(rand.NewSource(29))
	sinks, told := sinksOf(t, chanceSinks)
	made, not, ops := 0, 0, map[int]int{}
	for range 4000 {
		n := chanceLift(t, r)
		for range 2 {
			if code := wantMadeOf(t, chanceFrom, sinks, told, n); code != nil {
				made++
				for _, op := range code {
					ops[op.Op]++
				}
			} else {
				not++
			}
			n = copyNode(n)
			otherPart(r, &n)
		}
	}
	if made < 3000 || not < 500 || len(ops) != 14 {
		t.Errorf("%d are made, %d not, of %d ops", made, not, len(ops))
	}
}

// Every function answers at every argument: at nodes and schemas that hold themselves.
func TestMadeWithoutEnd(t *testing.T) {
	self := nBoth(nDrop(), nDrop())
	self.Kids[0], self.Kids[1] = self, self
	kinds := make([]kind, 1)
	kinds[0] = kind{Sort: impl.TreeForm, Names: []string{"a"}, Kids: kinds}
	for _, c := range []struct {
		from  kind
		sinks []liftSink
		n     node
	}{
		{kForm(""), nil, self}, {kinds[0], nil, nDrop()}, {kForm(""), []liftSink{{Kind: kinds[0]}}, nDrop()}, {kForm(""), nil, node{Op: impl.LiftForm, Kids: make([]node, 1000000), Names: make([]string, 1000000)}}, {kForm(""), nil, nOp(impl.LiftTake, "x", nNum(1), self)},
	} {
		if ops, ok := impl.CodeMake(c.from, c.sinks, c.n); ok || len(ops) != 0 {
			t.Errorf("there is code: %v", ops)
		}
	}
	if ops, ok := impl.CodeMake(kForm(""), slices.Repeat([]liftSink{{Kind: kForm("")}}, 100000), nEmit(nName("old"))); !ok || impl.CodeShow(ops) != "0 var 0\n1 emit\n2 stop\n" {
		t.Errorf("many sinks: %v", ops)
	}
}

// The empty list and the nil list are the same value.
func TestMadeEmptyAndNil(t *testing.T) {
	for _, from := range []kind{{Sort: impl.TreeForm}, {Sort: impl.TreeForm, Names: []string{}, Kids: []kind{}}} {
		for _, sinks := range [][]liftSink{{{Kind: kForm("")}}, {{Kind: kind{Sort: impl.TreeForm, Names: []string{}, Kids: []kind{}}}}} {
			for _, n := range []node{nOp(impl.LiftForm, ""), {Op: impl.LiftForm, Names: []string{}, Kids: []node{}}} {
				if ops, ok := impl.CodeMake(from, sinks, nEmit(n)); !ok || impl.CodeShow(ops) != "0 do form\n1 emit\n2 stop\n" {
					t.Errorf("%v", ops)
				}
			}
		}
		for _, sinks := range [][]liftSink{nil, {}} {
			if ops, ok := impl.CodeMake(from, sinks, node{Op: impl.LiftDrop, Names: []string{}, Kids: []node{}}); !ok || impl.CodeShow(ops) != "0 stop\n" {
				t.Errorf("%v", ops)
			}
		}
	}
}

// everyOp is an upcaster with every sort of op in its code.
const everyOp = `take x form a 1 bb "long text" end both send paid 12 form t get bb x end both each y get l old choose less y 0 drop emit form n case z get m old add z fold s w get l old 0 add s w else none num 7 end take w map v keep v get l old yes form a v bb "long text" end choose same w empty {a:num,bb:text} fail 3 drop`

// Nothing is written into an argument or behind its end.
func TestMadeArgumentsStay(t *testing.T) {
	sinks, _ := sinksOf(t, someSinks)
	from, n := spareKind(readKind(t, someFrom)), readLift(t, everyOp)
	for i := range sinks {
		sinks[i].Kind = spareKind(sinks[i].Kind)
	}
	more := append(slices.Clip(sinks), aSink("spare", 1, kForm("")))[:len(sinks)]
	n.Names, n.Kids = slices.Grow(n.Names, 3), slices.Grow(n.Kids, 3)
	before := copyNode(n)
	ops, ok := impl.CodeMake(from, more, n)
	if !ok || len(ops) < 50 {
		t.Fatalf("%d ops", len(ops))
	}
	if !sameNode(n, before) || textOf(from) != someFrom || more[:len(sinks)+1][len(sinks)].Name != "spare" || n.Names[:2][1] != "" || !sameNode(n.Kids[:3][2], node{}) {
		t.Error("something was changed")
	}
	wantSpareKind(t, "from", from)
	for _, sink := range more {
		wantSpareKind(t, "a sink", sink.Kind)
	}
}

// opTexts are all texts of code.
func opTexts(ops []codeOp) []string {
	var texts []string
	for _, op := range ops {
		texts = append(append(append(texts, op.Names...), textsOf(op.Tree)...), namesOf(op.Kind)...)
	}
	return texts
}

// Every answer is new memory: it shares none with an argument, and no two lists of one answer share any.
func TestMadeAnswersAreNew(t *testing.T) {
	sinks, _ := sinksOf(t, someSinks)
	from, n := readKind(t, someFrom), readLift(t, everyOp)
	ops, _ := impl.CodeMake(from, sinks, n)
	shown := impl.CodeShow(ops)
	wantTextsApart(t, opTexts(ops), append(liftTexts(n), namesOf(from)...))
	for i := range ops {
		other, _ := impl.CodeMake(from, sinks, n)
		for j := range other[i].Names[:cap(other[i].Names)] {
			other[i].Names[:cap(other[i].Names)][j] = "spoilt"
		}
		spoilAll(other[i].Tree)
		spoilAllKinds(other[i].Kind)
		for j := range other {
			line, _ := toldOp(other[j], 1000)
			if wanted, _ := toldOp(ops[j], 1000); j != i && line != wanted {
				t.Errorf("the ops %d and %d share something", i, j)
			}
		}
		if again, _ := impl.CodeMake(from, sinks, n); impl.CodeShow(again) != shown || textOf(from) != someFrom || !sameNode(n, readLift(t, everyOp)) {
			t.Errorf("the op %d shares something", i)
		}
	}
	for i := range ops[:cap(ops)] {
		ops[:cap(ops)][i] = codeOp{}
	}
	if again, _ := impl.CodeMake(from, sinks, n); impl.CodeShow(again) != shown {
		t.Error("the ops are shared")
	}
}
