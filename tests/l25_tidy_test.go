package tests

import (
	"fmt"
	"math/rand"
	"slices"
	"strings"
	"testing"

	"loop.example/teagle/impl"
)

// toldTidy is by itself a node with all its kids tidied, and then it.
func toldTidy(n node) node {
	var k []node
	for _, kid := range n.Kids {
		k = append(k, toldTidy(kid))
	}
	n.Kids = k
	word := strings.Fields(opTable[n.Op])[0]
	first := ""
	if len(k) > 0 {
		first = strings.Fields(opTable[k[0].Op])[0]
		if first == "FLAG" {
			first = []string{"no", "yes"}[k[0].Num]
		}
		if first == "some" && k[0].Kids[0].Op <= impl.LiftFlag {
			first = "some C"
		}
	}
	switch word + " " + first {
	case "and yes", "or no":
		return k[1]
	case "and no", "or yes":
		return k[0]
	case "if yes", "choose yes":
		return k[1]
	case "if no", "choose no":
		return k[2]
	case "else some C":
		return k[0].Kids[0]
	case "else none":
		return k[1]
	case "case some C":
		return nOp(impl.LiftLet, n.Names[0], k[0].Kids[0], k[1])
	case "case none":
		return k[2]
	case "keep empty":
		return k[0]
	case "fold empty":
		return k[1]
	case "each empty":
		return nDrop()
	case "both drop":
		return k[1]
	}
	if word == "both" && k[1].Op == impl.LiftDrop {
		return k[0]
	}
	if _, plain := plainWords[word]; !plain || len(k) == 0 || slices.ContainsFunc(k, func(kid node) bool { return kid.Op > impl.LiftFlag }) {
		return n
	}
	if x, code := toldEval(nil, n); code == 0 && x.Sort <= 3 {
		return node{Op: x.Sort, Num: x.Num, Text: x.Text}
	}
	return n
}

// wantTidyNode: what is tidied is what the tests tell; tidied once more it stays. It is what is tidied.
func wantTidyNode(t *testing.T, n node) node {
	t.Helper()
	tidy := impl.CodeTidy(n)
	wanted := node{}
	if okAs(n, "A") {
		wanted = toldTidy(n)
	}
	if !sameNode(tidy, wanted) {
		t.Errorf("%.300q becomes %.300q, wanted %.300q", impl.LiftWrite(n), impl.LiftWrite(tidy), impl.LiftWrite(wanted))
	}
	if again := impl.CodeTidy(tidy); !sameNode(again, tidy) {
		t.Errorf("%.300q becomes %.300q, and then %.300q", impl.LiftWrite(n), impl.LiftWrite(tidy), impl.LiftWrite(again))
	}
	return tidy
}

// wantTidy: the text of what is tidied.
func wantTidy(t *testing.T, s, wanted string) {
	t.Helper()
	if tidy := impl.LiftWrite(wantTidyNode(t, readLift(t, s))); tidy != wanted {
		t.Errorf("%q becomes %q, wanted %q", s, tidy, wanted)
	}
}

// wantTidyValue: a value becomes another one, at the top, within others, and in all sorts of places.
func wantTidyValue(t *testing.T, s, wanted string) {
	t.Helper()
	for _, around := range []string{"emit %s", "take x %s drop", "take x some %s emit form a x end", "send t 3 form a old b %s end", "each x one %s emit form a q end", "choose get f old emit %s drop", "take z let x q %s drop", "take z let x %s x drop", "take z if get f old x %s drop", "take z case x get m old %s y drop", "take z map x get l old %s drop", "take z fold s x get l old y %s drop", "choose q drop take z one some %s drop"} {
		wantTidy(t, fmt.Sprintf(around, s), fmt.Sprintf(around, wanted))
	}
}

// P26: each rule, at the top and within.
func TestTidyOfEachRule(t *testing.T) {
	for _, row := range [][2]string{
		{"and yes x", "x"}, {"or no x", "x"}, {"and no x", "no"}, {"or yes x", "yes"}, {"and yes get f old", "get f old"}, {"and no same 1 div 1 0", "no"}, {"or yes same 1 div 1 0", "yes"},
		{"if yes x y", "x"}, {"if no x y", "y"}, {"if yes x div 1 0", "x"}, {"if no div 1 0 y", "y"},
		{`else some 5 x`, "5"}, {`else some "a b" x`, `"a b"`}, {"else some yes x", "yes"}, {"else some no x", "no"}, {"else none num x", "x"}, {"else none {a:[num]} get a old", "get a old"}, {"else some 5 div 1 0", "5"},
		{"case x some 5 add x y z", "let x 5 add x y"}, {`case x some "q" x z`, `let x "q" x`}, {"case x some yes y z", "let x yes y"}, {"case x none num x z", "z"}, {"case x none ?num x old", "old"},
		{"keep x empty num less x 0", "empty num"}, {"keep x empty [text] y", "empty [text]"}, {"fold s x empty num y add s x", "y"}, {"fold s x empty {a:num} get a old div 1 0", "get a old"},
		{"add 2 3", "5"}, {"sub 2 3", "-1"}, {"mul -2 3", "-6"}, {"div -7 2", "-3"}, {"rem -7 2", "-1"}, {"less 2 3", "yes"}, {`less "b" "a"`, "no"}, {"same 2 2", "yes"}, {`same "a" "b"`, "no"}, {"same yes no", "no"}, {"not yes", "no"}, {"not no", "yes"}, {`size "abc"`, "3"}, {`size ""`, "0"}, {`join "a b" "c"`, `"a bc"`}, {`part "abc" 1 3`, `"bc"`}, {`part "abc" 3 3`, `""`}, {"show -5", `"-5"`},
		// One rule makes the next one fit.
		{"add add 1 2 mul 3 4", "15"}, {"if less 1 2 x y", "x"}, {"if and yes not no x y", "x"}, {"and not no and yes or no x", "x"}, {`else some join "a" show 5 x`, `"a5"`}, {"else else none ?num none num x", "x"}, {"else else some 5 6 x", "else 5 x"}, {"case x if yes some 5 y x z", "let x 5 x"}, {"case x if no some 5 none num y z", "z"}, {"keep x keep y empty num yes no", "empty num"}, {"fold s x keep y empty num no add 1 2 s", "3"}, {"if same size join \"ab\" show 12 4 x y", "x"}, {"case x some add 1 2 add x add 4 5 z", "let x 3 add x 9"}, {"map x if yes empty num y add 1 2", "map x empty num 3"},
		{"let x add 1 2 x", "let x 3 x"}, {"form a add 1 2 b if yes x y end", "form a 3 b x end"}, {"at one add 1 2 sub 3 3", "at one 3 0"},
	} {
		wantTidyValue(t, row[0], row[1])
	}
	for _, row := range [][2]string{
		{"drop", "drop"}, {"fail 7", "fail 7"}, {"emit old", "emit old"}, {"choose yes fail 1 fail 2", "fail 1"}, {"choose no fail 1 fail 2", "fail 2"}, {"choose not no fail 1 fail 2", "fail 1"}, {"choose x fail 1 fail 2", "choose x fail 1 fail 2"},
		{"each x empty num fail 1", "drop"}, {"each x keep y empty num yes emit y", "drop"}, {"each x get l old fail 1", "each x get l old fail 1"}, {"each x one 1 fail 1", "each x one 1 fail 1"},
		{"both drop fail 1", "fail 1"}, {"both fail 1 drop", "fail 1"}, {"both drop drop", "drop"}, {"both fail 1 fail 2", "both fail 1 fail 2"}, {"both both drop drop both drop fail 1", "fail 1"}, {"both each x empty num fail 1 both fail 2 drop", "fail 2"}, {"both choose yes drop fail 1 emit x", "emit x"},
		{"take x 1 drop", "take x 1 drop"}, {"take x div 1 0 drop", "take x div 1 0 drop"}, {"take x add 1 2 both drop emit x", "take x 3 emit x"}, {"each x get l old drop", "each x get l old drop"}, {"each x get l old both drop drop", "each x get l old drop"}, {"choose x both drop drop both drop fail 1", "choose x drop fail 1"}, {"choose x drop drop", "choose x drop drop"},
		{"each x get l old each y empty num emit y", "each x get l old drop"}, {"both take x 1 drop drop", "take x 1 drop"}, {"send t 3 if yes old x", "send t 3 old"},
		{"choose less 1 2 choose less 2 1 fail 1 choose same 1 1 fail 2 fail 3 fail 4", "fail 2"},
	} {
		wantTidy(t, row[0], row[1])
		wantTidy(t, "take q old "+row[0], "take q old "+row[1])
		wantTidy(t, "take x q choose y "+row[0]+" emit q", "take x q choose y "+row[1]+" emit q")
		wantTidy(t, "each x q "+row[0], "each x q "+row[1])
	}
}

// P26: what may stop is not thrown away, and what means no number, text or flag stays.
func TestTidyStays(t *testing.T) {
	sixty := strings.Repeat("q", 60)
	for _, s := range []string{
		// What would stop: beyond the numbers, by nothing, at no place, too big; what breaks.
		"add 999999999 1", "sub -999999999 1", "mul 999999999 2", "mul 31623 31623", "mul -31623 31623", "div 1 0", "rem 1 0", "div 0 0", `part "abc" -1 2`, `part "abc" 2 1`, `part "abc" 1 4`, `join "` + sixty + `" "q"`, `join "` + sixty[:31] + `" "` + sixty[:30] + `"`,
		`add 1 "x"`, "add yes 1", `less 1 "x"`, "less yes no", "not 1", "size 5", "size yes", "join 1 2", `join "a" 1`, `part 1 0 1`, `part "a" yes 1`, `part "a" 0 "b"`, `show "a"`, "read 5", "at 1 0", "get a 5", "cut a 5", "put a 5 6",
		// What means a maybe, a list or a form.
		"some 1", `some "q"`, "one yes", `read "5"`, `read "q"`, "form a 1 end", "form end", `form a 1 b "q" c yes end`, "none num", "empty num",
		// What is asked is not known, or may stop.
		"and x yes", "and x no", "or x no", "or x yes", "and get f old yes", "if x yes yes", "if x 1 1", "if x y y", "else some x 1", "else some add x 1 2", "else some one 1 x", "else some none num x", "else x 1", "else read \"5\" 1", "else some get x old 1", "else some div 1 0 2", "case q some x q 1", "case q some div 1 0 q 1", "case q some one 1 q x", "case q x q 1", "case q read \"5\" q 1",
		"map q empty num q", "map q empty num 5", "keep q x yes", "keep q one 1 yes", "keep q get l old no", "fold s q x 0 s", "fold s q one 1 0 s", "map q one 1 q", "let q 1 q", "let q 1 5", "at one 1 0", "size one 1", "size empty num", "join empty num empty num", "same one 1 one 1", "same none num none num", "same x x", "add x 0", "mul x 0", "add 1 x", "not not x", "get a form a 1 end", "if x yes no",
	} {
		wantTidyValue(t, s, s)
	}
	// At the bounds, just met.
	for _, row := range [][2]string{
		{"add 999999998 1", "999999999"}, {"sub -999999998 1", "-999999999"}, {"mul 333333333 3", "999999999"}, {"mul 31622 31622", "999950884"}, {"div 999999999 -1", "-999999999"}, {"show -999999999", `"-999999999"`}, {`size "` + sixty + `"`, "60"}, {`join "` + sixty[:30] + `" "` + sixty[:30] + `"`, `"` + sixty + `"`}, {`join "` + sixty + `" ""`, `"` + sixty + `"`}, {`part "` + sixty + `" 0 60`, `"` + sixty + `"`}, {`part "` + sixty + `" 60 60`, `""`}, {`less "" "q"`, "yes"}, {"rem -999999999 999999999", "0"}, {"div 0 5", "0"},
		// Of two that are unlike `same` is no: what it wants is any two.
		{`same 1 "1"`, "no"}, {"same yes 1", "no"},
	} {
		wantTidyValue(t, row[0], row[1])
	}
	// A name that is bound by what is thrown away.
	for _, row := range [][2]string{
		{"take x 1 emit if no let x 2 x x", "take x 1 emit x"}, {"take x 1 emit case x none num x x", "take x 1 emit x"}, {"take x 1 emit fold s x empty num x add s x", "take x 1 emit x"}, {"take x 1 emit case x some 5 x x", "take x 1 emit let x 5 x"}, {"take x 1 both each x empty num emit x emit x", "take x 1 emit x"}, {"emit case old some 1 old old", "emit let old 1 old"}, {"take x 1 emit and yes let x yes x", "take x 1 emit let x yes x"}, {"take x 1 emit else some 4 let x 2 x", "take x 1 emit 4"},
	} {
		wantTidy(t, row[0], row[1])
	}
}

// P26: each plain op with all numbers, texts and flags of some, told by what LiftEval says.
func TestTidyPlainOps(t *testing.T) {
	leaves := []node{nNum(0), nNum(1), nNum(2), nNum(-1), nNum(999999999), nNum(-999999999), nText(""), nText("q"), nText("12"), nText(strings.Repeat("z", 60)), nFlag(0), nFlag(1)}
	done, stays := map[int]int{}, map[int]int{}
	for _, op := range plainOps() {
		count := len(strings.Fields(strings.Split(kidTable[op]+">", ">")[0]))
		names := ""
		if plainWords[opWord(op)] == 1 {
			names = "a"
		}
		if op == impl.LiftForm {
			count, names = 2, "a b"
		}
		for i := range 12 * 12 * 12 {
			kids := []node{leaves[i%12], leaves[i/12%12], leaves[i/144]}[:count]
			if i >= []int{1, 12, 144, 1728}[count] {
				break
			}
			n := nOp(op, names, kids...)
			tidy := impl.CodeTidy(nEmit(n)).Kids[0]
			x, code := impl.LiftEval(nil, n)
			if code == 0 && x.Sort <= impl.TreeFlag {
				done[op]++
				if !sameNode(tidy, node{Op: x.Sort, Num: x.Num, Text: x.Text}) {
					t.Errorf("%v becomes %v", n, tidy)
				}
			} else {
				stays[op]++
				if !sameNode(tidy, n) {
					t.Errorf("%v becomes %v", n, tidy)
				}
			}
		}
	}
	if len(done) != 12 || len(stays) < 19 {
		t.Errorf("%v are done, %v stay", done, stays)
	}
}

// wantAllWays is P26 and P27 for an upcaster with which nothing is wrong, and a body.
func wantAllWays(t *testing.T, from kind, sinks []liftSink, n node, olds ...tree) {
	t.Helper()
	tidy := impl.CodeTidy(n)
	if f := impl.LiftCheck(from, sinks, tidy); f != (fault{}) || impl.LiftCost(tidy) > impl.LiftCost(n) || impl.LiftFan(tidy) > impl.LiftFan(n) || !sameNode(impl.CodeTidy(tidy), tidy) {
		t.Errorf("%.300q becomes %.300q: %v, it costs %d and then %d, fans %d and then %d", impl.LiftWrite(n), impl.LiftWrite(tidy), f, impl.LiftCost(n), impl.LiftCost(tidy), impl.LiftFan(n), impl.LiftFan(tidy))
	}
	ops, ok := impl.CodeMake(from, sinks, n)
	tidyOps, tidyOk := impl.CodeMake(from, sinks, tidy)
	if !ok || !tidyOk || len(tidyOps) > len(ops) {
		t.Errorf("%.300q: %v of %d ops, tidied %v of %d", impl.LiftWrite(n), ok, len(ops), tidyOk, len(tidyOps))
	}
	for _, old := range olds {
		d := impl.LiftRun(n, old)
		for way, other := range map[string]liftDone{"tidied": impl.LiftRun(tidy, old), "by code": impl.CodeRun(ops, old), "by tidied code": impl.CodeRun(tidyOps, old)} {
			if !sameDone(d, other) {
				t.Errorf("%.300q of %s: %s, %s %s", impl.LiftWrite(n), impl.TreeWrite(old), doneText(d), way, doneText(other))
			}
		}
	}
}

// P26, P27: ordinary upcasters, by all ways.
func TestTidyAllWays(t *testing.T) {
	sinks, _ := sinksOf(t, someSinks)
	from := readKind(t, someFrom)
	olds := []tree{readTree(t, someOld), readTree(t, `{a:0,b:"",f:no,l:[],m:?5,o:{x:-1}}`), readTree(t, `{a:-999999999,b:"q",f:no,l:`+elements(20)+`,m:?0,o:{x:999999999}}`)}
	for _, s := range []string{
		everyOp, "drop", "fail 1", "both drop drop", "emit form n add 1 2 end", "emit form n div 1 0 end", "emit form n if less 1 2 get a old div 1 0 end", "choose and yes get f old emit form n 1 end fail 2", "choose or no get f old emit form n 1 end fail 2", "emit form n else some 1 div 1 0 end", "emit form n else none num get a old end", "emit form n case x some 3 mul x get a old 0 end", "emit form n case x none num x get a old end", "each x empty num emit form n x end", "each x keep y empty num yes fail 1", "emit form n size keep x empty num yes end", "emit form n fold s x empty num get a old add s x end", "both each x get l old drop emit form n get a old end", `send paid 12 form t join show add 1 2 part "abc" 1 2 end`, "take x div 1 0 drop", "take x div 1 get a old drop", "both fail 1 drop", "both drop fail 1", "choose less 2 1 fail 1 each x get l old emit form n sub x 1 end", "emit form n case x some div 6 2 let x 4 x 0 end", "take a 1 take b add a 1 emit form n if same 1 1 add a b 0 end",
	} {
		wantAllWays(t, from, sinks, readLift(t, s), olds...)
		wantTidyNode(t, readLift(t, s))
	}
	for _, n := range []node{casesOf(199), costing(t, impl.LiftMap, 40000), costing(t, impl.LiftKeep, 40000), costing(t, impl.LiftFold, 40000), costly(t, 40000), nWithinBoth(24)} {
		wantAllWays(t, from, sinks, n, olds...)
		wantTidyNode(t, n)
	}
}

// constant puts constants in places of values, so that rules fit.
func constant(r *rand.Rand, n *node) {
	for i := range n.Kids {
		constant(r, &n.Kids[i])
	}
	if len(n.Kids) == 0 {
		return
	}
	switch word := opWord(n.Op); {
	case r.Intn(3) > 0:
	case word == "and", word == "or", word == "if", word == "choose":
		n.Kids[0] = nFlag(r.Intn(2))
	}
}

// P26, P27: upcasters by chance, with bodies by chance.
func TestTidyMany(t *testing.T) {
	t.Parallel()
	r := rand.New(rand.NewSource(27))
	sinks, _ := sinksOf(t, chanceSinks)
	from := readKind(t, chanceFrom)
	fine, tidier, made := 0, 0, map[string]int{}
	for range 6000 {
		n := chanceLift(t, r)
		constant(r, &n)
		tidy := wantTidyNode(t, n)
		if impl.LiftCheck(from, sinks, n).Code != 0 {
			continue
		}
		fine++
		if !sameNode(tidy, n) {
			tidier++
		}
		made[opWord(n.Op)+" to "+opWord(tidy.Op)]++
		wantAllWays(t, from, sinks, n, bodyOf(r, from), bodyOf(r, from), bodyOf(r, from))
		if t.Failed() {
			t.FailNow()
		}
	}
	if fine < 4000 || tidier < 2000 || made["each to drop"] == 0 || made["choose to emit"] == 0 || made["both to fail"] == 0 {
		t.Errorf("%d are fine, %d become others: %v", fine, tidier, made)
	}
}

// What is no action that is ok becomes nothing; what is one, but is not accepted, is tidied.
func TestTidyNotOk(t *testing.T) {
	for _, n := range []node{{}, nNum(5), nText("q"), nName("x"), readValue(t, "add 1 2"), {Op: 44}, {Op: -1}, {Op: impl.LiftDrop, Num: 1}, {Op: impl.LiftDrop, Text: "q"}, {Op: impl.LiftFail, Num: 100}, {Op: impl.LiftBoth}, {Op: impl.LiftBoth, Kids: []node{nDrop()}}, {Op: impl.LiftBoth, Kids: []node{nDrop(), nNum(1)}}, {Op: impl.LiftBoth, Kids: []node{nDrop(), nDrop(), nDrop()}}, {Op: impl.LiftChoose, Kids: []node{nFlag(2), nDrop(), nDrop()}}, {Op: impl.LiftChoose, Kids: []node{nFlag(1), nDrop(), nNum(1)}}, nEmit(nOp(impl.LiftAdd, "", nNum(1000000000), nNum(1))), nEmit(nOp(impl.LiftAdd, "a", nNum(1), nNum(1))), nEmit(nOp(impl.LiftNot, "", nFlag(2))), nOp(impl.LiftEach, "x", node{Op: impl.LiftEmpty, Text: "nothing"}, nDrop()), nOp(impl.LiftEach, "yes", node{Op: impl.LiftEmpty, Text: "num"}, nDrop()), nWithinBoth(25), longLift(3001)} {
		if tidy := wantTidyNode(t, n); !sameNode(tidy, node{}) {
			t.Errorf("%v becomes %v", n, tidy)
		}
	}
	r := rand.New(rand.NewSource(26))
	fine := 0
	for range 20000 {
		n := anyLift(r, "A", 1+r.Intn(5))
		constant(r, &n)
		if r.Intn(6) == 0 {
			spoilLift(r, &n)
		}
		if tidy := wantTidyNode(t, n); tidy.Op != 0 {
			fine++
			if !impl.LiftOk(tidy) || len(impl.LiftWrite(tidy)) > len(impl.LiftWrite(n)) {
				t.Fatalf("%q becomes %q", impl.LiftWrite(n), impl.LiftWrite(tidy))
			}
		}
		if t.Failed() {
			t.FailNow()
		}
	}
	if fine < 5000 {
		t.Errorf("%d are fine", fine)
	}
}

// Every function answers at every argument; the empty list and the nil list are the same value.
func TestTidyWithoutEnd(t *testing.T) {
	self := nBoth(nDrop(), nDrop())
	self.Kids[0], self.Kids[1] = self, self
	for _, n := range []node{self, nBoth(nDrop(), self), nOp(impl.LiftChoose, "", nFlag(1), nDrop(), self), {Op: impl.LiftForm, Kids: make([]node, 1000000), Names: make([]string, 1000000)}, nEmit(node{Op: impl.LiftForm, Kids: make([]node, 1000000), Names: make([]string, 1000000)})} {
		if tidy := impl.CodeTidy(n); !sameNode(tidy, node{}) {
			t.Errorf("a node without end becomes %v", tidy)
		}
	}
	for _, empty := range []node{{Op: impl.LiftDrop, Names: []string{}, Kids: []node{}}, {Op: impl.LiftDrop}} {
		wantTidyNode(t, nBoth(empty, node{Op: impl.LiftFail, Num: 3, Names: []string{}, Kids: []node{}}))
		wantTidyNode(t, nEmit(node{Op: impl.LiftForm, Names: []string{}, Kids: []node{}}))
	}
}

// Nothing is written into an argument, and every answer is new memory.
func TestTidyMemory(t *testing.T) {
	for _, s := range []string{everyOp, "emit old", "both drop emit form a old b \"long text\" end", "choose yes emit form a x b y end drop", "emit form a case x some \"long text\" x y end", "emit form a keep longname empty {longname:num} yes end", "emit form a join \"long \" \"text\" b part \"long text\" 0 9 end", "each x empty num drop", "send longname 3 else none num form a x end", "take x if yes form a old end y emit x"} {
		n := readLift(t, s)
		n.Names, n.Kids = slices.Grow(n.Names, 3), slices.Grow(n.Kids, 3)
		tidy := impl.CodeTidy(n)
		wantTextsApart(t, liftTexts(tidy), liftTexts(n))
		if !sameNode(n, readLift(t, s)) {
			t.Errorf("%q was changed", s)
		}
		for _, kid := range n.Kids[len(n.Kids):cap(n.Kids)] {
			if !sameNode(kid, node{}) {
				t.Errorf("%q: a kid behind the end was changed", s)
			}
		}
		wantNodesApart(t, s, func() node { return impl.CodeTidy(n) })
		spoilAllLifts(tidy)
		if !sameNode(n, readLift(t, s)) || !sameNode(impl.CodeTidy(n), impl.CodeTidy(readLift(t, s))) {
			t.Errorf("%q: the answer shares something", s)
		}
	}
}
