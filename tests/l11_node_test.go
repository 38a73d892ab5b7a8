package tests

import (
	"fmt"
	"math"
	"math/rand"
	"regexp"
	"slices"
	"strings"
	"testing"

	"loop.example/teagle/impl"
)

type node = impl.LiftNode

type fault = impl.LiftFault

// opTable is the document's table: what stands in an op's words, "" at 0, where there is no op.
var opTable = []string{"", "NUMBER", "QUOTED", "FLAG", "X", "none K", "empty K", "some V", "one V",
	"add V V", "sub V V", "mul V V", "div V V", "rem V V", "less V V", "same V V", "and V V", "or V V", "not V",
	"if V V V", "let X V V", "get N V", "put N V V", "cut N V", "form FIELDS", "at V V", "size V", "join V V", "part V V V",
	"show V", "read V", "else V V", "case X V V V", "map X V V", "keep X V V", "fold X X V V V",
	"drop", "fail WHY", "emit V", "send N VERSION V", "both A A", "choose V A A", "take X V A", "each X V A"}

// ownWords are the words that no name of a value may be.
func ownWords() []string {
	words := []string{"yes", "no", "end"}
	for _, row := range opTable[5:] {
		words = append(words, strings.Fields(row)[0])
	}
	return words
}

var wordsOfOps = ownWords()

func isWord(name string) bool {
	return slices.Contains(wordsOfOps, name)
}

func nNum(n int) node      { return node{Op: impl.LiftNum, Num: n} }
func nText(s string) node  { return node{Op: impl.LiftText, Text: s} }
func nFlag(n int) node     { return node{Op: impl.LiftFlag, Num: n} }
func nName(s string) node  { return node{Op: impl.LiftName, Names: []string{s}} }
func nDrop() node          { return node{Op: impl.LiftDrop} }
func nEmit(kid node) node  { return nOp(impl.LiftEmit, "", kid) }
func nBoth(a, b node) node { return nOp(impl.LiftBoth, "", a, b) }

// nOp is a node with names, told with spaces between them, and kids.
func nOp(op int, names string, kids ...node) node {
	return node{Op: op, Names: strings.Fields(names), Kids: kids}
}

// nFields is a form with so many names, each with the same kid.
func nFields(n int, kid node) node {
	made := node{Op: impl.LiftForm}
	for i := range n {
		made.Names = append(made.Names, fmt.Sprintf("n%03d", i))
		made.Kids = append(made.Kids, kid)
	}
	return made
}

// nWithin is a node within so many nodes of an op that has one kid.
func nWithin(kid node, op int, levels int) node {
	for range levels {
		kid = nOp(op, "", kid)
	}
	return kid
}

func sameNode(a, b node) bool {
	return a.Op == b.Op && a.Num == b.Num && a.Text == b.Text && slices.Equal(a.Names, b.Names) && slices.EqualFunc(a.Kids, b.Kids, sameNode)
}

func copyNode(n node) node {
	n.Names = slices.Clone(n.Names)
	n.Kids = slices.Clone(n.Kids)
	for i, kid := range n.Kids {
		n.Kids[i] = copyNode(kid)
	}
	return n
}

func nodesOf(n node) int {
	sum := 1
	for _, kid := range n.Kids {
		sum += nodesOf(kid)
	}
	return sum
}

func nodeLevels(n node) int {
	most := 0
	for _, kid := range n.Kids {
		most = max(most, nodeLevels(kid))
	}
	return most + 1
}

var (
	numberForm = regexp.MustCompile(`^(0|-?[1-9][0-9]{0,8})$`)
	quotedForm = regexp.MustCompile(`^"[ !#-~]{0,60}"$`)
)

// fitsAs says by itself which words may stand for a word of the table.
func fitsAs(what string, ahead []string, word string) bool {
	isName := okNames([]string{word})
	switch what {
	case "NUMBER":
		return numberForm.MatchString(word)
	case "QUOTED":
		return quotedForm.MatchString(word)
	case "FLAG":
		return word == "yes" || word == "no"
	case "X":
		return isName && !isWord(word) && !slices.Contains(ahead, word)
	case "N":
		return isName
	case "FIELD":
		return isName && word != "end" && okNames(append(slices.Clone(ahead), word))
	case "K":
		k, ok := impl.KindRead(word)
		return ok && textOf(k) == word
	case "WHY":
		return numberForm.MatchString(word) && numOf(word) >= 0 && numOf(word) <= 99
	case "VERSION":
		return numberForm.MatchString(word) && numOf(word) >= 1 && numOf(word) <= 12
	}
	return word == what
}

func numOf(word string) (num int) {
	fmt.Sscan(word, &num)
	return num
}

// cutWords says by itself which words a text has.
func cutWords(s string) []string {
	var words []string
	for s = strings.TrimLeft(s, " \n"); s != ""; s = strings.TrimLeft(s, " \n") {
		end := strings.IndexAny(s, " \n")
		if s[0] == '"' {
			end = 1 + strings.IndexByte(s[1:], '"') + 1
			if end == 1 {
				end = len(s)
			}
		}
		if end < 0 {
			end = len(s)
		}
		words = append(words, s[:end])
		s = s[end:]
	}
	return words
}

// growing is a node whose parts are still being read.
type growing struct {
	op, num int
	text    string
	names   []string
	kids    []*growing
}

func (g *growing) node() node {
	n := node{Op: g.op, Num: g.num, Text: g.text, Names: g.names}
	for _, kid := range g.kids {
		n.Kids = append(n.Kids, kid.node())
	}
	return n
}

// wantedPart is something that must come, for a node on a level.
type wantedPart struct {
	what  string
	node  *growing
	level int
}

// toldLift reads a text as the document says, by a list of all that must still come, the next one last.
func toldLift(s string) (node, fault) {
	if len(s) > 3000 {
		return node{}, fault{Code: 1}
	}
	words := cutWords(s)
	top := &growing{}
	nodes := 0
	wanted := []wantedPart{{"A", top, 0}}
	at := 0
	for len(wanted) > 0 {
		part := wanted[len(wanted)-1]
		wanted = wanted[:len(wanted)-1]
		if part.what == "V" || part.what == "A" {
			nodes++
			if part.level+1 > 24 {
				return node{}, fault{Code: 3, At: at}
			}
			if nodes > 200 {
				return node{}, fault{Code: 4, At: at}
			}
		}
		if at == len(words) {
			return node{}, fault{Code: 2, At: at}
		}
		more, ok := part.take(words[at])
		if !ok {
			return node{}, fault{Code: 2, At: at}
		}
		slices.Reverse(more)
		wanted = append(wanted, more...)
		at++
	}
	if at < len(words) {
		return node{}, fault{Code: 2, At: at}
	}
	if len(strings.Join(words, " ")) > 3000 {
		return node{}, fault{Code: 1}
	}
	return top.kids[0].node(), fault{}
}

// take is what must come behind a word, and whether the word may stand there.
func (p wantedPart) take(word string) ([]wantedPart, bool) {
	switch p.what {
	case "V", "A":
		return p.begin(word)
	case "FIELDS":
		if word == "end" {
			return nil, true
		}
		p.what = "FIELD"
		_, ok := p.take(word)
		return []wantedPart{{"V", p.node, p.level}, {"FIELDS", p.node, p.level}}, ok
	}
	if !fitsAs(p.what, p.node.names, word) {
		return nil, false
	}
	switch p.what {
	case "NUMBER", "WHY", "VERSION":
		p.node.num = numOf(word)
	case "QUOTED":
		p.node.text = word[1 : len(word)-1]
	case "FLAG":
		p.node.num = strings.Index("no yes", word) / 3
	case "K":
		p.node.text = word
	default:
		p.node.names = append(p.node.names, word)
	}
	return nil, true
}

// begin is what must come behind the first word of a node.
func (p wantedPart) begin(word string) ([]wantedPart, bool) {
	ops := map[string][2]int{"V": {1, 35}, "A": {36, 43}}[p.what]
	for op := ops[0]; op <= ops[1]; op++ {
		row := strings.Fields(opTable[op])
		if !fitsAs(row[0], nil, word) {
			continue
		}
		kid := &growing{op: op}
		p.node.kids = append(p.node.kids, kid)
		if op <= 4 {
			return wantedPart{row[0], kid, p.level + 1}.take(word)
		}
		var more []wantedPart
		for _, what := range row[1:] {
			more = append(more, wantedPart{what, kid, p.level + 1})
		}
		return more, true
	}
	return nil, false
}

// nodeWords are the words of a node, as the table has them; false, if it has not just what the table says.
func nodeWords(n node, as string) ([]string, bool) {
	if n.Op < 1 || n.Op > 43 || (n.Op <= 35) != (as == "V") {
		return nil, false
	}
	row := strings.Fields(opTable[n.Op])
	if n.Op == impl.LiftForm {
		row = []string{"form"}
		for range n.Names {
			row = append(row, "FIELD", "V")
		}
		row = append(row, "end")
	}
	var words []string
	rest := n
	for _, what := range row {
		ahead := n.Names[:len(n.Names)-len(rest.Names)]
		word := what
		switch what {
		case "V", "A":
			if len(rest.Kids) == 0 {
				return nil, false
			}
			more, ok := nodeWords(rest.Kids[0], what)
			if !ok {
				return nil, false
			}
			rest.Kids = rest.Kids[1:]
			words = append(words, more...)
			continue
		case "NUMBER", "WHY", "VERSION":
			word = fmt.Sprint(rest.Num)
			rest.Num = 0
		case "QUOTED":
			word = `"` + rest.Text + `"`
			rest.Text = ""
		case "FLAG":
			word = map[int]string{0: "no", 1: "yes"}[rest.Num]
			rest.Num = 0
		case "K":
			word = rest.Text
			rest.Text = ""
		case "X", "N", "FIELD":
			if len(rest.Names) == 0 {
				return nil, false
			}
			word = rest.Names[0]
			rest.Names = rest.Names[1:]
		}
		if !fitsAs(what, ahead, word) {
			return nil, false
		}
		words = append(words, word)
	}
	return words, rest.Num == 0 && rest.Text == "" && len(rest.Names) == 0 && len(rest.Kids) == 0
}

// toldText is the text of an action that is ok, as the document says; false, if it is none. The node must have an end.
func toldText(n node) (string, bool) {
	words, ok := nodeWords(n, "A")
	s := strings.Join(words, " ")
	if !ok || nodesOf(n) > 200 || nodeLevels(n) > 24 || len(s) > 3000 {
		return "", false
	}
	return s, true
}

// wantLift: the node is an action that is ok, has this text, and is read back from it.
func wantLift(t *testing.T, n node, written string) {
	t.Helper()
	s := impl.LiftWrite(n)
	if !impl.LiftOk(n) || s != written {
		t.Errorf("%q: ok %v, text %q", written, impl.LiftOk(n), s)
	}
	if s == "" || len(s) > impl.LiftMaxText {
		t.Errorf("%q: %d bytes of text", written, len(s))
	}
	if back, f := impl.LiftParse(written); f != (fault{}) || !sameNode(back, n) {
		t.Errorf("%q is read back as %v, %v", written, back, f)
	}
	if told, ok := toldText(n); !ok || told != written {
		t.Errorf("%q: the tests themselves tell %q %v", written, told, ok)
	}
}

// wantLiftTold is wantLift with the text that is told here.
func wantLiftTold(t *testing.T, n node) {
	t.Helper()
	s, ok := toldText(n)
	if !ok {
		t.Errorf("%v: the tests themselves tell that it is not ok", n)
	}
	wantLift(t, n, s)
}

func wantNoLift(t *testing.T, what string, n node) {
	t.Helper()
	if impl.LiftOk(n) || impl.LiftWrite(n) != "" {
		t.Errorf("%s: ok %v, text %q", what, impl.LiftOk(n), impl.LiftWrite(n))
	}
}

func wantLiftFault(t *testing.T, s string, code, at int) {
	t.Helper()
	if n, f := impl.LiftParse(s); f != (fault{Code: code, At: at}) || !sameNode(n, node{}) {
		t.Errorf("%.200q: %v %v, wanted %d at %d", s, n, f, code, at)
	}
	if _, f := toldLift(s); f != (fault{Code: code, At: at}) {
		t.Errorf("%.200q: the tests themselves tell %v, wanted %d at %d", s, f, code, at)
	}
}

// wantReadAs: the text is read as this node, whose own text may be another one.
func wantReadAs(t *testing.T, s string, n node, written string) {
	t.Helper()
	if read, f := impl.LiftParse(s); f != (fault{}) || !sameNode(read, n) {
		t.Errorf("%q is read as %v, %v", s, read, f)
	}
	wantLift(t, n, written)
}

// wantOneLift: a text is read as the tests themselves tell; what is read is ok, and written so that it is read again as it. It says whether it is read.
func wantOneLift(t *testing.T, s string) bool {
	t.Helper()
	n, f := impl.LiftParse(s)
	told, toldFault := toldLift(s)
	if f != toldFault || !sameNode(n, told) {
		t.Errorf("%q: %v %v, but the tests tell %v %v", s, n, f, told, toldFault)
	}
	if f != (fault{}) {
		return false
	}
	written := impl.LiftWrite(n)
	if !impl.LiftOk(n) || written != strings.Join(cutWords(s), " ") || len(written) > 3000 {
		t.Errorf("%q is read as %v, which is written %q", s, n, written)
	}
	if again, f := impl.LiftParse(written); f != (fault{}) || !sameNode(again, n) {
		t.Errorf("%q is read again as %v %v", written, again, f)
	}
	return true
}

// eachOp has an upcaster for each op, the node with that op being the first with it.
func eachOp() map[int]struct {
	node node
	text string
} {
	old := nName("old")
	type row = struct {
		node node
		text string
	}
	value := func(n node, s string) row { return row{nEmit(n), "emit " + s} }
	return map[int]row{
		1:  value(nNum(-7), "-7"),
		2:  value(nText("x y"), `"x y"`),
		3:  value(nFlag(1), "yes"),
		4:  value(old, "old"),
		5:  value(node{Op: 5, Text: "{a:num}"}, "none {a:num}"),
		6:  value(node{Op: 6, Text: "[?text]"}, "empty [?text]"),
		7:  value(nOp(7, "", nNum(1)), "some 1"),
		8:  value(nOp(8, "", old), "one old"),
		9:  value(nOp(9, "", nNum(1), nNum(2)), "add 1 2"),
		10: value(nOp(10, "", nNum(1), nNum(2)), "sub 1 2"),
		11: value(nOp(11, "", nNum(1), nNum(2)), "mul 1 2"),
		12: value(nOp(12, "", nNum(1), nNum(2)), "div 1 2"),
		13: value(nOp(13, "", nNum(1), nNum(2)), "rem 1 2"),
		14: value(nOp(14, "", nNum(1), nNum(2)), "less 1 2"),
		15: value(nOp(15, "", nNum(1), nNum(2)), "same 1 2"),
		16: value(nOp(16, "", nFlag(1), nFlag(0)), "and yes no"),
		17: value(nOp(17, "", nFlag(0), nFlag(1)), "or no yes"),
		18: value(nOp(18, "", nFlag(0)), "not no"),
		19: value(nOp(19, "", nFlag(1), nNum(2), nNum(3)), "if yes 2 3"),
		20: value(nOp(20, "x", nNum(1), nName("x")), "let x 1 x"),
		21: value(nOp(21, "n", old), "get n old"),
		22: value(nOp(22, "n", old, nNum(2)), "put n old 2"),
		23: value(nOp(23, "n", old), "cut n old"),
		24: value(nOp(24, "a b", nNum(1), nText("")), `form a 1 b "" end`),
		25: value(nOp(25, "", old, nNum(0)), "at old 0"),
		26: value(nOp(26, "", old), "size old"),
		27: value(nOp(27, "", nText("a"), nText("b")), `join "a" "b"`),
		28: value(nOp(28, "", old, nNum(1), nNum(2)), "part old 1 2"),
		29: value(nOp(29, "", nNum(1)), "show 1"),
		30: value(nOp(30, "", nText("1")), `read "1"`),
		31: value(nOp(31, "", old, nNum(1)), "else old 1"),
		32: value(nOp(32, "x", old, nName("x"), nNum(0)), "case x old x 0"),
		33: value(nOp(33, "x", old, nName("x")), "map x old x"),
		34: value(nOp(34, "x", old, nFlag(1)), "keep x old yes"),
		35: value(nOp(35, "b a", old, nNum(0), nName("a")), "fold b a old 0 a"),
		36: {nDrop(), "drop"},
		37: {node{Op: 37, Num: 7}, "fail 7"},
		38: {nEmit(nOp(24, "")), "emit form end"},
		39: {node{Op: 39, Num: 3, Names: []string{"paid"}, Kids: []node{old}}, "send paid 3 old"},
		40: {nBoth(nDrop(), nEmit(old)), "both drop emit old"},
		41: {nOp(41, "", nFlag(0), nDrop(), nEmit(old)), "choose no drop emit old"},
		42: {nOp(42, "x", nNum(1), nEmit(nName("x"))), "take x 1 emit x"},
		43: {nOp(43, "x", old, nEmit(nName("x"))), "each x old emit x"},
	}
}

// P12, P13: an ordinary upcaster with each op of the table.
func TestLiftOfEachOp(t *testing.T) {
	constants := []int{0, impl.LiftNum, impl.LiftText, impl.LiftFlag, impl.LiftName, impl.LiftNone, impl.LiftEmpty, impl.LiftSome, impl.LiftOne, impl.LiftAdd, impl.LiftSub, impl.LiftMul, impl.LiftDiv, impl.LiftRem, impl.LiftLess, impl.LiftSame, impl.LiftAnd, impl.LiftOr, impl.LiftNot, impl.LiftIf, impl.LiftLet, impl.LiftGet, impl.LiftPut, impl.LiftCut, impl.LiftForm, impl.LiftAt, impl.LiftSize, impl.LiftJoin, impl.LiftPart, impl.LiftShow, impl.LiftRead, impl.LiftElse, impl.LiftCase, impl.LiftMap, impl.LiftKeep, impl.LiftFold, impl.LiftDrop, impl.LiftFail, impl.LiftEmit, impl.LiftSend, impl.LiftBoth, impl.LiftChoose, impl.LiftTake, impl.LiftEach}
	rows := eachOp()
	for op, constant := range constants {
		if op != constant {
			t.Errorf("the op %d has the constant %d", op, constant)
		}
		if op == 0 {
			continue
		}
		row, is := rows[op]
		if !is || row.node.Op != op && row.node.Kids[0].Op != op {
			t.Fatalf("there is no upcaster with the op %d", op)
		}
		wantLift(t, row.node, row.text)
		wantOneLift(t, row.text)
		// The same within others, where what stands behind it must still be read.
		wantLift(t, nBoth(row.node, nBoth(nDrop(), row.node)), "both "+row.text+" both drop "+row.text)
		if op < 36 {
			wantNoLift(t, "a value alone", row.node.Kids[0])
			wantLiftFault(t, strings.TrimPrefix(row.text, "emit "), 2, 0)
			kid := row.node.Kids[0]
			wantLiftTold(t, nEmit(nOp(24, "a b", kid, nOp(19, "", kid, kid, kid))))
		}
	}
}

// P12, P13: upcasters as they are met with.
func TestLiftOrdinary(t *testing.T) {
	old := nName("old")
	wantLift(t, nEmit(nOp(22, "sum", nOp(23, "cents", old), nOp(12, "", nOp(21, "cents", old), nNum(100)))),
		"emit put sum cut cents old div get cents old 100")
	wantLift(t, nOp(43, "line", nOp(21, "lines", old), nOp(41, "", nOp(14, "", nNum(0), nOp(21, "n", nName("line"))), node{Op: 39, Num: 12, Names: []string{"item"}, Kids: []node{nName("line")}}, node{Op: 37, Num: 99})),
		"each line get lines old choose less 0 get n line send item 12 line fail 99")
	wantLift(t, nOp(42, "sum", nOp(35, "a e", node{Op: 6, Text: "num"}, nNum(0), nOp(9, "", nName("a"), nName("e"))), nBoth(nEmit(nOp(24, "n", nName("sum"))), nDrop())),
		"take sum fold a e empty num 0 add a e both emit form n sum end drop")
	wantLift(t, nEmit(nOp(24, "a b", nOp(24, ""), nOp(24, "end2 ends", nOp(24, ""), nNum(1)))),
		"emit form a form end b form end2 form end ends 1 end end")
	// A form of a form whose last word is also a name that may stand: get end.
	wantLift(t, nEmit(nOp(24, "a", nOp(21, "end", nOp(24, "")))), "emit form a get end form end end")
}

// P13: what stands between words, ahead of them and behind them.
func TestLiftWords(t *testing.T) {
	same := nEmit(nOp(15, "", nText("a"), nText("b c")))
	const written = `emit same "a" "b c"`
	for _, s := range []string{
		written, " " + written, written + " ", "\n" + written + "\n", "  \n \n\nemit \n same\n\n\"a\"  \"b c\" \n ",
		`emit same "a""b c"`, `emit same "a""b c" `, "emit\nsame\n\"a\"\n\"b c\"", `emit same "a"` + "\n" + `"b c"`,
	} {
		wantReadAs(t, s, same, written)
		wantOneLift(t, s)
	}
	wantReadAs(t, "\n\n drop \n", nDrop(), "drop")
	wantReadAs(t, `emit put a ""5`, nEmit(nOp(22, "a", nText(""), nNum(5))), `emit put a "" 5`)
	wantReadAs(t, `emit form a ""b ""end`, nEmit(nOp(24, "a b", nText(""), nText(""))), `emit form a "" b "" end`)
	// A quote that does not begin a word belongs to it.
	wantLiftFault(t, `emit put a""5`, 2, 2)
	wantLiftFault(t, `emit x"a"`, 2, 1)
	wantLiftFault(t, `emit -"a"`, 2, 1)
	wantLiftFault(t, `"emit" old`, 2, 0)
	wantLiftFault(t, `emit" old`, 2, 0)
	wantLiftFault(t, `emit same "a"b"c"`, 2, 3)
	wantLiftFault(t, `drop"`, 2, 0)
	wantLiftFault(t, `drop "`, 2, 1)
	wantLiftFault(t, `drop ""`, 2, 1)
	// A text without its end has all that comes behind it.
	wantLiftFault(t, `emit "`, 2, 1)
	wantLiftFault(t, `emit "a`, 2, 1)
	wantLiftFault(t, `emit same "a "b"`, 2, 3)
	wantLiftFault(t, `emit same "a" "b drop drop`, 2, 3)
	wantLiftFault(t, "emit \"a\nb\"", 2, 1)
	wantLiftFault(t, "emit \"a\n", 2, 1)
	// Nothing else is between words.
	for _, gap := range []string{"\t", "\r", "\v", "\f", "\x00", "\xa0", "\xc2\xa0", "\u2028", "\u3000", "\x85", "\u0085", ",", ";", "\xff", "\xe2"} {
		wantLiftFault(t, "emit"+gap+"old", 2, 0)
		wantLiftFault(t, "emit old"+gap, 2, 1)
		wantLiftFault(t, "emit "+gap+"old", 2, 1)
		wantLiftFault(t, gap+"drop", 2, 0)
		wantLiftFault(t, "drop "+gap, 2, 1)
		wantLiftFault(t, "drop\n"+gap+" "+gap, 2, 1)
		wantLiftFault(t, "emit \"a"+gap+"\xff\"\"", 2, 1)
	}
	// Words are counted, whatever bytes they have.
	wantLiftFault(t, "both drop both emit \"x y\" \xff\xfe old", 2, 5)
	for _, s := range []string{"", " ", "\n", " \n \n", strings.Repeat(" ", 3000), strings.Repeat("\n", 3000)} {
		wantLiftFault(t, s, 2, 0)
	}
}

// P12, P13: names of values may be no words; other names may.
func TestLiftNames(t *testing.T) {
	old := nName("old")
	for _, name := range ownWords() {
		for op, row := range map[int]string{20: "let", 32: "case", 33: "map", 34: "keep"} {
			n := nOp(op, name, old, old)
			if op == 32 {
				n.Kids = append(n.Kids, old)
			}
			wantNoLift(t, row+" "+name, nEmit(n))
			wantLiftFault(t, "emit "+row+" "+name+" old old old", 2, 2)
		}
		wantNoLift(t, "take "+name, nOp(42, name, old, nDrop()))
		wantLiftFault(t, "take "+name+" old drop", 2, 1)
		wantNoLift(t, "each "+name, nOp(43, name, old, nDrop()))
		wantLiftFault(t, "each "+name+" old drop", 2, 1)
		wantNoLift(t, "the first of fold", nEmit(nOp(35, name+" a", old, old, old)))
		wantLiftFault(t, "emit fold "+name+" a old old old", 2, 2)
		wantNoLift(t, "the second of fold", nEmit(nOp(35, "a "+name, old, old, old)))
		wantLiftFault(t, "emit fold a "+name+" old old old", 2, 3)
		wantNoLift(t, "a name of a value", nEmit(nName(name)))
		wantOneLift(t, "emit "+name)

		wantLift(t, nEmit(nOp(21, name, old)), "emit get "+name+" old")
		wantLift(t, nEmit(nOp(22, name, old, nNum(1))), "emit put "+name+" old 1")
		wantLift(t, nEmit(nOp(23, name, old)), "emit cut "+name+" old")
		wantLift(t, node{Op: 39, Num: 1, Names: []string{name}, Kids: []node{old}}, "send "+name+" 1 old")
		if name == "end" {
			wantNoLift(t, "a form with end", nEmit(nOp(24, name, old)))
			wantNoLift(t, "a form with a and end", nEmit(nOp(24, "a end", old, old)))
			wantNoLift(t, "a form with end and z", nEmit(nOp(24, "end z", old, old)))
			wantLiftFault(t, "emit form end old end", 2, 3)
			wantLiftFault(t, "emit form a old end old end", 2, 5)
		} else {
			wantLift(t, nEmit(nOp(24, name, old)), "emit form "+name+" old end")
		}
	}
	// Words of the document's tables that are no words of ops.
	for _, name := range []string{"num", "text", "flag", "name", "old", "ends", "en", "endx", "add1", "drops", "dro", "yess", "n", "y", "a", "z9", "abcdefgh", "stop", "list", "maybe", "x", "v", "k"} {
		wantLift(t, nEmit(nName(name)), "emit "+name)
		wantLift(t, nOp(42, name, nName(name), nDrop()), "take "+name+" "+name+" drop")
		wantLift(t, nOp(43, name, old, nDrop()), "each "+name+" old drop")
		wantLift(t, nEmit(nOp(35, "q "+name, old, old, old)), "emit fold q "+name+" old old old")
		wantLift(t, nEmit(nOp(24, name, old)), "emit form "+name+" old end")
	}
	for _, name := range []string{"", "A", "a-b", "9", "9a", "a_", "a ", " a", "a b", "\"a\"", "\"", "ä", "a\n", "\n", "a\x00", "abcdefghi", "a:", "~", "{}", "[]", "num ", "-", "-1", "Drop", strings.Repeat("a", 257), strings.Repeat("a", 3000), strings.Repeat("a", 100000)} {
		names := []string{name}
		wantNoLift(t, "a name of a value "+name, nEmit(node{Op: 4, Names: names}))
		wantNoLift(t, "let "+name, nEmit(node{Op: 20, Names: names, Kids: []node{old, old}}))
		wantNoLift(t, "get "+name, nEmit(node{Op: 21, Names: names, Kids: []node{old}}))
		wantNoLift(t, "put "+name, nEmit(node{Op: 22, Names: names, Kids: []node{old, old}}))
		wantNoLift(t, "cut "+name, nEmit(node{Op: 23, Names: names, Kids: []node{old}}))
		wantNoLift(t, "form "+name, nEmit(node{Op: 24, Names: names, Kids: []node{old}}))
		wantNoLift(t, "fold "+name, nEmit(node{Op: 35, Names: []string{"a", name}, Kids: []node{old, old, old}}))
		wantNoLift(t, "send "+name, node{Op: 39, Num: 1, Names: names, Kids: []node{old}})
		wantNoLift(t, "take "+name, node{Op: 42, Names: names, Kids: []node{old, nDrop()}})
		wantNoLift(t, "each "+name, node{Op: 43, Names: names, Kids: []node{old, nDrop()}})
		for _, ahead := range []string{"emit get ", "emit put ", "emit cut ", "emit form ", "emit let ", "emit fold a ", "send ", "take ", "each ", "emit "} {
			wantOneLift(t, ahead+name+" old old old end")
			wantOneLift(t, ahead+name+" old")
			wantOneLift(t, ahead+name+" 1 old")
			wantOneLift(t, ahead+name+" old drop")
		}
	}
	wantLiftFault(t, "emit fold x x old 1 2", 2, 3)
	wantNoLift(t, "fold with a name twice", nEmit(nOp(35, "x x", old, nNum(1), nNum(2))))
	wantLift(t, nEmit(nOp(35, "x xx", old, nNum(1), nNum(2))), "emit fold x xx old 1 2")
	wantLift(t, nEmit(nOp(35, "b a", old, nNum(1), nNum(2))), "emit fold b a old 1 2")
	// A name that is bound may be bound once more within, and beside.
	wantLift(t, nEmit(nOp(20, "x", nOp(20, "x", old, nName("x")), nOp(35, "x y", old, nName("x"), nOp(35, "y x", old, old, old)))),
		"emit let x let x old x fold x y old x fold y x old old old")
}

// P12, P13: names of a form must rise.
func TestLiftFields(t *testing.T) {
	one := nNum(1)
	wantLift(t, nEmit(nOp(24, "")), "emit form end")
	for _, names := range []string{"a", "a b", "a aa", "a a0", "a0 aa", "a9 a99 b", "aaaaaaaa b", "abcdefgh abcdefgi", "ena enda z", "add drop emit form no yes"} {
		rows := strings.Fields(names)
		wantLift(t, nEmit(nOp(24, names, slices.Repeat([]node{one}, len(rows))...)), "emit form "+strings.Join(rows, " 1 ")+" 1 end")
	}
	for names, at := range map[string]int{"a a": 4, "b a": 4, "aa a": 4, "aa a0": 4, "a b b": 6, "a c b": 6, "b a c": 4, "a b a": 6, "z zz z": 6, "a A": 4, "a 9": 4, "a abcdefghi": 4, "9 a": 2, "A a": 2, "a b c d e f g h g": 18} {
		rows := strings.Fields(names)
		wantNoLift(t, names, nEmit(nOp(24, names, slices.Repeat([]node{one}, len(rows))...)))
		wantLiftFault(t, "emit form "+strings.Join(rows, " 1 ")+" 1 end", 2, at)
	}
	wantNoLift(t, "a name too many", nEmit(nOp(24, "a b", one)))
	wantNoLift(t, "a kid too many", nEmit(nOp(24, "a", one, one)))
	wantNoLift(t, "a kid without a name", nEmit(nOp(24, "", one)))
	wantNoLift(t, "a name without a kid", nEmit(nOp(24, "a")))
	wantLiftFault(t, "emit form", 2, 2)
	wantLiftFault(t, "emit form a", 2, 3)
	wantLiftFault(t, "emit form a 1", 2, 4)
	wantLiftFault(t, "emit form a end", 2, 3)
	wantLiftFault(t, "emit form a 1 2 end", 2, 4)
	wantLiftFault(t, "emit form a drop end", 2, 3)
	wantLiftFault(t, "emit form end end", 2, 3)
	wantLiftFault(t, "emit form a form b 1 end", 2, 7)
	wantLiftFault(t, "emit form a form a 1 a 2 end end", 2, 6)
	// Names rise within their own form alone.
	wantLift(t, nEmit(nOp(24, "m z", nOp(24, "a", one), nOp(24, "b m", one, one))), "emit form m form a 1 end z form b 1 m 1 end end")
}

// P12, P13: the numbers of fail and send, at their bounds.
func TestLiftBounds(t *testing.T) {
	old := nName("old")
	send := func(version int) node {
		return node{Op: 39, Num: version, Names: []string{"n"}, Kids: []node{old}}
	}
	for n := -300; n <= 300; n++ {
		why := fmt.Sprint("fail ", n)
		if n >= 0 && n <= 99 {
			wantLift(t, node{Op: 37, Num: n}, why)
		} else {
			wantNoLift(t, why, node{Op: 37, Num: n})
			wantLiftFault(t, why, 2, 1)
		}
		version := fmt.Sprintf("send n %d old", n)
		if n >= 1 && n <= 12 {
			wantLift(t, send(n), version)
		} else {
			wantNoLift(t, version, send(n))
			wantLiftFault(t, version, 2, 2)
		}
	}
	for _, n := range []int{1000, 999999999, 1000000000, -999999999, 1 << 32, 1<<32 + 1, -1 << 32, math.MaxInt, math.MinInt, math.MinInt + 1} {
		wantNoLift(t, "fail", node{Op: 37, Num: n})
		wantNoLift(t, "send", send(n))
		wantLiftFault(t, fmt.Sprint("fail ", n), 2, 1)
		wantLiftFault(t, fmt.Sprintf("send n %d old", n), 2, 2)
	}
	for _, word := range []string{"00", "01", "-0", "-1", "+1", "001", "012", "1.0", "0x1", "1e1", "1_0", "", "yes", "no", `"1"`, "one", "old", "a", "~", "[1]", "4294967297", "18446744073709551617", "99999999999999999999", "1 1", "٣", "1\x00"} {
		wantLiftFault(t, "fail "+word, 2, map[bool]int{true: 2, false: 1}[word == "1 1"])
		if word == "1 1" || word == "" {
			continue
		}
		wantLiftFault(t, "send n "+word+" old", 2, 2)
	}
	wantLiftFault(t, "fail", 2, 1)
	wantLiftFault(t, "send", 2, 1)
	wantLiftFault(t, "send n", 2, 2)
	wantLiftFault(t, "send n 1", 2, 3)
	wantLiftFault(t, "send 1 n old", 2, 1)
	wantLiftFault(t, "send n 1 drop", 2, 3)
}

// P12, P13: trees that are words.
func TestLiftTrees(t *testing.T) {
	for _, n := range []int{0, 1, -1, 9, 10, -10, 999999999, -999999999, 999999998, 123456789} {
		wantLift(t, nEmit(nNum(n)), fmt.Sprint("emit ", n))
	}
	for _, n := range []int{1000000000, -1000000000, 1 << 32, math.MaxInt, math.MinInt} {
		wantNoLift(t, fmt.Sprint(n), nEmit(nNum(n)))
		wantLiftFault(t, fmt.Sprint("emit ", n), 2, 1)
	}
	for _, word := range []string{"00", "01", "-0", "-00", "-01", "+1", "--1", "1-", "-", "1.0", "0x1", "1e1", "1_0", "1a", "000000000", "0000000001", "-", "[1]", "[]", "{a:1}", "{}", "~", "?1", "'a'", "Yes", "yes,", "NO", "no:", "yes1no2yes3", "\"\\\"", "(", "\"a\\\""} {
		if fitsAs("QUOTED", nil, word) {
			continue
		}
		wantLiftFault(t, "emit "+word, 2, 1)
	}
	wantLift(t, nEmit(nFlag(0)), "emit no")
	wantLift(t, nEmit(nFlag(1)), "emit yes")
	for _, n := range []int{2, -1, 256, 257, 1 << 32, math.MaxInt, math.MinInt} {
		wantNoLift(t, fmt.Sprint("a flag of ", n), nEmit(nFlag(n)))
	}
	for n := 0; n <= 60; n++ {
		s := strings.Repeat("x", n)
		wantLift(t, nEmit(nText(s)), `emit "`+s+`"`)
		s = strings.Repeat(" ", n)
		wantLift(t, nEmit(nText(s)), `emit "`+s+`"`)
	}
	for _, n := range []int{61, 62, 63, 64, 255, 256, 257, 316, 2990, 2993, 2994, 3000, 1000000} {
		s := strings.Repeat("x", n)
		wantNoLift(t, fmt.Sprint("a text of ", n), nEmit(nText(s)))
		if n <= 2993 {
			wantLiftFault(t, `emit "`+s+`"`, 2, 1)
		} else {
			wantLiftFault(t, `emit "`+s+`"`, 1, 0)
		}
	}
	for b := range 256 {
		one := string([]byte{byte(b)})
		if b >= 32 && b <= 126 && b != '"' {
			wantLift(t, nEmit(nText(one)), `emit "`+one+`"`)
			wantLift(t, nEmit(nText("a"+one+"b")), `emit "a`+one+`b"`)
		} else {
			wantNoLift(t, "a text with a byte that none has", nEmit(nText(one)))
			wantNoLift(t, "a text with a byte that none has", nEmit(nText("a"+one)))
			wantOneLift(t, `emit "`+one+`"`)
		}
	}
	wantLift(t, nEmit(nText("end drop 1 yes")), `emit "end drop 1 yes"`)
}

// P12, P13: schemas that are words.
func TestLiftKinds(t *testing.T) {
	for _, s := range []string{"num", "text", "flag", "[num]", "?num", "??text", "{}", "{a:num}", "{a:num,b:[?{c:flag}]}", "[[[[[num]]]]]", "?????flag", textOf(kFields(39, kind{Sort: 3}))} {
		for op, word := range map[int]string{5: "none ", 6: "empty "} {
			wantLift(t, nEmit(node{Op: op, Text: s}), "emit "+word+s)
		}
	}
	for _, s := range []string{"", "nums", "Num", "num,", "[num", "num]", "[]", "?", "~", "{a:num,a:num}", "{b:num,a:num}", "{a}", "{a:}", "[[[[[[num]]]]]]", "??????num", "0", "1", "yes", "end", "a", `"num"`, "num num", " num", "num ", "[ num]", "num\n", "{a:num, b:num}", "num\x00", textOf(kFields(40, kind{Sort: 3})), strings.Repeat("[", 2900), strings.Repeat("?", 100000)} {
		for op, word := range map[int]string{5: "none", 6: "empty"} {
			wantNoLift(t, word+" "+s, nEmit(node{Op: op, Text: s}))
			wantOneLift(t, "emit "+word+" "+s)
			wantOneLift(t, "emit add "+word+" "+s+" 1")
			wantOneLift(t, "emit form a "+word+" "+s+" b 1 end")
		}
	}
	wantLiftFault(t, "emit none nums", 2, 2)
	wantLiftFault(t, "emit none", 2, 2)
	wantLiftFault(t, "emit empty", 2, 2)
	wantLiftFault(t, "emit none num num", 2, 3)
	wantLiftFault(t, "emit empty add", 2, 2)
	wantLiftFault(t, "emit empty [ num ]", 2, 2)
}

// P12, P13: as many nodes as there may be, and one more.
func TestLiftNodes(t *testing.T) {
	wantLiftTold(t, nEmit(nFields(198, nNum(1))))
	for _, n := range []int{199, 200, 201, 256, 400} {
		wantNoLift(t, fmt.Sprint("a form of ", n), nEmit(nFields(n, nNum(1))))
		wantLiftFault(t, strings.Join(formWords(n), " "), 4, 399)
	}
	// Names are no nodes: the one ahead of the 201st may be read, and is looked at first.
	words := formWords(199)
	for _, c := range []struct {
		words    []string
		code, at int
	}{
		{words[:399], 4, 399},
		{words[:398], 2, 398},
		{append(slices.Clone(words[:398]), "end"), 0, 0},
		{append(slices.Clone(words[:398]), "n000"), 2, 398},
		{append(slices.Clone(words[:399]), "drop"), 4, 399},
		{append(slices.Clone(words[:399]), "\xff"), 4, 399},
		{append(slices.Clone(words[:397]), "\xff", "zz", "1"), 2, 397},
	} {
		if c.code == 0 {
			wantOneLift(t, strings.Join(c.words, " "))
			continue
		}
		wantLiftFault(t, strings.Join(c.words, " "), c.code, c.at)
	}
	// The same with actions and with values that go down.
	fork := func(levels int, op int, leaf node) node {
		for range levels {
			leaf = nOp(op, "", leaf, leaf)
		}
		return leaf
	}
	most := nBoth(fork(6, 40, nDrop()), nBoth(fork(5, 40, nDrop()), nEmit(nWithin(nNum(1), 18, 5))))
	if nodesOf(most) != 199 {
		t.Fatalf("%d nodes", nodesOf(most))
	}
	wantLiftTold(t, most)
	most = nBoth(fork(6, 40, nDrop()), nBoth(fork(5, 40, nDrop()), nEmit(nWithin(nNum(1), 18, 6))))
	wantLiftTold(t, most)
	most = nBoth(fork(6, 40, nDrop()), nBoth(fork(5, 40, nDrop()), nEmit(nWithin(nNum(1), 18, 7))))
	wantNoLift(t, "201 nodes", most)
	words, _ = nodeWords(most, "A")
	wantLiftFault(t, strings.Join(words, " "), 4, 200)
	wantLiftFault(t, strings.Join(words[:200], " "), 4, 200)
	wantLiftFault(t, strings.Join(words[:199], " "), 2, 199)
	for levels := 7; levels <= 12; levels++ {
		n := fork(levels, 40, nDrop())
		wantNoLift(t, "a fork", n)
		words, _ := nodeWords(n, "A")
		wantOneLift(t, strings.Join(words, " "))
		wantNoLift(t, "a fork of values", nEmit(fork(levels, 9, nNum(1))))
	}
}

// formWords are the words of an upcaster with a form of so many names.
func formWords(n int) []string {
	words := []string{"emit", "form"}
	for i := range n {
		words = append(words, fmt.Sprintf("n%03d", i), "1")
	}
	return append(words, "end")
}

// P12, P13: as many levels as there may be, and one more.
func TestLiftLevels(t *testing.T) {
	deep := func(levels int) node { return nEmit(nWithin(nNum(1), impl.LiftSome, levels-2)) }
	for levels := 2; levels <= 24; levels++ {
		wantLift(t, deep(levels), "emit "+strings.Repeat("some ", levels-2)+"1")
	}
	for levels := 25; levels <= 100; levels++ {
		wantNoLift(t, fmt.Sprint(levels, " levels"), deep(levels))
		wantLiftFault(t, "emit "+strings.Repeat("some ", levels-2)+"1", 3, 24)
	}
	left, right := nDrop(), nDrop()
	for range 23 {
		left, right = nBoth(left, nDrop()), nBoth(nDrop(), right)
	}
	wantLift(t, left, strings.Repeat("both ", 23)+strings.Repeat("drop ", 23)+"drop")
	wantLift(t, right, strings.Repeat("both drop ", 23)+"drop")
	wantNoLift(t, "25 levels to the left", nBoth(left, nDrop()))
	wantNoLift(t, "25 levels to the right", nBoth(nDrop(), right))
	wantLiftFault(t, strings.Repeat("both ", 24)+strings.Repeat("drop ", 25), 3, 24)
	wantLiftFault(t, strings.Repeat("both drop ", 24)+"drop", 3, 47)
	for op, row := range eachOp() {
		if row.node.Op == op {
			wantLevelsBelow(t, row.node, 24, func(n node) node { return n })
		} else {
			wantLevelsBelow(t, row.node.Kids[0], 23, nEmit)
		}
	}
}

// wantLevelsBelow: with each of its kids a node goes down one level, so many being left for it and what is below it.
func wantLevelsBelow(t *testing.T, n node, left int, around func(node) node) {
	t.Helper()
	for i, kid := range n.Kids {
		below := func(levels int) node {
			grown := copyNode(n)
			grown.Kids[i] = nWithin(nNum(1), impl.LiftSome, levels-1)
			if kid.Op >= impl.LiftDrop {
				grown.Kids[i] = nWithinBoth(levels)
			}
			return around(grown)
		}
		wantLiftTold(t, below(left-1))
		wantNoLift(t, "25 levels", below(left))
		words, _ := nodeWords(below(left), "A")
		s := strings.Join(words, " ")
		if _, f := impl.LiftParse(s); f.Code != 3 || wantOneLift(t, s) {
			t.Errorf("%q: %v", s, f)
		}
	}
}

// nWithinBoth is an action of so many levels.
func nWithinBoth(levels int) node {
	n := nDrop()
	for range levels - 1 {
		n = nBoth(nDrop(), n)
	}
	return n
}

// longLift is an upcaster whose text has just so many bytes, 2763 to 3063.
func longLift(bytes int) node {
	n := nFields(40, nText(strings.Repeat("x", 60)))
	left := bytes - 2763
	for _, name := range []string{"z1", "z2", "z3", "z4", "z5"} {
		n.Names = append(n.Names, name)
		n.Kids = append(n.Kids, nText(strings.Repeat("y", min(left, 60))))
		left -= min(left, 60)
	}
	return nEmit(n)
}

// P12, P13: as many bytes as there may be, and one more, of a text and of its words with one space between.
func TestLiftLength(t *testing.T) {
	for bytes := 2950; bytes <= 3030; bytes++ {
		n := longLift(bytes)
		words, ok := nodeWords(n, "A")
		s := strings.Join(words, " ")
		if !ok || len(s) != bytes {
			t.Fatalf("%d bytes of %d, ok %v", len(s), bytes, ok)
		}
		tight := strings.ReplaceAll(s, "\" ", "\"")
		if bytes <= 3000 {
			wantLift(t, n, s)
			wantReadAs(t, tight, n, s)
			wantReadAs(t, s+strings.Repeat(" ", 3000-bytes), n, s)
			wantReadAs(t, strings.Repeat("\n", 3000-bytes)+s, n, s)
			wantLiftFault(t, s+strings.Repeat(" ", 3001-bytes), 1, 0)
			wantLiftFault(t, strings.Repeat(" ", 3001-bytes)+s, 1, 0)
		} else {
			wantNoLift(t, "too long", n)
			wantLiftFault(t, s, 1, 0)
			// Too long only when it is written: behind all other faults.
			if len(tight) > 2990 {
				t.Fatalf("%d bytes of words side by side", len(tight))
			}
			wantLiftFault(t, tight, 1, 0)
			wantLiftFault(t, tight+"\n", 1, 0)
			wantLiftFault(t, tight+" drop", 2, len(words))
			wantLiftFault(t, strings.TrimSuffix(tight, "end"), 2, len(words)-1)
			wantLiftFault(t, strings.TrimSuffix(tight, "end")+"a 1 end", 2, len(words)-1)
			wantLiftFault(t, strings.Replace(tight, "emit form", "emit from", 1), 2, 2)
			wantLiftFault(t, tight[:len(tight)-4], 2, len(words)-2)
		}
	}
	for _, bytes := range []int{3000, 3001} {
		code := bytes - 3000
		for s, f := range map[string]fault{
			"drop" + strings.Repeat(" ", bytes-4):                        {},
			strings.Repeat("\n", bytes-4) + "drop":                       {},
			"emit" + strings.Repeat(" \n", 1500)[:bytes-8] + "old ":      {},
			strings.Repeat("x", bytes):                                   {Code: 2},
			strings.Repeat("\"", bytes):                                  {Code: 2},
			strings.Repeat(" ", bytes):                                   {Code: 2},
			strings.Repeat("\xff", bytes):                                {Code: 2},
			"drop " + strings.Repeat("x", bytes-5):                       {Code: 2, At: 1},
			strings.Repeat("both ", bytes/5) + "x"[:bytes%5]:             {Code: 3, At: 24},
			"emit" + strings.Repeat(" ", bytes-11) + "nothing":           {},
			"fail 1" + strings.Repeat(" ", bytes-7) + "0":                {Code: 2, At: 2},
			"emit " + strings.Repeat("some ", 23) + spaces(bytes-5-23*5): {Code: 3, At: 24},
		} {
			if len(s) != bytes {
				t.Fatalf("%d bytes of %d: %.40q", len(s), bytes, s)
			}
			if code == 1 {
				f = fault{Code: 1}
			}
			if f == (fault{}) {
				if !wantOneLift(t, s) {
					t.Errorf("%d bytes are not read: %.40q", bytes, s)
				}
				continue
			}
			wantLiftFault(t, s, f.Code, f.At)
		}
	}
	for _, bytes := range []int{3002, 4096, 65536, 65537, 30000000} {
		wantLiftFault(t, strings.Repeat("both ", bytes)[:bytes], 1, 0)
		wantLiftFault(t, "drop"+spaces(bytes-4), 1, 0)
	}
}

func spaces(n int) string {
	return strings.Repeat(" ", n)
}

// P13: two faults, of which the one that comes first is told, and two at one word.
func TestLiftFirstFault(t *testing.T) {
	// So many nodes that the first word on level 25 is the node 201 if k is 174.
	deep := func(k int, behind string) (string, int) {
		words := append([]string{"both"}, formWords(k)...)
		words = append(words, "emit")
		for range 22 {
			words = append(words, "some")
		}
		return strings.Join(words, " ") + behind, len(words)
	}
	for _, behind := range []string{"", " ", " 1", " old", " drop", " end", " \xff", " some", " \"", " some 1", " \n\n"} {
		s, n := deep(174, behind)
		wantLiftFault(t, s, 3, n)
		s, n = deep(173, behind)
		wantLiftFault(t, s, 3, n)
		s, n = deep(100, behind)
		wantLiftFault(t, s, 3, n)
		s, n = deep(175, behind)
		wantLiftFault(t, s, 4, n-1)
		s, n = deep(176, behind)
		wantLiftFault(t, s, 4, n-2)
		wantLiftFault(t, strings.Repeat("both ", 24)+behind, 3, 24)
		wantLiftFault(t, strings.Repeat("both drop ", 23)+"both "+behind, 3, 47)
		wantLiftFault(t, "fail 100"+behind, 2, 1)
		wantLiftFault(t, strings.Repeat("both ", 23)+"fail x"+behind, 2, 24)
		wantLiftFault(t, strings.Repeat("both ", 23)+"emit"+behind, 3, 24)
		wantLiftFault(t, strings.Repeat("both ", 23)+"take x"+behind, 3, 25)
		wantLiftFault(t, strings.Repeat("both ", 23)+"take add"+behind, 2, 24)
		wantLiftFault(t, strings.Repeat("both ", 23)+"send x 13"+behind, 2, 25)
		wantLiftFault(t, strings.Repeat("both ", 23)+"send x 12"+behind, 3, 26)
	}
	for s, at := range map[string]int{
		"old": 0, "1": 0, "yes": 0, "end": 0, "add 1 2": 0, `"drop"`: 0, "form end": 0, "Drop": 0, "drops": 0, "none num": 0,
		"emit drop": 1, "emit emit old": 1, "emit end": 1, "emit fail 1": 1, "emit both drop drop": 1,
		"both drop old": 2, "both 1 drop": 1, "both old 1": 1, "choose drop drop drop": 1, "choose yes old drop": 2, "choose yes drop old": 3, "choose drop old": 1,
		"take x drop drop": 2, "take x old old": 3, "take old": 2, "take 1 drop old": 1, "each x old 1": 3, "each x drop drop": 2, "each yes drop": 1,
		"emit if yes 1 drop": 4, "emit let x drop 1": 3, "emit let x 1 drop": 4, "emit let 1 drop": 2, "emit get n drop": 3, "emit get N drop": 2,
		"emit fold x x drop": 3, "emit fold yes yes": 2, "emit fold x y drop": 4, "emit case x 1 2": 5, "emit case x 1 2 drop": 5,
		"drop drop": 1, "drop 1": 1, "drop end": 1, "drop fail 100": 1, "fail 1 fail 100": 2, "emit old old": 2, "both drop drop drop": 3, "emit form end 1": 3,
		"emit add 1 2 3": 4, "emit not yes no": 3, "fail 01 drop": 1, "send X 0 drop": 1, "send x 0 drop": 2, "send x 1 drop": 3, "emit none nums drop": 2,
	} {
		wantLiftFault(t, s, 2, at)
	}
}

// P13: each word of each op is left out, has others ahead and behind, and is made to another one.
func TestLiftOtherWords(t *testing.T) {
	t.Parallel()
	others := append(ownWords(), "old", "x", "1", "-1", "0", "99", "100", "13", "01", `"a"`, `"`, "num", "{a:num}", "[num", "A", "abcdefghi", "\xff", "~", "-")
	read := 0
	for op, row := range eachOp() {
		for _, s := range []string{row.text, "both " + row.text + " drop", "take x " + `"old"` + " " + row.text} {
			words := cutWords(s)
			for i := range len(words) + 1 {
				wantOneLift(t, strings.Join(words[:i], " "))
				wantOneLift(t, strings.Join(words[i:], " "))
				for _, other := range others {
					if wantOneLift(t, strings.Join(slices.Insert(slices.Clone(words), i, other), " ")) {
						read++
					}
					if i < len(words) && wantOneLift(t, strings.Join(slices.Replace(slices.Clone(words), i, i+1, other), " ")) {
						read++
					}
				}
				if i < len(words) {
					wantOneLift(t, strings.Join(slices.Delete(slices.Clone(words), i, i+1), " "))
					wantLiftFault(t, strings.Join(words[:i], "\n"), 2, i)
				}
			}
		}
		if read == 0 {
			t.Errorf("the op %d: nothing was read", op)
		}
	}
}

// P13: all that lies a byte beside the text of an upcaster.
func TestLiftBeside(t *testing.T) {
	t.Parallel()
	read := 0
	for _, s := range []string{"drop", "fail 10", "emit old", "send a 12 old", "both drop drop", "choose no drop drop", "take x 1 emit x", "each e old drop", `emit "a b"`, "emit -10", "emit fold a b old 0 a", "emit form a 1 b 2 end", "emit none [num]", `emit join "a""b"`, "emit let x yes x", "emit case x old x 0"} {
		if !wantOneLift(t, s) {
			t.Errorf("%q is not read", s)
		}
		beside(s, func(near string) {
			if wantOneLift(t, near) {
				read++
			}
		})
	}
	if read < 1000 {
		t.Errorf("%d texts are read: too few to tell anything", read)
	}
}

// P13: all texts of a few words.
func TestLiftShortTexts(t *testing.T) {
	t.Parallel()
	read := 0
	var all func(s string, words []string, left int)
	all = func(s string, words []string, left int) {
		if wantOneLift(t, s) {
			read++
		}
		if left == 0 {
			return
		}
		for _, word := range words {
			all(s+word, words, left-1)
		}
	}
	all("", []string{"drop ", "fail ", "7 ", "emit ", "old ", "both ", "form ", "end ", "a ", `"b"`}, 5)
	all("emit ", []string{"fold ", "x ", "y ", "1 ", "add ", "some "}, 6)
	all("send ", []string{"end ", "1 ", "12 ", "13 ", "old ", "get "}, 5)
	all("emit form ", []string{"a ", "b ", "end ", "1 ", "form ", "yes "}, 6)
	all("emit ", []string{`"`, " ", "a", "1", "\n", "-"}, 6)
	if read < 200 {
		t.Errorf("%d texts are read: too few to tell anything", read)
	}
}

// P12: nodes that have more, less or other than the table says.
func TestLiftNotOk(t *testing.T) {
	old := nName("old")
	wantNoLift(t, "nothing", node{})
	for _, op := range []int{0, -1, 44, 45, 99, -36, 256 + 36, 1<<32 + 36, math.MaxInt, math.MinInt} {
		wantNoLift(t, fmt.Sprint("the op ", op), node{Op: op})
		wantNoLift(t, fmt.Sprint("the op ", op, " within"), nBoth(nDrop(), node{Op: op}))
		wantNoLift(t, fmt.Sprint("a value of the op ", op), nEmit(node{Op: op}))
		wantNoLift(t, fmt.Sprint("a value of the op ", op, " with a name"), nEmit(node{Op: op, Names: []string{"a"}}))
		wantNoLift(t, fmt.Sprint("the op ", op, " with a kid"), node{Op: op, Kids: []node{old}})
	}
	for op, row := range eachOp() {
		for what, change := range map[string]func(n *node){
			"a number more":       func(n *node) { n.Num++ },
			"a great number":      func(n *node) { n.Num = math.MaxInt },
			"a number below 0":    func(n *node) { n.Num = -1 },
			"the number 100":      func(n *node) { n.Num = 100 },
			"no number":           func(n *node) { n.Num = 0 },
			"a text":              func(n *node) { n.Text = "a" },
			"a blank":             func(n *node) { n.Text = " " },
			"a schema":            func(n *node) { n.Text = "num" },
			"its own word":        func(n *node) { n.Text = strings.Fields(opTable[n.Op])[0] },
			"no text":             func(n *node) { n.Text = "" },
			"a name more":         func(n *node) { n.Names = append(n.Names, "z") },
			"an empty name more":  func(n *node) { n.Names = append(n.Names, "") },
			"a name ahead":        func(n *node) { n.Names = append([]string{"a"}, n.Names...) },
			"no names":            func(n *node) { n.Names = nil },
			"names twice":         func(n *node) { n.Names = append(n.Names, n.Names...) },
			"a kid more":          func(n *node) { n.Kids = append(n.Kids, old) },
			"a bad kid more":      func(n *node) { n.Kids = append(n.Kids, node{}) },
			"an action more":      func(n *node) { n.Kids = append(n.Kids, nDrop()) },
			"a value ahead":       func(n *node) { n.Kids = append([]node{old}, n.Kids...) },
			"an action ahead":     func(n *node) { n.Kids = append([]node{nDrop()}, n.Kids...) },
			"no kids":             func(n *node) { n.Kids = nil },
			"kids twice":          func(n *node) { n.Kids = append(n.Kids, n.Kids...) },
			"kids turned round":   func(n *node) { slices.Reverse(n.Kids) },
			"the last kid less":   func(n *node) { n.Kids = n.Kids[:max(len(n.Kids)-1, 0)] },
			"the last name less":  func(n *node) { n.Names = n.Names[:max(len(n.Names)-1, 0)] },
			"kids that are names": func(n *node) { n.Kids = slices.Repeat([]node{old}, len(n.Kids)) },
			"kids that drop":      func(n *node) { n.Kids = slices.Repeat([]node{nDrop()}, len(n.Kids)) },
			"kids of no op":       func(n *node) { n.Kids = make([]node, len(n.Kids)) },
			"a name and a kid":    func(n *node) { n.Names, n.Kids = append(n.Names, "z"), append(n.Kids, old) },
			"its op for a list":   func(n *node) { n.Op = impl.LiftForm },
			"the op ahead":        func(n *node) { n.Op-- },
			"the op behind":       func(n *node) { n.Op++ },
		} {
			n := copyNode(row.node)
			changed := &n
			if n.Op != op {
				changed = &n.Kids[0]
			}
			change(changed)
			wantAsToldOk(t, fmt.Sprint("the op ", op, ": ", what), n)
			wantAsToldOk(t, fmt.Sprint("the op ", op, " within: ", what), nBoth(n, nDrop()))
		}
	}
}

// wantAsToldOk: the node is ok, or is not, as the tests themselves tell. It says whether it is.
func wantAsToldOk(t *testing.T, what string, n node) bool {
	t.Helper()
	s, ok := toldText(n)
	if !ok {
		wantNoLift(t, what, n)
		return false
	}
	wantLift(t, n, s)
	return true
}

// anyName is a name, at times a word of an op, of a value or not.
func anyName(r *rand.Rand, bound bool) string {
	for {
		name := []string{"a", "b", "c", "x", "y", "old", "add", "end", "yes", "no", "drop", "abcdefgh", "n1", "num"}[r.Intn(14)]
		if !bound || !isWord(name) {
			return name
		}
	}
}

// anyLift is a node that is ok but for its bounds, of an op that is a value or an action.
func anyLift(r *rand.Rand, as string, deep int) node {
	op := 1 + r.Intn(35)
	if as == "A" {
		op = 36 + r.Intn(8)
	}
	if deep <= 1 {
		op = 1 + r.Intn(6)
		if as == "A" {
			op = 36 + r.Intn(2)
		}
	}
	n := node{Op: op}
	for _, what := range strings.Fields(opTable[op]) {
		switch what {
		case "V", "A":
			n.Kids = append(n.Kids, anyLift(r, what, deep-1))
		case "NUMBER":
			n.Num = r.Intn(1999999999) - 999999999
			if r.Intn(2) == 0 {
				n.Num = r.Intn(20) - 10
			}
		case "QUOTED":
			n.Text = strings.ReplaceAll("a b\"end 1 ~"[:r.Intn(11)], "\"", "'")
		case "FLAG":
			n.Num = r.Intn(2)
		case "WHY":
			n.Num = r.Intn(100)
		case "VERSION":
			n.Num = 1 + r.Intn(12)
		case "K":
			n.Text = impl.KindWrite(anyKind(r, 3))
		case "N":
			n.Names = append(n.Names, anyName(r, false))
		case "X":
			name := anyName(r, true)
			for slices.Contains(n.Names, name) {
				name = anyName(r, true)
			}
			n.Names = append(n.Names, name)
		case "FIELDS":
			for range r.Intn(5) {
				if name := anyName(r, false); name != "end" {
					n.Names = append(n.Names, name)
				}
			}
			slices.Sort(n.Names)
			n.Names = slices.Compact(n.Names)
			for range n.Names {
				n.Kids = append(n.Kids, anyLift(r, "V", deep-1))
			}
		}
	}
	return n
}

// spoilLift changes one thing somewhere in a node.
func spoilLift(r *rand.Rand, n *node) {
	if len(n.Kids) > 0 && r.Intn(3) > 0 {
		spoilLift(r, &n.Kids[r.Intn(len(n.Kids))])
		return
	}
	switch r.Intn(9) {
	case 0:
		n.Op = r.Intn(46) - 1
	case 1:
		n.Num += r.Intn(25) - 12
	case 2:
		n.Text += []string{"a", "\"", "\n", " ", "num", "?", "]"}[r.Intn(7)]
	case 3:
		n.Names = append(n.Names, anyName(r, false))
	case 4:
		n.Kids = append(n.Kids, anyLift(r, []string{"V", "A"}[r.Intn(2)], 2))
	case 5:
		if len(n.Kids) > 0 {
			n.Kids = n.Kids[1:]
		}
	case 6:
		if len(n.Names) > 0 {
			n.Names[r.Intn(len(n.Names))] = []string{"end", "add", "a", "zz", "", "A", "a b", "yes"}[r.Intn(8)]
		}
	case 7:
		if len(n.Kids) > 0 {
			n.Kids[r.Intn(len(n.Kids))] = anyLift(r, []string{"V", "A"}[r.Intn(2)], 2)
		}
	case 8:
		slices.Reverse(n.Names)
	}
}

// P12, P13: many upcasters, made by chance, and spoiled.
func TestLiftMany(t *testing.T) {
	t.Parallel()
	r := rand.New(rand.NewSource(11))
	ok, spoiled, read := 0, 0, 0
	ops := map[int]int{}
	for range 20000 {
		n := anyLift(r, "A", 1+r.Intn(7))
		s, isOk := toldText(n)
		if wantAsToldOk(t, "an upcaster by chance", n) {
			ok++
			countOps(n, ops)
			read += wantNearLifts(t, r, s)
		} else if words, shaped := nodeWords(n, "A"); shaped {
			wantOneLift(t, strings.Join(words, " "))
		}
		if isOk {
			spoilLift(r, &n)
			if !wantAsToldOk(t, "a spoiled one", n) {
				spoiled++
			}
		}
	}
	if ok < 5000 || spoiled < 3000 || read < 3000 {
		t.Errorf("%d are ok, %d are spoiled, %d near ones are read: too few to tell anything", ok, spoiled, read)
	}
	for op := 1; op <= 43; op++ {
		if ops[op] < 100 {
			t.Errorf("the op %d came %d times", op, ops[op])
		}
	}
}

func countOps(n node, ops map[int]int) {
	ops[n.Op]++
	for _, kid := range n.Kids {
		countOps(kid, ops)
	}
}

// wantNearLifts: texts whose words are those of one, but for some that are changed, left out or swapped. It says how many are read.
func wantNearLifts(t *testing.T, r *rand.Rand, s string) int {
	t.Helper()
	read := 0
	for range 3 {
		words := cutWords(s)
		i, j := r.Intn(len(words)), r.Intn(len(words))
		switch r.Intn(4) {
		case 0:
			words[i], words[j] = words[j], words[i]
		case 1:
			words[i] = words[j]
		case 2:
			words = slices.Insert(words, i, words[j])
		case 3:
			words = slices.Delete(words, i, i+1)
		}
		gap := []string{" ", "\n", "  ", " \n "}[r.Intn(4)]
		if wantOneLift(t, strings.Join(words, gap)) {
			read++
		}
	}
	return read
}

// Nodes that hold themselves, and nodes and texts of no end: there is still an answer.
func TestLiftWithoutEnd(t *testing.T) {
	for op := 1; op <= 43; op++ {
		n := node{Op: op}
		for _, what := range strings.Fields(strings.Replace(opTable[op], "FIELDS", "X V X V", 1)) {
			switch what {
			case "V", "A":
				n.Kids = append(n.Kids, node{})
			case "X", "N":
				n.Names = append(n.Names, fmt.Sprint("x", len(n.Names)))
			case "VERSION":
				n.Num = 1
			}
		}
		if len(n.Kids) == 0 {
			n.Kids = make([]node, 1)
		}
		for i := range n.Kids {
			n.Kids[i] = n
		}
		wantNoLift(t, fmt.Sprint("the op ", op, " holds itself"), n)
		wantNoLift(t, fmt.Sprint("the op ", op, " holds itself within"), nEmit(n))
	}
	huge := make([]node, 3000000)
	wantNoLift(t, "many kids of no op", node{Op: impl.LiftBoth, Kids: huge})
	wantNoLift(t, "many kids of a form", nEmit(node{Op: impl.LiftForm, Kids: huge, Names: make([]string, len(huge))}))
	long := strings.Repeat("a", 50000000)
	wantNoLift(t, "a long name", nOp(impl.LiftTake, long, nNum(1), nDrop()))
	wantNoLift(t, "a long text", nEmit(nText(long)))
	wantNoLift(t, "a long schema", nEmit(node{Op: impl.LiftNone, Text: strings.Repeat("?", 50000000)}))
	for _, s := range []string{long, strings.Repeat("both ", 10000000), strings.Repeat("emit some ", 5000000), strings.Repeat("\"", 50000001), strings.Repeat(" ", 50000000) + "drop"} {
		wantLiftFault(t, s, 1, 0)
	}
}

// The empty list and the nil list are the same value.
func TestLiftEmptyAndNil(t *testing.T) {
	empty := node{Op: impl.LiftDrop, Names: []string{}, Kids: []node{}}
	wantLift(t, empty, "drop")
	wantLift(t, node{Op: impl.LiftEmit, Names: []string{}, Kids: []node{{Op: impl.LiftForm, Names: []string{}, Kids: []node{}}}}, "emit form end")
	wantLift(t, nEmit(node{Op: impl.LiftNum, Names: []string{}, Kids: []node{}}), "emit 0")
	wantLift(t, nEmit(node{Op: impl.LiftName, Names: []string{"x"}, Kids: []node{}}), "emit x")
	wantNoLift(t, "nothing, with empty lists", node{Names: []string{}, Kids: []node{}})
}

// Nothing is written into an argument or behind its end.
func TestLiftArgumentsStay(t *testing.T) {
	for _, row := range eachOp() {
		names := append(make([]string, 0, 9), row.node.Names...)
		kids := append(make([]node, 0, 9), row.node.Kids...)
		spare, spareKids := names[:9], kids[:9]
		for i := len(names); i < 9; i++ {
			spare[i] = "spare"
		}
		for i := len(kids); i < 9; i++ {
			spareKids[i] = nText("spare")
		}
		n := row.node
		n.Names, n.Kids = names, kids
		before := copyNode(n)
		impl.LiftOk(n)
		impl.LiftWrite(n)
		if !sameNode(n, before) {
			t.Errorf("%v became %v", before, n)
		}
		for i := len(names); i < 9; i++ {
			if spare[i] != "spare" {
				t.Errorf("%s: a name behind the end became %q", row.text, spare[i])
			}
		}
		for i := len(kids); i < 9; i++ {
			if !sameNode(spareKids[i], nText("spare")) {
				t.Errorf("%s: a kid behind the end became %v", row.text, spareKids[i])
			}
		}
	}
}

// liftTexts are all texts of a node.
func liftTexts(n node) []string {
	texts := append([]string{n.Text}, n.Names...)
	for _, kid := range n.Kids {
		texts = append(texts, liftTexts(kid)...)
	}
	return texts
}

// spoilAllLifts writes into all that a node has, spare room included.
func spoilAllLifts(n node) {
	for _, kid := range n.Kids[:len(n.Kids):len(n.Kids)] {
		spoilAllLifts(kid)
	}
	for i := range n.Names[:cap(n.Names)] {
		n.Names[:cap(n.Names)][i] = "spoiled"
	}
	for i := range n.Kids[:cap(n.Kids)] {
		n.Kids[:cap(n.Kids)][i] = node{Op: -1, Text: "spoiled"}
	}
}

// Every answer is new memory: it shares none with what was read, nor with another answer, nor two of its lists any.
func TestLiftAnswersAreNew(t *testing.T) {
	for _, row := range eachOp() {
		s := "both " + row.text + " both drop " + row.text
		first, _ := impl.LiftParse(s)
		second, _ := impl.LiftParse(s)
		before := copyNode(second)
		for _, text := range liftTexts(first) {
			if lies(text, s) {
				t.Errorf("%q lies in the text that was read", text)
			}
		}
		wantTextsApart(t, liftTexts(first), liftTexts(second))
		// Of one answer the lists of the first kid are spoiled: the other kids must stay.
		spoilAllLifts(first.Kids[0])
		if !sameNode(first.Kids[1], before.Kids[1]) {
			t.Errorf("%q: two kids share something", s)
		}
		spoilAllLifts(first)
		if !sameNode(second, before) {
			t.Errorf("%q: two answers share something", s)
		}
		if again, _ := impl.LiftParse(s); !sameNode(again, before) {
			t.Errorf("%q is read as %v later", s, again)
		}
		for _, text := range liftTexts(before) {
			if written := impl.LiftWrite(before); lies(text, written) {
				t.Errorf("%q lies in the text that was written", text)
			}
		}
	}
}
