package tests

import (
	"fmt"
	"math/rand"
	"slices"
	"strings"
	"testing"

	"loop.example/teagle/impl"
)

type foldPlan = impl.FoldPlan

type foldState = impl.FoldState

type foldStep = impl.FoldStep

type foldFault = impl.FoldFault

func samePlanOfFold(a, b foldPlan) bool {
	return a.Name == b.Name && sameTree(a.Start, b.Start) &&
		slices.EqualFunc(a.States, b.States, func(a, b foldState) bool {
			return sameKind(a.Kind, b.Kind) && sameNode(a.Save, b.Save) && sameNode(a.Lift, b.Lift)
		}) &&
		slices.EqualFunc(a.Steps, b.Steps, func(a, b foldStep) bool { return a.Type == b.Type && sameNode(a.Do, b.Do) })
}

func copyFold(p foldPlan) foldPlan {
	return roomy(p)
}

// nothingIn says by itself whether a node is nothing.
func nothingIn(n node) bool {
	return sameNode(n, node{})
}

// toldValueFault is by itself what is wrong with a value that must be of a schema.
func toldValueFault(n node, wanted string, bound bindings) fault {
	if !okAs(nEmit(n), "A") {
		return fault{Code: 2}
	}
	k, f := toldKind(bound, n)
	switch {
	case f.Code != 0:
		return f
	case k != wanted:
		return fault{Code: 6}
	case atMost(toldCost(n), 40000) > 40000:
		return fault{Code: 9}
	}
	return fault{}
}

// newestOf is by itself the schema of the newest version of a type.
func newestOf(book []chainType, name string) (string, bool) {
	for _, one := range book {
		if one.Name == name {
			return textOf(one.Versions[len(one.Versions)-1].Kind), true
		}
	}
	return "", false
}

// toldFold is by itself what is wrong with a fold.
func toldFold(book []chainType, p foldPlan) foldFault {
	switch {
	case toldBook(book).Code != 0:
		return foldFault{Code: 1}
	case !okNames([]string{p.Name}):
		return foldFault{Code: 2}
	case len(p.States) == 0 || len(p.States) > 4 || len(p.Steps) > 8:
		return foldFault{Code: 3}
	}
	for i, s := range p.States {
		if !okKind(s.Kind) || s.Kind.Sort != impl.TreeForm {
			return foldFault{Code: 4, Place: i + 1}
		}
	}
	last := p.States[len(p.States)-1]
	if !nothingIn(last.Save) || !nothingIn(last.Lift) {
		return foldFault{Code: 5, Place: len(p.States)}
	}
	newest := textOf(last.Kind)
	for i, s := range p.States[:len(p.States)-1] {
		if f := toldValueFault(s.Save, textOf(s.Kind), bindings{{"old", newest}}); f.Code != 0 {
			return foldFault{Code: 6, Place: i + 1, Lift: f}
		}
		if f := toldValueFault(s.Lift, textOf(p.States[i+1].Kind), bindings{{"old", textOf(s.Kind)}}); f.Code != 0 {
			return foldFault{Code: 7, Place: i + 1, Lift: f}
		}
	}
	if !okTree(p.Start) || !isOf(last.Kind, p.Start) {
		return foldFault{Code: 8}
	}
	for i, s := range p.Steps {
		body, is := newestOf(book, s.Type)
		if !is || slices.ContainsFunc(p.Steps[:i], func(ahead foldStep) bool { return ahead.Type == s.Type }) {
			return foldFault{Code: 9, Place: i + 1}
		}
		if f := toldValueFault(s.Do, newest, bindings{{"old", newest}, {"new", body}}); f.Code != 0 {
			return foldFault{Code: 9, Place: i + 1, Lift: f}
		}
	}
	return foldFault{}
}

// toldFoldLines is by itself the text of a fold that can be written.
func toldFoldLines(p foldPlan) string {
	value := func(n node) string {
		words, _ := toldText(nEmit(n))
		return strings.TrimPrefix(words, "emit ")
	}
	s := "fold " + p.Name + "\n"
	for i, one := range p.States {
		s += "state " + textOf(one.Kind) + "\n"
		if i < len(p.States)-1 {
			s += "save " + value(one.Save) + "\nlift " + value(one.Lift) + "\n"
		}
	}
	s += "start " + impl.TreeWrite(p.Start) + "\n"
	for _, one := range p.Steps {
		s += "on " + one.Type + " " + value(one.Do) + "\n"
	}
	return s
}

// linesAhead tells by itself behind which lines of a fold a line may stand.
var linesAhead = map[string]string{"fold": "|", "state": "|fold|lift|", "save": "|state|", "lift": "|save|", "start": "|state|", "on": "|start|on|"}

// toldFoldIn is by itself the fold that lines say, the first line that is wrong (0, if none is), and whether there was a start.
func toldFoldIn(lines []string) (foldPlan, int, bool) {
	p, last := foldPlan{}, ""
	value := func(s string) (node, bool) {
		n, f := toldLift("emit " + s)
		if f.Code != 0 {
			return node{}, false
		}
		return n.Kids[0], true
	}
	for i, line := range lines {
		if line == "" {
			continue
		}
		word, rest, spaced := strings.Cut(line, " ")
		at := len(p.States) - 1
		if ahead, is := linesAhead[word]; !is || !spaced || !strings.Contains(ahead, "|"+last+"|") && (last != "" || word != "fold") {
			return foldPlan{}, i + 1, false
		}
		ok := false
		switch word {
		case "fold":
			p.Name, ok = rest, okNames([]string{rest})
		case "state":
			var s foldState
			s.Kind, ok = impl.KindRead(rest)
			p.States = append(p.States, s)
		case "save":
			p.States[at].Save, ok = value(rest)
		case "lift":
			p.States[at].Lift, ok = value(rest)
		case "start":
			p.Start, ok = impl.TreeRead(rest)
		case "on":
			name, words, more := strings.Cut(rest, " ")
			var s foldStep
			s.Do, ok = value(words)
			s.Type, ok = name, ok && more && okNames([]string{name})
			p.Steps = append(p.Steps, s)
		}
		if !ok {
			return foldPlan{}, i + 1, false
		}
		last = word
	}
	return p, 0, last == "start" || last == "on"
}

// toldFoldRead is by itself the fold that a text is, or what is wrong with it.
func toldFoldRead(book []chainType, s string) (foldPlan, foldFault) {
	if len(s) > 60000 {
		return foldPlan{}, foldFault{Code: 10}
	}
	lines := strings.Split(s, "\n")
	p, line, started := toldFoldIn(lines)
	if line == 0 && !started {
		line = len(lines)
	}
	if line != 0 {
		return foldPlan{}, foldFault{Code: 10, Place: line}
	}
	if f := toldFold(book, p); f.Code != 0 {
		return foldPlan{}, f
	}
	return p, foldFault{}
}

// wantFold: a fold has this fault, or none; P71 holds. The tests themselves tell the same.
func wantFold(t *testing.T, what string, book []chainType, p foldPlan, wanted foldFault) {
	t.Helper()
	if f := impl.FoldCheck(book, p); f != wanted {
		t.Errorf("%s: %+v, wanted %+v", what, f, wanted)
	}
	if f := toldFold(book, p); f != wanted {
		t.Errorf("%s: the tests themselves tell %+v, wanted %+v", what, f, wanted)
	}
	written := impl.FoldWrite(book, p)
	if wanted.Code != 0 {
		if written != "" {
			t.Errorf("%s: a fold with %+v is written %.200q", what, wanted, written)
		}
		return
	}
	if written != toldFoldLines(p) || len(written) > impl.FoldMaxText {
		t.Errorf("%s: written %.300q, wanted %.300q", what, written, toldFoldLines(p))
	}
	if again, f := impl.FoldRead(book, written); f != (foldFault{}) || !samePlanOfFold(again, p) {
		t.Errorf("%s: %.300q is read back with %+v", what, written, f)
	}
}

// wantFoldRead: a text is read as a fold, or has this fault; P72 holds. The tests themselves tell the same.
func wantFoldRead(t *testing.T, book []chainType, s string, wanted foldFault) foldPlan {
	t.Helper()
	p, f := impl.FoldRead(book, s)
	told, toldFault := toldFoldRead(book, s)
	if f != wanted || toldFault != wanted || !samePlanOfFold(p, told) {
		t.Errorf("%.300q: %+v, the tests themselves tell %+v, wanted %+v", s, f, toldFault, wanted)
	}
	if f.Code != 0 {
		if !samePlanOfFold(p, foldPlan{}) || f.Code == impl.FoldBadLine && f.Lift != (fault{}) {
			t.Errorf("%.300q: beside %+v there is %v", s, f, p)
		}
		return p
	}
	wantFold(t, "what is read", book, p, foldFault{})
	return p
}

// foldOf is the fold of a text.
func foldOf(t *testing.T, book []chainType, s string) foldPlan {
	t.Helper()
	p, f := impl.FoldRead(book, s)
	if f.Code != 0 {
		t.Fatalf("%q: %+v", s, f)
	}
	return p
}

const totalBook = divLines + "type b\nversion {}\n"

// totalLines is the document's own fold.
const totalLines = "fold total\nstate {t:text}\nsave form t show get n old end\nlift form n else read get t old 0 end\nstate {n:num}\nstart {n:0}\non a put n old add get n old get n new\n"

// P71, P72: ordinary folds whose texts are known, in both directions; the document's own.
func TestFoldPlanOrdinary(t *testing.T) {
	book := bookOf(t, totalBook)
	for _, s := range []string{
		totalLines,
		"fold x\nstate {}\nstart {}\n",
		"fold x\nstate {}\nstart {}\non b old\n",
		"fold x\nstate {}\nstart {}\non b old\non a old\n",
		"fold fold\nstate {save:num}\nsave form save get start old end\nlift form start get save old end\nstate {start:num}\nstart {start:-7}\non a form start get n new end\n",
		"fold list\nstate {l:[num],t:text}\nstart {l:[1,2],t:\"a  b \"}\non a form l join get l old one get n new t \"x  y\" end\non b form l empty num t get t old end\n",
		"fold four\nstate {a:num}\nsave form a get d old end\nlift form b get a old end\nstate {b:num}\nsave form b get d old end\nlift form c get b old end\nstate {c:num}\nsave form c get d old end\nlift form d get c old end\nstate {d:num}\nstart {d:0}\n",
	} {
		p := wantFoldRead(t, book, s, foldFault{})
		if written := impl.FoldWrite(book, p); written != s {
			t.Errorf("%q is written %q", s, written)
		}
	}
	p := wantFoldRead(t, book, totalLines, foldFault{})
	n, told := readKind(t, "{n:num}"), foldPlan{Name: "total", Start: readTree(t, "{n:0}")}
	told.States = []foldState{{Kind: readKind(t, "{t:text}"), Save: readValue(t, "form t show get n old end"), Lift: readValue(t, "form n else read get t old 0 end")}, {Kind: n}}
	told.Steps = []foldStep{{Type: "a", Do: readValue(t, "put n old add get n old get n new")}}
	if !samePlanOfFold(p, told) {
		t.Errorf("%v", p)
	}
	wantFold(t, "the document's own", book, told, foldFault{})
	// A step's `new` is of the newest version of its type, not of an older one.
	book = bookOf(t, "type a\nversion {n:num}\nlift emit form t show get n old end\nversion {t:text}\n")
	wantFoldRead(t, book, "fold x\nstate {t:text}\nstart {t:\"\"}\non a form t get t new end\n", foldFault{})
	wantFoldRead(t, book, "fold x\nstate {t:text}\nstart {t:\"\"}\non a form t show get n new end\n", foldFault{Code: 9, Place: 1, Lift: fault{Code: 8, At: 2}})
	wantFoldRead(t, bookOf(t, "type a\nversion {n:num}\n"), "fold x\nstate {t:text}\nstart {t:\"\"}\non a form t show get n new end\n", foldFault{})
}

// foldSpoiling spoils a fold, or its book, in one place; what is found first of two has the lesser order.
type foldSpoiling struct {
	order  [3]int
	wanted foldFault
	spoil  func(book *[]chainType, p *foldPlan)
}

// spoiledFold is a good fold of four versions with steps for four types.
func spoiledFold(t *testing.T) ([]chainType, foldPlan) {
	book := bookOf(t, "type a\nversion {n:num}\ntype b\nversion {n:num}\nlift emit old\nversion {n:num}\ntype c\nversion {}\ntype d\nversion {t:text}\n")
	p := foldOf(t, book, "fold good\nstate {a:num}\nsave form a get d old end\nlift form b get a old end\nstate {b:num}\nsave form b get d old end\nlift form c get b old end\nstate {c:num}\nsave form c get d old end\nlift form d get c old end\nstate {d:num}\nstart {d:0}\non a put d old get n new\non b old\non c old\non d put d old size get t new\n")
	return book, p
}

// foldSpoilings are all sorts of faults, at the first and at the last state or step that can have them.
func foldSpoilings(t *testing.T) []foldSpoiling {
	var all []foldSpoiling
	put := func(code, place int, lift fault, at int, spoil func(book *[]chainType, p *foldPlan)) {
		order := [3]int{code, place, at}
		if code == 7 {
			order = [3]int{6, place, 1 + at}
		}
		all = append(all, foldSpoiling{order, foldFault{Code: code, Place: place, Lift: lift}, spoil})
	}
	put(1, 0, fault{}, 0, func(book *[]chainType, p *foldPlan) { (*book)[3].Name = "a" })
	put(1, 0, fault{}, 0, func(book *[]chainType, p *foldPlan) { (*book)[1].Versions[0].Lift = readLift(t, "emit x") })
	for _, name := range []string{"", "A", "ninebytes", "a b", "9a"} {
		put(2, 0, fault{}, 0, func(book *[]chainType, p *foldPlan) { p.Name = name })
	}
	put(3, 0, fault{}, 0, func(book *[]chainType, p *foldPlan) { p.States = append(p.States, p.States[3]) })
	put(3, 0, fault{}, 0, func(book *[]chainType, p *foldPlan) { p.States = nil })
	put(3, 0, fault{}, 0, func(book *[]chainType, p *foldPlan) {
		p.Steps = append(p.Steps, make([]foldStep, 9-len(p.Steps))...)
	})
	bads := []struct {
		n node
		f fault
	}{{node{}, fault{Code: 2}}, {nDrop(), fault{Code: 2}}, {node{Op: impl.LiftNum, Text: "q"}, fault{Code: 2}}, {nName("nobody"), fault{Code: 5}}, {readValue(t, "form a add 1 yes end"), fault{Code: 6, At: 3}}, {nNum(1), fault{Code: 6}}, {readValue(t, "get z old"), fault{Code: 8}}, {readValue(t, "some "+strings.Repeat("some ", 5)+"1"), fault{Code: 7}}}
	for _, place := range []int{0, 3} {
		for _, k := range []kind{{}, kNum, kList(kForm("")), kFields(40, kNum), {Sort: impl.TreeForm, Names: []string{"a"}}} {
			put(4, place+1, fault{}, 0, func(book *[]chainType, p *foldPlan) {
				if place < len(p.States) {
					p.States[place].Kind = k
				}
			})
		}
	}
	for _, n := range []node{nDrop(), nName("old"), {Num: 1}, {Text: "q"}, {Names: []string{""}}, {Kids: []node{{}}}, {Op: -1}} {
		put(5, 4, fault{}, 0, func(book *[]chainType, p *foldPlan) { p.States[len(p.States)-1].Save = n })
		put(5, 4, fault{}, 0, func(book *[]chainType, p *foldPlan) { p.States[len(p.States)-1].Lift = n })
	}
	for _, place := range []int{0, 2} {
		for _, row := range bads {
			put(6, place+1, row.f, 0, func(book *[]chainType, p *foldPlan) { p.States[place].Save = row.n })
			put(7, place+1, row.f, 0, func(book *[]chainType, p *foldPlan) { p.States[place].Lift = row.n })
		}
	}
	for _, x := range []tree{{}, num(1), form("a", num(1)), form("d", text("1")), form("d e", num(1), num(2)), form("d", num(1000000000))} {
		put(8, 0, fault{}, 0, func(book *[]chainType, p *foldPlan) { p.Start = x })
	}
	for _, place := range []int{0, 3} {
		for _, row := range bads {
			put(9, place+1, row.f, 1, func(book *[]chainType, p *foldPlan) { p.Steps[place].Do = row.n })
		}
		for _, name := range []string{"", "x", "A", "aa"} {
			put(9, place+1, fault{}, 0, func(book *[]chainType, p *foldPlan) { p.Steps[place].Type = name })
		}
	}
	put(9, 4, fault{}, 0, func(book *[]chainType, p *foldPlan) { p.Steps[3].Type = "a" })
	return all
}

// Each code of the table with its Place and its Lift, and each pair of them: the one that is found first is told.
func TestFoldPlanCodes(t *testing.T) {
	book, good := spoiledFold(t)
	wantFold(t, "a good fold", book, good, foldFault{})
	all := foldSpoilings(t)
	for i, one := range all {
		b, p := copyBook(book), copyFold(good)
		one.spoil(&b, &p)
		wantFold(t, fmt.Sprint("spoiled by ", i), b, p, one.wanted)
		for j, other := range all {
			// Two of one sort may undo each other.
			if one.order[0] == 3 || other.order[0] == 3 || one.order == other.order {
				continue
			}
			b, p := copyBook(book), copyFold(good)
			other.spoil(&b, &p)
			one.spoil(&b, &p)
			wanted := one.wanted
			if slices.Compare(other.order[:], one.order[:]) < 0 {
				wanted = other.wanted
			}
			if f := impl.FoldCheck(b, p); f != wanted || impl.FoldWrite(b, p) != "" {
				t.Errorf("spoiled by %d and %d: %+v, wanted %+v", i, j, f, wanted)
			}
		}
	}
	// FoldBadCount is told ahead of all that could be wrong with states and steps, and behind the name and the book.
	for _, one := range all {
		if one.order[0] > 3 {
			b, p := copyBook(book), copyFold(good)
			one.spoil(&b, &p)
			p.States = append(p.States, p.States...)
			wantFold(t, "too many states", b, p, foldFault{Code: impl.FoldBadCount})
			p.Name = ""
			wantFold(t, "too many states and no name", b, p, foldFault{Code: impl.FoldBadName})
			b[0].Name = ""
			wantFold(t, "too many states, no name and no book", b, p, foldFault{Code: impl.FoldBadBook})
		}
	}
}

// nodesValue is a value of `{n:num}` with just so many nodes.
func nodesValue(t *testing.T, nodes int) node {
	n, rest := readValue(t, "form n 1 end"), nodes-2
	for rest > 0 {
		fields := 31
		if rest < 35 {
			fields = rest - 2
		}
		n = nOp(impl.LiftLet, "x", nFields(fields, nNum(1)), n)
		rest -= fields + 2
	}
	if nodesOf(n) != nodes {
		t.Fatalf("%d nodes, wanted %d", nodesOf(n), nodes)
	}
	return n
}

// bytesValue is a value with just so many bytes that means what another one does.
func bytesValue(t *testing.T, bytes int, inner string) node {
	n := readValue(t, inner)
	write := func(cut int) (node, int) {
		texts := nFields(22, nText(strings.Repeat("x", 60)))
		for i := range texts.Kids {
			texts.Kids[i].Text = texts.Kids[i].Text[:60-min(max(cut-3*i, 0), 3)]
		}
		made := nOp(impl.LiftLet, "x", nFields(22, nText(strings.Repeat("y", 60))), nOp(impl.LiftLet, "y", texts, n))
		words, _ := nodeWords(nEmit(made), "A")
		return made, len(strings.Join(words, " ")) - len("emit ")
	}
	for cut := range 67 {
		if made, size := write(cut); size == bytes {
			return made
		}
	}
	t.Fatalf("no value of %d bytes", bytes)
	return node{}
}

// The edges of counts, levels, nodes, bytes and costs; a schema that would be widened to the one that is wanted.
func TestFoldPlanBounds(t *testing.T) {
	var lines string
	for i := range 8 {
		lines += fmt.Sprintf("type t%d\nversion {n:num}\n", i)
	}
	book := bookOf(t, lines)
	one := foldOf(t, book, "fold x\nstate {n:num}\nstart {n:0}\n")
	p := copyFold(one)
	for i := range 8 {
		p.Steps = append(p.Steps, foldStep{Type: fmt.Sprint("t", i), Do: nName("new")})
		wantFold(t, "steps", book, p, foldFault{})
	}
	p.Steps = append(p.Steps, foldStep{Type: "t0", Do: nName("new")})
	wantFold(t, "a step too many", book, p, foldFault{Code: 3})
	p = copyFold(one)
	for range 3 {
		p.States = append([]foldState{{Kind: p.States[0].Kind, Save: nName("old"), Lift: nName("old")}}, p.States...)
		wantFold(t, "states", book, p, foldFault{})
	}
	p.States = append([]foldState{p.States[0]}, p.States...)
	wantFold(t, "a state too many", book, p, foldFault{Code: 3})
	wantFold(t, "no states", book, foldPlan{Name: "x"}, foldFault{Code: 3})
	wantFold(t, "nothing", book, foldPlan{}, foldFault{Code: 2})
	wantFold(t, "nothing of no book", nil, foldPlan{Name: "x", States: []foldState{{Kind: kForm("")}}, Start: form("")}, foldFault{})
	// As a save, a lift, and a step.
	each := func(what string, n node, f fault) {
		t.Helper()
		two := copyFold(one)
		two.States = append([]foldState{{Kind: two.States[0].Kind, Save: nName("old"), Lift: nName("old")}}, two.States...)
		for code, put := range map[int]func(p *foldPlan){6: func(p *foldPlan) { p.States[0].Save = n }, 7: func(p *foldPlan) { p.States[0].Lift = n }, 9: func(p *foldPlan) { p.Steps = []foldStep{{Type: "t7", Do: n}} }} {
			p := copyFold(two)
			put(&p)
			wanted := foldFault{}
			if f.Code != 0 {
				wanted = foldFault{Code: code, Place: 1, Lift: f}
			}
			wantFold(t, what, book, p, wanted)
		}
	}
	deep := func(levels int) node {
		n := nNum(1)
		for range levels - 2 {
			n = nOp(impl.LiftAdd, "", nNum(1), n)
		}
		return nOp(impl.LiftForm, "n", n)
	}
	each("22 levels", deep(22), fault{})
	each("23 levels: an `emit` of 24", deep(23), fault{})
	each("24 levels: an `emit` of 25", deep(24), fault{Code: 2})
	each("25 levels", deep(25), fault{Code: 2})
	for nodes := 190; nodes <= 199; nodes++ {
		each("nodes, with the `emit` at most 200", nodesValue(t, nodes), fault{})
	}
	for nodes := 200; nodes <= 203; nodes++ {
		each("nodes, with the `emit` more than 200", nodesValue(t, nodes), fault{Code: 2})
	}
	for bytes := 2985; bytes <= 2995; bytes++ {
		each("bytes, with the `emit` at most 3000", bytesValue(t, bytes, "form n 1 end"), fault{})
	}
	for bytes := 2996; bytes <= 3003; bytes++ {
		each("bytes, with the `emit` more than 3000", bytesValue(t, bytes, "form n 1 end"), fault{Code: 2})
	}
	// Costs: of the value itself, not of its `emit`.
	from := bookOf(t, "type a\nversion "+someFrom+"\n")
	costs := foldOf(t, from, "fold x\nstate "+someFrom+"\nstart "+impl.TreeWrite(firstOf(readKind(t, someFrom)))+"\n")
	for _, cost := range []int{39997, 39998, 39999, 40000, 40001, 40002, 50000} {
		n := nOp(impl.LiftLet, "value", costing(t, impl.LiftMap, cost).Kids[0], nName("old"))
		if got := int(toldCost(n).Int64()); got != cost {
			t.Fatal(got, cost)
		}
		p := copyFold(costs)
		p.Steps = []foldStep{{Type: "a", Do: n}}
		wanted := foldFault{}
		if cost > 40000 {
			wanted = foldFault{Code: 9, Place: 1, Lift: fault{Code: 9}}
		}
		wantFold(t, fmt.Sprint("a cost of ", cost), from, p, wanted)
	}
	// What would be widened is not the same.
	wide2 := bookOf(t, "type a\nversion {n:num}\n")
	for _, s := range []string{"fold x\nstate {n:num}\nsave old\nlift old\nstate {n:?num}\nstart {n:~}\n", "fold x\nstate {n:?num}\nsave form n some get n old end\nlift old\nstate {n:num}\nstart {n:0}\n"} {
		p, f := impl.FoldRead(wide2, s)
		if f.Code != 6 && f.Code != 7 || f.Place != 1 || f.Lift != (fault{Code: 6}) || len(p.States) != 0 {
			t.Errorf("%q: %+v", s, f)
		}
		wantFoldRead(t, wide2, s, f)
	}
	wantFoldRead(t, wide2, "fold x\nstate {n:?num}\nstart {n:1}\n", foldFault{Code: 8})
	wantFoldRead(t, wide2, "fold x\nstate {n:?num}\nstart {n:?1}\non a new\n", foldFault{Code: 9, Place: 1, Lift: fault{Code: 6}})
}

// Lines that may stand there, and not; empty ones; no newline behind the last; the number of all lines.
func TestFoldPlanLines(t *testing.T) {
	book := bookOf(t, totalBook)
	lines := strings.Split(strings.TrimSpace(totalLines), "\n")
	wantFoldRead(t, book, strings.Join(lines, "\n"), foldFault{})
	wantFoldRead(t, book, "\n\n\n"+strings.Join(lines, "\n\n\n")+"\n\n\n", foldFault{})
	for i := range lines {
		wantFoldRead(t, book, strings.Join(slices.Insert(slices.Clone(lines), i, ""), "\n"), foldFault{})
		// Without a line, with it twice, and cut behind it.
		without := strings.Join(slices.Delete(slices.Clone(lines), i, i+1), "\n")
		_, f := toldFoldRead(book, without)
		wantFoldRead(t, book, without, f)
		wanted := foldFault{Code: 10, Place: i + 2}
		if i == len(lines)-1 {
			wanted = foldFault{Code: 9, Place: 2}
		}
		wantFoldRead(t, book, strings.Join(slices.Insert(slices.Clone(lines), i, lines[i]), "\n"), wanted)
		if i < 5 {
			wantFoldRead(t, book, strings.Join(lines[:i+1], "\n"), foldFault{Code: 10, Place: i + 1})
			wantFoldRead(t, book, strings.Join(lines[:i+1], "\n")+"\n", foldFault{Code: 10, Place: i + 2})
			wantFoldRead(t, book, strings.Join(lines[:i+1], "\n")+"\n\n\n", foldFault{Code: 10, Place: i + 4})
		}
	}
	for _, row := range []struct {
		s    string
		line int
	}{
		{"", 1}, {"\n", 2}, {"\n\n\n", 4}, {"x", 1}, {" ", 1}, {"\nfold x\n\n \n", 4},
		{"fold x\nfold x\nstate {}\nstart {}", 2}, {"state {}\nstart {}", 1}, {"start {}", 1}, {"on a old", 1}, {"save old", 1}, {"lift old", 1}, {"fold x\nsave old", 2}, {"fold x\nlift old", 2}, {"fold x\nstart {}", 2}, {"fold x\non a old", 2},
		{"fold x\nstate {}\nfold x", 3}, {"fold x\nstate {}\nstate {}", 3}, {"fold x\nstate {}\nlift old", 3}, {"fold x\nstate {}\non a old", 3}, {"fold x\nstate {}\nsave old\nsave old", 4}, {"fold x\nstate {}\nsave old\nstate {}", 4}, {"fold x\nstate {}\nsave old\nstart {}", 4}, {"fold x\nstate {}\nsave old\non a old", 4}, {"fold x\nstate {}\nsave old\nfold x", 4},
		{"fold x\nstate {}\nsave old\nlift old\nlift old", 5}, {"fold x\nstate {}\nsave old\nlift old\nsave old", 5}, {"fold x\nstate {}\nsave old\nlift old\nstart {}", 5}, {"fold x\nstate {}\nsave old\nlift old\non a old", 5}, {"fold x\nstate {}\nsave old\nlift old\n", 5},
		{"fold x\nstate {}\nstart {}\nstart {}", 4}, {"fold x\nstate {}\nstart {}\nstate {}", 4}, {"fold x\nstate {}\nstart {}\nsave old", 4}, {"fold x\nstate {}\nstart {}\nlift old", 4}, {"fold x\nstate {}\nstart {}\nfold x", 4}, {"fold x\nstate {}\nstart {}\non a old\nstart {}", 5}, {"fold x\nstate {}\nstart {}\non a old\nstate {}", 5}, {"fold x\nstate {}\nstart {}\nend", 4},
		// Words, names and spaces.
		{"fold", 1}, {"fold ", 1}, {"fold  x", 1}, {"fold x ", 1}, {"fold X", 1}, {"fold 9x", 1}, {"fold ninebytes", 1}, {" fold x", 1}, {"folds x", 1}, {"fold\tx", 1}, {"Fold x", 1}, {"fold x\r", 1},
		{"fold x\nstate", 2}, {"fold x\nstate ", 2}, {"fold x\nstate  {}", 2}, {"fold x\nstate {} ", 2}, {"fold x\nstate {b:num,a:num}", 2}, {"fold x\nstate what", 2}, {"fold x\nstates {}", 2},
		{"fold x\nstate {}\nsave", 3}, {"fold x\nstate {}\nsave ", 3}, {"fold x\nstate {}\nsave drop", 3}, {"fold x\nstate {}\nsave old old", 3}, {"fold x\nstate {}\nsave emit old", 3}, {"fold x\nstate {}\nsave 01", 3}, {"fold x\nstate {}\nsave form n", 3}, {"fold x\nstate {}\nsave\told", 3},
		{"fold x\nstate {}\nsave old\nlift", 4}, {"fold x\nstate {}\nsave old\nlift ", 4}, {"fold x\nstate {}\nsave old\nlift what ever", 4}, {"fold x\nstate {}\nsave old\nlift auto auto", 4},
		{"fold x\nstate {}\nstart", 3}, {"fold x\nstate {}\nstart ", 3}, {"fold x\nstate {}\nstart  {}", 3}, {"fold x\nstate {}\nstart {} ", 3}, {"fold x\nstate {}\nstart 01", 3}, {"fold x\nstate {}\nstart {b:1,a:2}", 3},
		{"fold x\nstate {}\nstart {}\non", 4}, {"fold x\nstate {}\nstart {}\non ", 4}, {"fold x\nstate {}\nstart {}\non a", 4}, {"fold x\nstate {}\nstart {}\non a ", 4}, {"fold x\nstate {}\nstart {}\non  a old", 4}, {"fold x\nstate {}\nstart {}\non A old", 4}, {"fold x\nstate {}\nstart {}\non ninebytes old", 4}, {"fold x\nstate {}\nstart {}\non a drop", 4}, {"fold x\nstate {}\nstart {}\non a old old", 4}, {"fold x\nstate {}\nstart {}\non a old\n\non b what ever", 6},
		// Ahead of what FoldCheck finds: a state that is no form's, a start that is none of it, a type that is not there.
		{"fold x\nstate num\nstart {n:1}\non zz old\nwhat", 5}, {"fold x\nstate num\nstart yes\non zz old\non zz", 5},
	} {
		wantFoldRead(t, book, row.s, foldFault{Code: 10, Place: row.line})
	}
	// Values may stand with more spaces, as LiftParse reads them.
	for _, s := range []string{"fold x\nstate {}\nsave  old\nlift old \nstate {}\nstart {}\non a   old  ", "fold x\nstate {}\nstart {}\non b  old"} {
		wantFoldRead(t, book, s, foldFault{})
	}
	wantFoldRead(t, book, "fold x\nstate {}\nstart {}\non old old", foldFault{Code: 9, Place: 1})
	wantFoldRead(t, book, "fold x\nstate num\nstart {}\non zz old", foldFault{Code: 4, Place: 1})
	wantFoldRead(t, []chainType{{}}, "fold x\nstate num\nstart {}\non zz old", foldFault{Code: 1})
	wantFoldRead(t, []chainType{{}}, "fold x\nstate num\nstart {}\nwhat", foldFault{Code: 10, Place: 4})
	// More states and steps than there may be are read, and then found.
	wantFoldRead(t, book, "fold x\n"+strings.Repeat("state {}\nsave old\nlift old\n", 4)+"state {}\nstart {}\n", foldFault{Code: 3})
	wantFoldRead(t, book, "fold x\n"+strings.Repeat("state {}\nsave old\nlift old\n", 3)+"state {}\nstart {}\n", foldFault{})
	wantFoldRead(t, book, "fold x\nstate {}\nstart {}\n"+strings.Repeat("on a old\n", 9), foldFault{Code: 3})
	wantFoldRead(t, book, "fold x\nstate {}\nstart {}\n"+strings.Repeat("on a old\n", 8), foldFault{Code: 9, Place: 2})
}

// Texts of just as many bytes as there may be, and one more; the longest fold there is.
func TestFoldPlanLong(t *testing.T) {
	book := bookOf(t, totalBook)
	for _, more := range []int{-1, 0} {
		s := totalLines + strings.Repeat("\n", impl.FoldMaxText+more-len(totalLines))
		wantFoldRead(t, book, s, foldFault{})
		wantFoldRead(t, book, strings.Repeat("\n", impl.FoldMaxText+more-len(totalLines))+totalLines, foldFault{})
	}
	wantFoldRead(t, book, totalLines+strings.Repeat("\n", impl.FoldMaxText+1-len(totalLines)), foldFault{Code: 10})
	wantFoldRead(t, book, strings.Repeat("x", impl.FoldMaxText+1), foldFault{Code: 10})
	wantFoldRead(t, book, strings.Repeat("\n", impl.FoldMaxText), foldFault{Code: 10, Place: impl.FoldMaxText + 1})
	wantFoldRead(t, []chainType{{}}, strings.Repeat("x\n", 40000), foldFault{Code: 10})
	// Each value of just as many bytes as there may be.
	var lines string
	for i := range 8 {
		lines += fmt.Sprintf("type type000%d\nversion {}\n", i)
	}
	k := readKind(t, "{t:[text]}")
	long := bytesValue(t, 2995, "old")
	p := foldPlan{Name: "longname", Start: form("t", list(repeat(text(strings.Repeat("q", 60)), 20)...))}
	for range 3 {
		p.States = append(p.States, foldState{Kind: k, Save: long, Lift: long})
	}
	p.States = append(p.States, foldState{Kind: k})
	for i := range 8 {
		p.Steps = append(p.Steps, foldStep{Type: fmt.Sprintf("type000%d", i), Do: long})
	}
	wantFold(t, "a long one", bookOf(t, lines), p, foldFault{})
	if bytes := len(impl.FoldWrite(bookOf(t, lines), p)); bytes < 14*2995 {
		t.Errorf("it has %d bytes", bytes)
	}
}

// chanceFold is a fold by chance of a book by chance, mostly a good one.
func chanceFold(t *testing.T, r *rand.Rand, book []chainType) foldPlan {
	p := foldPlan{Name: []string{"a", "sum", "total"}[r.Intn(3)]}
	for range 1 + r.Intn(4) {
		p.States = append(p.States, foldState{Kind: readKind(t, chanceForms[r.Intn(len(chanceForms))])})
	}
	newest := textOf(p.States[len(p.States)-1].Kind)
	value := func(wanted string, bound bindings) node {
		n := node{}
		for range 9 {
			n = valueOf(r, bound, wanted, 1+r.Intn(5))
			edgy(r, &n)
			if toldValueFault(n, wanted, bound).Code == 0 {
				break
			}
		}
		return n
	}
	for i := range len(p.States) - 1 {
		s := &p.States[i]
		s.Save = value(textOf(s.Kind), bindings{{"old", newest}})
		s.Lift = value(textOf(p.States[i+1].Kind), bindings{{"old", textOf(s.Kind)}})
	}
	p.Start = bodyOf(r, p.States[len(p.States)-1].Kind)
	for _, one := range book {
		if body, _ := newestOf(book, one.Name); r.Intn(4) > 0 {
			p.Steps = append(p.Steps, foldStep{Type: one.Name, Do: value(newest, bindings{{"old", newest}, {"new", body}})})
		}
	}
	r.Shuffle(len(p.Steps), func(i, j int) { p.Steps[i], p.Steps[j] = p.Steps[j], p.Steps[i] })
	return p
}

// P71, P72: many folds by chance, some of them spoiled, and their texts, some of them changed.
func TestFoldPlanMany(t *testing.T) {
	t.Parallel()
	r := rand.New(rand.NewSource(71))
	codes := map[int]int{}
	for range 700 {
		book := chanceBook(t, r)
		for toldBook(book).Code != 0 {
			book = chanceBook(t, r)
		}
		p := chanceFold(t, r, book)
		s := toldFoldLines(p)
		if r.Intn(3) == 0 {
			at := r.Intn(len(p.States))
			switch r.Intn(7) {
			case 0:
				spoilKind(r, &p.States[at].Kind)
			case 1:
				otherPart(r, &p.States[at].Save)
			case 2:
				p.States[at].Lift = valueOf(r, bindings{{"old", "{a:num}"}}, "{a:num}", 3)
			case 3:
				p.Start = bodyOf(r, p.States[at].Kind)
			case 4, 5:
				if len(p.Steps) > 0 {
					spoilLift(r, &p.Steps[r.Intn(len(p.Steps))].Do)
				}
			case 6:
				p.Steps = append(p.Steps, p.Steps...)
			}
		}
		f := impl.FoldCheck(book, p)
		codes[f.Code]++
		wantFold(t, "by chance", book, p, f)
		for range 3 {
			at := r.Intn(len(s))
			s := []string{s[:at] + s[at+1:], s[:at] + "\n" + s[at:], s[:at] + " " + s[at:], s[:at], s[:at] + s[at/2:]}[r.Intn(5)]
			_, f := toldFoldRead(book, s)
			wantFoldRead(t, book, s, f)
			codes[100+f.Code]++
		}
	}
	if codes[0] < 200 || codes[4] < 5 || codes[6] < 5 || codes[7] < 5 || codes[8] < 5 || codes[9] < 5 || codes[100] < 50 || codes[110] < 200 {
		t.Errorf("%v", codes)
	}
}

// Every function answers at every argument: also at what holds itself, or is far too wide.
func TestFoldPlanWithoutEnd(t *testing.T) {
	book, good := spoiledFold(t)
	k, n, x := endless()
	for i, change := range []func(p *foldPlan){
		func(p *foldPlan) { p.States[0].Kind = k }, func(p *foldPlan) { p.States[3].Lift = n }, func(p *foldPlan) { p.States[0].Save = n },
		func(p *foldPlan) { p.States[1].Lift = n }, func(p *foldPlan) { p.Start = x }, func(p *foldPlan) { p.Steps[3].Do = n },
		func(p *foldPlan) { p.States = make([]foldState, 3000000) }, func(p *foldPlan) { p.Steps = make([]foldStep, 3000000) }, func(p *foldPlan) { p.Name = strings.Repeat("a", 30000000) },
	} {
		p := copyFold(good)
		change(&p)
		wanted := foldFault{Code: []int{4, 5, 6, 7, 8, 9, 3, 3, 2}[i], Place: []int{1, 4, 1, 2, 0, 4, 0, 0, 0}[i]}
		if i == 2 || i == 3 || i == 5 {
			wanted.Lift = fault{Code: 2}
		}
		if f := impl.FoldCheck(book, p); f != wanted || impl.FoldWrite(book, p) != "" {
			t.Errorf("%d: %+v, wanted %+v", i, f, wanted)
		}
	}
	if _, f := impl.FoldRead(book, strings.Repeat("fold x\n", 10000000)); f != (foldFault{Code: 10}) {
		t.Errorf("%+v", f)
	}
}

// Nothing is written into an argument or behind its end, and every answer is new memory.
func TestFoldPlanMemory(t *testing.T) {
	book, good := spoiledFold(t)
	b, p := roomy(book), roomy(good)
	wantFold(t, "with room", b, p, foldFault{})
	wantMemory(t, "FoldCheck", func() any { return impl.FoldCheck(b, p) }, b, p)
	wantMemory(t, "FoldWrite", func() any { return impl.FoldWrite(b, p) }, b, p)
	s := strings.Clone(totalLines)
	b = roomy(bookOf(t, totalBook))
	wantMemory(t, "FoldRead", func() any { p, _ := impl.FoldRead(b, s); return p }, b, s)
}
