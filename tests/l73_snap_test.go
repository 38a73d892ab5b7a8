package tests

import (
	"fmt"
	"math"
	"math/rand"
	"strings"
	"testing"

	"loop.example/teagle/impl"
)

type foldSnap = impl.FoldSnap

func sameSnap(a, b foldSnap) bool {
	return a.Plan == b.Plan && a.Version == b.Version && a.At == b.At && a.Missed == b.Missed && a.Book == b.Book && sameTree(a.Body, b.Body)
}

func snapText(x foldSnap) string {
	return fmt.Sprintf("%s %d at %d, %d missed, %s, by %.60q", x.Plan, x.Version, x.At, x.Missed, impl.TreeWrite(x.Body), x.Book)
}

// toldLiftedState is by itself a state of a version, lifted to the newest.
func toldLiftedState(p foldPlan, version int, body tree) (tree, bool) {
	for _, s := range p.States[version-1 : len(p.States)-1] {
		next, code := toldEval([]liftBound{{Name: "old", Tree: body}}, s.Lift)
		if code != 0 {
			return tree{}, false
		}
		body = next
	}
	return body, true
}

// toldSave is by itself a sum as it is saved.
func toldSave(book []chainType, p foldPlan, s foldSum, version int) (foldSnap, bool) {
	if toldFold(book, p).Code != 0 || !toldSumOk(p, s) || version < 1 || version > len(p.States) {
		return foldSnap{}, false
	}
	body := s.State
	if version < len(p.States) {
		saved, code := toldEval([]liftBound{{Name: "old", Tree: s.State}}, p.States[version-1].Save)
		if code != 0 {
			return foldSnap{}, false
		}
		body = saved
	}
	if again, ok := toldLiftedState(p, version, body); !ok || !sameTree(again, s.State) {
		return foldSnap{}, false
	}
	return foldSnap{Plan: p.Name, Version: version, At: s.At, Missed: s.Missed, Book: toldLines(book), Body: body}, true
}

// toldLoad is by itself the sum that was saved.
func toldLoad(book []chainType, p foldPlan, x foldSnap) (foldSum, bool) {
	if toldFold(book, p).Code != 0 || x.Plan != p.Name || x.Version < 1 || x.Version > len(p.States) || x.At < 0 || x.At > 999999 || x.Missed < 0 || x.Missed > 1000000 || x.Book != toldLines(book) {
		return foldSum{}, false
	}
	if !okTree(x.Body) || !isOf(p.States[x.Version-1].Kind, x.Body) {
		return foldSum{}, false
	}
	state, ok := toldLiftedState(p, x.Version, x.Body)
	if !ok {
		return foldSum{}, false
	}
	return foldSum{At: x.At, Missed: x.Missed, State: state}, true
}

// toldFrom is by itself what comes of records, begun with what was saved, if it can be.
func toldFrom(book []chainType, p foldPlan, x foldSnap, list []record) (foldSum, int) {
	if toldFold(book, p).Code != 0 || !toldReplay(book, list, 0, nil).Ok {
		return foldSum{}, 0
	}
	s, ok := toldLoad(book, p, x)
	if !ok {
		all, _ := toldAll(book, p, list)
		return all, 2
	}
	for _, r := range toldReplay(book, list, 0, nil).Given {
		if r.Pos > x.At {
			s = toldFolded(p, s, r)
		}
	}
	return s, 1
}

// wantSave: a sum is saved as the tests themselves tell; P68 holds.
func wantSave(t *testing.T, book []chainType, p foldPlan, s foldSum, version int) (foldSnap, bool) {
	t.Helper()
	x, ok := impl.FoldSave(book, p, s, version)
	if told, toldOk := toldSave(book, p, s, version); ok != toldOk || !sameSnap(x, told) {
		t.Errorf("%s as %d: %v %s, but the tests tell %v %s", sumText(s), version, ok, snapText(x), toldOk, snapText(told))
	}
	if ok {
		if back, loaded := wantLoad(t, book, p, x); !loaded || !sameSum(back, s) {
			t.Errorf("%s, saved as %d, is loaded as %s", sumText(s), version, sumText(back))
		}
	}
	return x, ok
}

// wantLoad: what was saved is loaded as the tests themselves tell.
func wantLoad(t *testing.T, book []chainType, p foldPlan, x foldSnap) (foldSum, bool) {
	t.Helper()
	s, ok := impl.FoldLoad(book, p, x)
	if told, toldOk := toldLoad(book, p, x); ok != toldOk || !sameSum(s, told) {
		t.Errorf("%s: %v %s, but the tests tell %v %s", snapText(x), ok, sumText(s), toldOk, sumText(told))
	}
	return s, ok
}

// wantFrom: records, begun with what was saved, come to what the tests themselves tell; P69 holds.
func wantFrom(t *testing.T, book []chainType, p foldPlan, x foldSnap, list []record) (foldSum, int) {
	t.Helper()
	s, how := impl.FoldFrom(book, p, x, list)
	if told, toldHow := toldFrom(book, p, x, list); how != toldHow || !sameSum(s, told) {
		t.Errorf("%s: %d %s, but the tests tell %d %s", snapText(x), how, sumText(s), toldHow, sumText(told))
	}
	_, loaded := wantLoad(t, book, p, x)
	all, ok := impl.FoldAll(book, p, list)
	switch {
	case !ok && (how != impl.FromNowhere || !sameSum(s, foldSum{})):
		t.Errorf("%s: %d %s, but nothing is folded", snapText(x), how, sumText(s))
	case ok && !loaded && (how != impl.FromStart || !sameSum(s, all)):
		t.Errorf("%s, thrown away: %d %s, from the start %s", snapText(x), how, sumText(s), sumText(all))
	case ok && loaded && how != impl.FromSnap:
		t.Errorf("%s: %d", snapText(x), how)
	}
	return s, how
}

// wantSnapsSame is P67: begun with what was saved behind each of the records, as each version, they come to the same. It is how often that could be saved.
func wantSnapsSame(t *testing.T, book []chainType, p foldPlan, list, anew []record) (saved int) {
	t.Helper()
	all := wantAll(t, book, p, list)
	for cut := range len(list) + 1 {
		s, _ := impl.FoldAll(book, p, list[:cut])
		for version := range len(p.States) + 2 {
			x, ok := wantSave(t, book, p, s, version)
			if !ok {
				continue
			}
			saved++
			for _, list := range [][]record{list, anew} {
				if from, how := wantFrom(t, book, p, x, list); how != impl.FromSnap || !sameSum(from, all) {
					t.Errorf("cut at %d, version %d: %d %s, from the start %s", cut, version, how, sumText(from), sumText(all))
				}
			}
		}
	}
	return saved
}

// P67, P68: ordinary folds and sums whose snapshots are known; the document's own.
func TestFoldSnapOrdinary(t *testing.T) {
	book := bookOf(t, totalBook)
	p := foldOf(t, book, totalLines)
	lines := impl.ChainWrite(book)
	s := foldSum{At: 7, Missed: 2, State: readTree(t, "{n:7}")}
	for version, body := range map[int]string{1: `{t:"7"}`, 2: "{n:7}"} {
		x, ok := wantSave(t, book, p, s, version)
		if !ok || !sameSnap(x, foldSnap{Plan: "total", Version: version, At: 7, Missed: 2, Book: lines, Body: readTree(t, body)}) {
			t.Errorf("%d: %s", version, snapText(x))
		}
	}
	list := recordsOf(t, "1 x a@1{n:3}\n2 x a@1{n:0}\n3 x b@1{}\n5 x a@1{n:4}\n6 x a@2{n:999999999}\n8 x a@2{n:-9}\n9 y c@1{}")
	if saved := wantSnapsSame(t, book, p, list, list); saved != 2*8 {
		t.Errorf("%d saved", saved)
	}
	// Four versions, each lifted through those behind it.
	p = foldOf(t, book, "fold four\nstate {a:num}\nsave form a sub get d old 6 end\nlift form b add 1 get a old end\nstate {b:num}\nsave form b sub get d old 5 end\nlift form c add 2 get b old end\nstate {c:num}\nsave form c sub get d old 3 end\nlift form d add 3 get c old end\nstate {d:num}\nstart {d:0}\non a put d old add get d old get n new\n")
	for version, body := range []string{"{a:4}", "{b:5}", "{c:7}", "{d:10}"} {
		x, ok := wantSave(t, book, p, foldSum{State: readTree(t, "{d:10}")}, version+1)
		if !ok || impl.TreeWrite(x.Body) != body || x.At != 0 || x.Version != version+1 {
			t.Errorf("%s", snapText(x))
		}
	}
	if saved := wantSnapsSame(t, book, p, list, list); saved != 4*8 {
		t.Errorf("%d saved", saved)
	}
	// A fold of one state.
	p = foldOf(t, book, "fold one\nstate {d:num}\nstart {d:0}\non a put d old add get d old get n new\n")
	if saved := wantSnapsSame(t, book, p, list, list); saved != 8 {
		t.Errorf("%d saved", saved)
	}
}

// A version that loses something, a save that stops, a lift that stops.
func TestFoldSnapLoses(t *testing.T) {
	book := bookOf(t, totalBook)
	for _, row := range []struct {
		lines string
		saved map[int]bool
	}{
		{"state {}\nsave form end\nlift form n 5 end\nstate {n:num}\n", map[int]bool{0: false, 5: true, -5: false}},
		{"state {n:num}\nsave form n rem get n old 10 end\nlift old\nstate {n:num}\n", map[int]bool{0: true, 9: true, 10: false, -9: true, 19: false}},
		{"state {n:num}\nsave form n div 10 get n old end\nlift form n div 10 get n old end\nstate {n:num}\n", map[int]bool{0: false, 1: true, 2: true, 3: true, 4: false, 6: false, 5: true, 10: true, 11: false}},
		{"state {n:num}\nsave form n add get n old 999999990 end\nlift form n sub get n old 999999990 end\nstate {n:num}\n", map[int]bool{9: true, 10: false, -7: true}},
		{"state {n:num}\nsave old\nlift form n add get n old 0 end\nstate {n:num}\nsave old\nlift form n div mul get n old 1000 1000 end\nstate {n:num}\n", map[int]bool{999999: true, 1000000: false}},
		{"state {l:[num]}\nsave form l part one get n old 0 get n old end\nlift form n at get l old 0 end\nstate {n:num}\n", map[int]bool{1: true, 0: false, 2: false, -1: false}},
	} {
		p := foldOf(t, book, "fold x\n"+row.lines+"start {n:0}\n")
		for n, ok := range row.saved {
			s := foldSum{At: 3, State: form("n", num(n))}
			if x, saved := wantSave(t, book, p, s, 1); saved != ok || !ok && !sameSnap(x, foldSnap{}) {
				t.Errorf("%q: %d saved %v as %s", row.lines, n, saved, snapText(x))
			}
			if _, saved := wantSave(t, book, p, s, len(p.States)); !saved {
				t.Errorf("%q: %d is not saved as the newest", row.lines, n)
			}
		}
	}
	// What was saved is lifted as it is; where that stops it is thrown away.
	p := foldOf(t, book, "fold x\nstate {n:num}\nsave old\nlift form n div 12 get n old end\nstate {n:num}\nstart {n:0}\non a new\n")
	x := foldSnap{Plan: "x", Version: 1, At: 2, Book: impl.ChainWrite(book), Body: readTree(t, "{n:5}")}
	list := recordsOf(t, "1 x a@1{n:3}")
	if s, how := wantFrom(t, book, p, x, list); how != impl.FromSnap || sumText(s) != "at 2, 0 missed, {n:2}" {
		t.Errorf("%d %s", how, sumText(s))
	}
	x.Body = readTree(t, "{n:0}")
	if s, how := wantFrom(t, book, p, x, list); how != impl.FromStart || sumText(s) != "at 1, 0 missed, {n:4}" {
		t.Errorf("%d %s", how, sumText(s))
	}
}

// Positions: at 0, at the last there is, at one at which nothing was given, behind all records.
func TestFoldSnapPositions(t *testing.T) {
	book := bookOf(t, totalBook)
	p := foldOf(t, book, totalLines)
	list := recordsOf(t, "1 x a@1{n:3}\n2 x a@1{n:0}\n5 x a@1{n:4}\n999999 x a@2{n:9}")
	for at, wanted := range map[int]string{0: "at 999999, 1 missed, {n:116}", 1: "at 999999, 1 missed, {n:112}", 2: "at 999999, 1 missed, {n:112}", 3: "at 999999, 1 missed, {n:112}", 4: "at 999999, 1 missed, {n:112}", 5: "at 999999, 1 missed, {n:109}", 999998: "at 999999, 1 missed, {n:109}", 999999: "at 999999, 1 missed, {n:100}"} {
		x := foldSnap{Plan: "total", Version: 1, At: at, Missed: 1, Book: impl.ChainWrite(book), Body: readTree(t, `{t:"100"}`)}
		if s, how := wantFrom(t, book, p, x, list); how != impl.FromSnap || sumText(s) != wanted {
			t.Errorf("at %d: %d %s, wanted %s", at, how, sumText(s), wanted)
		}
		if s, how := wantFrom(t, book, p, x, nil); how != impl.FromSnap || sumText(s) != fmt.Sprintf("at %d, 1 missed, {n:100}", at) {
			t.Errorf("at %d, without records: %d %s", at, how, sumText(s))
		}
	}
}

// Each reason for which a sum is not saved, and for which what was saved is thrown away, by itself.
func TestFoldSnapNothing(t *testing.T) {
	book := bookOf(t, totalBook)
	p := foldOf(t, book, totalLines)
	list := recordsOf(t, "1 x a@1{n:3}\n2 x a@1{n:4}")
	good := foldSum{At: 1, State: readTree(t, "{n:4}")}
	unsaved := func(what string, book []chainType, p foldPlan, s foldSum, version int) {
		t.Helper()
		if x, ok := wantSave(t, book, p, s, version); ok || !sameSnap(x, foldSnap{}) {
			t.Errorf("%s: %s", what, snapText(x))
		}
	}
	for _, version := range []int{0, -1, 3, 4, 5, math.MaxInt, math.MinInt} {
		unsaved("no such version", book, p, good, version)
	}
	for _, s := range []foldSum{{At: -1, State: good.State}, {At: 1000000, State: good.State}, {Missed: -1, State: good.State}, {Missed: impl.FoldMaxMissed + 1, State: good.State}, {State: readTree(t, `{t:"4"}`)}, {State: readTree(t, "{}")}, {State: num(1)}, {}} {
		unsaved("no such sum", book, p, s, 1)
		unsaved("no such sum", book, p, s, 2)
	}
	for _, s := range []foldSum{{At: 999999, Missed: impl.FoldMaxMissed, State: good.State}, {State: good.State}} {
		if _, ok := wantSave(t, book, p, s, 1); !ok {
			t.Errorf("%s is not saved", sumText(s))
		}
	}
	bad := copyFold(p)
	bad.Start = form("")
	unsaved("a fold that is not ok", book, bad, good, 1)
	unsaved("a book that is not ok", []chainType{{}}, p, good, 1)
	unsaved("a book that does not fit", bookOf(t, "type b\nversion {}\n"), p, good, 1)
	x, _ := wantSave(t, book, p, good, 1)
	thrown := func(what string, book []chainType, p foldPlan, x foldSnap) {
		t.Helper()
		if s, ok := wantLoad(t, book, p, x); ok || !sameSum(s, foldSum{}) {
			t.Errorf("%s: %s", what, sumText(s))
		}
		if s, how := wantFrom(t, book, p, x, list); how != impl.FromStart || sumText(s) != "at 2, 0 missed, {n:7}" {
			t.Errorf("%s: %d %s", what, how, sumText(s))
		}
	}
	if s, how := wantFrom(t, book, p, x, list); how != impl.FromSnap || sumText(s) != "at 2, 0 missed, {n:7}" {
		t.Errorf("%d %s", how, sumText(s))
	}
	for what, change := range map[string]func(x *foldSnap){
		"another plan": func(x *foldSnap) { x.Plan = "totals" }, "no plan": func(x *foldSnap) { x.Plan = "" },
		"version 0": func(x *foldSnap) { x.Version = 0 }, "version -1": func(x *foldSnap) { x.Version = -1 }, "version 3": func(x *foldSnap) { x.Version = 3 }, "a great version": func(x *foldSnap) { x.Version = math.MaxInt }, "another version": func(x *foldSnap) { x.Version = 2 },
		"at -1": func(x *foldSnap) { x.At = -1 }, "at 1000000": func(x *foldSnap) { x.At = 1000000 }, "missed -1": func(x *foldSnap) { x.Missed = -1 }, "missed 1000001": func(x *foldSnap) { x.Missed = 1000001 },
		"no book": func(x *foldSnap) { x.Book = "" }, "another book": func(x *foldSnap) { x.Book = divLines }, "a longer book": func(x *foldSnap) { x.Book += "\n" }, "a shorter book": func(x *foldSnap) { x.Book = x.Book[:len(x.Book)-1] },
		"no body": func(x *foldSnap) { x.Body = tree{} }, "another body": func(x *foldSnap) { x.Body = form("t", num(1)) }, "a body that is not ok": func(x *foldSnap) { x.Body = form("t", text("\"")) }, "the newest body": func(x *foldSnap) { x.Body = good.State }, "nothing": func(x *foldSnap) { *x = foldSnap{} },
	} {
		other := roomy(x)
		change(&other)
		thrown(what, book, p, other)
	}
	// A book that has grown since.
	more, f := impl.ChainAdd(book, "c", kForm(""), node{})
	if f.Code != 0 {
		t.Fatal(f)
	}
	thrown("a book that has grown", more, p, x)
	other := copyFold(p)
	other.Name = "another"
	thrown("another fold", book, other, x)
	// From nowhere.
	nowhere := func(what string, book []chainType, p foldPlan, list []record) {
		t.Helper()
		for _, x := range []foldSnap{x, {}} {
			if s, how := wantFrom(t, book, p, x, list); how != impl.FromNowhere || !sameSum(s, foldSum{}) {
				t.Errorf("%s: %d %s", what, how, sumText(s))
			}
		}
	}
	nowhere("a fold that is not ok", book, bad, list)
	nowhere("a book that is not ok", []chainType{{}}, p, list)
	nowhere("a record that is not ok", book, p, []record{{}})
	nowhere("positions that do not rise", book, p, []record{list[1], list[0]})
	nowhere("too many records", book, p, manyRecords(t, 201))
	nowhere("one below its At that is not ok", book, p, []record{{Pos: 1, Key: "X", Events: list[0].Events}, list[1]})
}

// P67, P68, P69: many folds by chance, and records that were written anew meanwhile by an older state of the book.
func TestFoldSnapMany(t *testing.T) {
	t.Parallel()
	r := rand.New(rand.NewSource(73))
	saved, lost, anews := 0, 0, 0
	for range 14 {
		states := grownBooks(t, r, 9)
		if len(states) < 3 {
			continue
		}
		book, old := states[len(states)-1], states[r.Intn(len(states))]
		var list, anew []record
		for pos := range 8 {
			one := chanceRecordOf(t, r, old, 1+2*pos)
			if !okRecord(one) {
				continue
			}
			list = append(list, one)
			code := impl.AnewMade
			if r.Intn(2) == 0 {
				one, code = impl.RecAnew([][]chainType{old, book}[r.Intn(2)], one)
				anews++
			}
			if code != impl.AnewDropped {
				anew = append(anew, one)
			}
		}
		for range 3 {
			p := chanceFold(t, r, book)
			if impl.FoldCheck(book, p).Code != 0 {
				continue
			}
			// Some that can be saved as older versions, too.
			if len(p.States) > 1 && r.Intn(2) == 0 {
				first, last := &p.States[0], p.States[len(p.States)-1]
				first.Kind, first.Save = copyKind(last.Kind), nName("old")
				p.States, first.Lift = append(p.States[:1:1], last), nName("old")
			}
			n := wantSnapsSame(t, book, p, list, anew)
			saved, lost = saved+n, lost+(len(list)+1)*len(p.States)-n
		}
	}
	if saved < 200 || lost < 50 || anews < 25 {
		t.Errorf("%d saved, %d not, %d written anew", saved, lost, anews)
	}
}

// What holds itself, or is far too long.
func TestFoldSnapWithoutEnd(t *testing.T) {
	book := bookOf(t, totalBook)
	p := foldOf(t, book, totalLines)
	_, _, x := endless()
	if x, ok := impl.FoldSave(book, p, foldSum{State: x}, 2); ok || !sameSnap(x, foldSnap{}) {
		t.Error("saved")
	}
	for _, x := range []foldSnap{{Plan: "total", Version: 2, Book: impl.ChainWrite(book), Body: x}, {Plan: strings.Repeat("total", 6000000), Version: 2, Book: impl.ChainWrite(book), Body: p.Start}, {Plan: "total", Version: 2, Book: strings.Repeat(impl.ChainWrite(book), 300000), Body: p.Start}} {
		if s, ok := impl.FoldLoad(book, p, x); ok || !sameSum(s, foldSum{}) {
			t.Error("loaded")
		}
		if s, how := impl.FoldFrom(book, p, x, nil); how != impl.FromStart || sumText(s) != "at 0, 0 missed, {n:0}" {
			t.Error(how)
		}
	}
	if s, how := impl.FoldFrom(book, p, foldSnap{}, make([]record, 3000000)); how != impl.FromNowhere || !sameSum(s, foldSum{}) {
		t.Error(how)
	}
}

// Nothing is written into an argument or behind its end, and every answer is new memory.
func TestFoldSnapMemory(t *testing.T) {
	plain := bookOf(t, "type a\nversion {l:[text]}\n")
	for _, lines := range []string{"state {l:[text]}\nsave old\nlift old\nstate {l:[text]}\n", "state {first:[text],second:[text]}\nsave form first get l old second get l old end\nlift form l get first old end\nstate {l:[text]}\n", "state {o:{l:[text]}}\nsave form o old end\nlift get o old\nstate {l:[text]}\n"} {
		book, p := roomy(plain), roomy(foldOf(t, plain, "fold names\n"+lines+"start {l:[\"start\"]}\non a new\n"))
		s := roomy(foldSum{At: 1, State: readTree(t, `{l:["first","second"]}`)})
		list := roomy([]record{recordAt(t, 1, "keya", `a@1{l:["third"]}`), recordAt(t, 2, "keyb", `a@1{l:["fourth","fifth"]}`)})
		for version := 1; version <= 2; version++ {
			x, ok := impl.FoldSave(book, p, s, version)
			if !ok {
				t.Fatal(lines)
			}
			x = roomy(x)
			wantMemory(t, "FoldSave", func() any { x, _ := impl.FoldSave(book, p, s, version); return x }, book, p, s)
			wantMemory(t, "FoldLoad", func() any { s, _ := impl.FoldLoad(book, p, x); return s }, book, p, x)
			for _, list := range [][]record{list, list[:0], list[1:]} {
				wantMemory(t, "FoldFrom", func() any {
					s, how := impl.FoldFrom(book, p, x, list)
					if how != impl.FromSnap {
						t.Error(how)
					}
					return s
				}, book, p, x, list)
				wantMemory(t, "FoldFrom the start", func() any { s, _ := impl.FoldFrom(book, p, foldSnap{}, list); return s }, book, p, list)
			}
		}
	}
}
