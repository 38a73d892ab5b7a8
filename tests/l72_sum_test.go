package tests

import (
	"fmt"
	"math"
	"math/rand"
	"slices"
	"strings"
	"testing"

	"loop.example/teagle/impl"
)

type foldSum = impl.FoldSum

func sameSum(a, b foldSum) bool {
	return a.At == b.At && a.Missed == b.Missed && sameTree(a.State, b.State)
}

func sumText(s foldSum) string {
	return fmt.Sprintf("at %d, %d missed, %s", s.At, s.Missed, impl.TreeWrite(s.State))
}

// toldFolded is by itself the sum behind a record that is given.
func toldFolded(p foldPlan, s foldSum, r record) foldSum {
	for _, e := range r.Events {
		at := slices.IndexFunc(p.Steps, func(step foldStep) bool { return step.Type == e.Type })
		if at < 0 {
			continue
		}
		state, code := toldEval([]liftBound{{Name: "old", Tree: s.State}, {Name: "new", Tree: e.Body}}, p.Steps[at].Do)
		switch {
		case code == 0:
			s.State = state
		case s.Missed < 1000000:
			s.Missed++
		}
	}
	s.At = r.Pos
	return s
}

// toldSumOk says by itself whether a sum may be folded on.
func toldSumOk(p foldPlan, s foldSum) bool {
	return s.At >= 0 && s.At <= 999999 && s.Missed >= 0 && s.Missed <= 1000000 && okTree(s.State) && isOf(p.States[len(p.States)-1].Kind, s.State)
}

// toldOn is by itself what comes of a record that is given.
func toldOn(book []chainType, p foldPlan, s foldSum, r record) (foldSum, bool) {
	if toldFold(book, p).Code != 0 || !toldSumOk(p, s) || r.Pos < 1 || r.Pos > 999999 || !okNames([]string{r.Key}) || len(r.Events) == 0 || len(r.Events) > 16000 || r.Pos <= s.At {
		return foldSum{}, false
	}
	for _, e := range r.Events {
		at := slices.IndexFunc(book, func(c chainType) bool { return c.Name == e.Type })
		if at < 0 || e.Version != len(book[at].Versions) || !okTree(e.Body) || !isOf(book[at].Versions[e.Version-1].Kind, e.Body) {
			return foldSum{}, false
		}
	}
	return toldFolded(p, s, r), true
}

// toldAll is by itself what comes of records.
func toldAll(book []chainType, p foldPlan, list []record) (foldSum, bool) {
	d := toldReplay(book, list, 0, nil)
	if toldFold(book, p).Code != 0 || !d.Ok {
		return foldSum{}, false
	}
	s := foldSum{State: p.Start}
	for _, r := range d.Given {
		s = toldFolded(p, s, r)
	}
	return s, true
}

// wantOn: a record is folded to what the tests themselves tell.
func wantOn(t *testing.T, book []chainType, p foldPlan, s foldSum, r record) (foldSum, bool) {
	t.Helper()
	got, ok := impl.FoldOn(book, p, s, r)
	if told, toldOk := toldOn(book, p, s, r); ok != toldOk || !sameSum(got, told) {
		t.Errorf("%s, and %.200s: %v %s, but the tests tell %v %s", sumText(s), recordText(r), ok, sumText(got), toldOk, sumText(told))
	}
	return got, ok
}

// wantAll: records are folded to what the tests themselves tell; P70, P73 and P74 hold.
func wantAll(t *testing.T, book []chainType, p foldPlan, list []record) foldSum {
	t.Helper()
	all, ok := impl.FoldAll(book, p, list)
	if told, toldOk := toldAll(book, p, list); ok != toldOk || !sameSum(all, told) {
		t.Errorf("%v %s, but the tests tell %v %s", ok, sumText(all), toldOk, sumText(told))
	}
	if !ok {
		if !sameSum(all, foldSum{}) {
			t.Errorf("nothing, but %s", sumText(all))
		}
		return all
	}
	given := impl.DeadReplay(book, list, impl.HoldAlone, nil).Given
	s, ok := impl.FoldStart(book, p)
	if !ok || !sameSum(s, foldSum{State: p.Start}) {
		t.Errorf("begun with %v %s", ok, sumText(s))
	}
	events, newest := 0, p.States[len(p.States)-1].Kind
	for _, r := range given {
		events += len(r.Events)
		next, ok := wantOn(t, book, p, s, r)
		if !ok || next.At != r.Pos || next.Missed < s.Missed || next.Missed > events || !impl.KindHas(newest, next.State) {
			t.Errorf("%.200s: %v %s", recordText(r), ok, sumText(next))
		}
		s = next
	}
	if !sameSum(s, all) {
		t.Errorf("one by one %s, at once %s", sumText(s), sumText(all))
	}
	return all
}

// wantSum: records of lines are folded to just this.
func wantSum(t *testing.T, book []chainType, p foldPlan, lines, wanted string) {
	t.Helper()
	if s := wantAll(t, book, p, recordsOf(t, lines)); sumText(s) != wanted {
		t.Errorf("%s: %s, wanted %s", lines, sumText(s), wanted)
	}
}

// P70, P73: ordinary folds and records whose sums are known; the document's own.
func TestFoldSumOrdinary(t *testing.T) {
	book := bookOf(t, totalBook)
	total := foldOf(t, book, totalLines)
	wantSum(t, book, total, "1 x a@2{n:4}\n2 x a@2{n:3}", "at 2, 0 missed, {n:7}")
	wantSum(t, book, total, "1 x a@1{n:3}\n2 x a@1{n:4}", "at 2, 0 missed, {n:7}")
	wantSum(t, book, total, "", "at 0, 0 missed, {n:0}")
	// What is dead, and what has no step: the position is that of the last record that is given.
	wantSum(t, book, total, "1 x a@1{n:3}\n2 x a@1{n:0}\n4 y b@1{}\n5 x a@2{n:999999999}\n7 x a@1{n:4}\n9 x a@1{n:0}", "at 7, 1 missed, {n:7}")
	wantSum(t, book, total, "3 x a@1{n:0}\n4 x c@1{}\n5 x b@1{n:1}", "at 0, 0 missed, {n:0}")
	wantSum(t, book, total, "3 x b@1{}", "at 3, 0 missed, {n:0}")
	wantSum(t, book, total, "999999 x a@2{n:-5}", "at 999999, 0 missed, {n:-5}")
	// By HoldAlone none is parked behind a dead one of its key.
	wantSum(t, book, total, "1 x a@1{n:0}\n2 x a@1{n:6}\n3 x a@1{n:0}\n4 x a@1{n:1}", "at 4, 0 missed, {n:14}")
	drops := bookOf(t, dropLines)
	wantSum(t, drops, total, "1 x a@1{n:3}\n2 x a@1{n:-1}\n3 x a@1{n:200}", "at 1, 0 missed, {n:4}")
	wantSum(t, drops, total, "1 x a@1{n:-1}\n2 x a@1{n:-1}", "at 0, 0 missed, {n:0}")
	wantSum(t, drops, total, "1 x a@1{n:-1} a@1{n:3} b@1{} a@1{n:4}\n2 x a@1{n:-1}", "at 1, 0 missed, {n:7}")
	both := foldOf(t, drops, "fold both\nstate {a:num,b:num,l:[num]}\nstart {a:0,b:0,l:[]}\non b put b old add get b old 1\non a form a add get a old 1 b get b old l join get l old one get n new end\n")
	wantSum(t, drops, both, "1 x a@1{n:3} b@1{} b@1{}\n2 y b@1{}\n3 z a@2{n:9} a@1{n:-1} a@1{n:12}", "at 3, 0 missed, {a:3,b:3,l:[4,9,1]}")
}

// P74: an event that cannot be folded changes nothing, but is counted; one without a step is not.
func TestFoldSumMissed(t *testing.T) {
	book := bookOf(t, "type a\nversion {n:num}\ntype b\nversion {}\ntype c\nversion {n:num}\n")
	p := foldOf(t, book, "fold x\nstate {l:[num],n:num}\nstart {l:[],n:0}\non a form l join get l old one get n new n div 12 get n new end\non c put n old add get n old get n new\n")
	for _, row := range [][2]string{
		{"1 x b@1{} a@1{n:3}", "at 1, 0 missed, {l:[3],n:4}"}, {"1 x a@1{n:3} b@1{} a@1{n:4}", "at 1, 0 missed, {l:[3,4],n:3}"}, {"1 x a@1{n:3} b@1{}", "at 1, 0 missed, {l:[3],n:4}"}, {"1 x b@1{}", "at 1, 0 missed, {l:[],n:0}"},
		{"1 x a@1{n:0} a@1{n:3}", "at 1, 1 missed, {l:[3],n:4}"}, {"1 x a@1{n:3} a@1{n:0} a@1{n:4}", "at 1, 1 missed, {l:[3,4],n:3}"}, {"1 x a@1{n:3} a@1{n:0}", "at 1, 1 missed, {l:[3],n:4}"}, {"1 x a@1{n:0}", "at 1, 1 missed, {l:[],n:0}"}, {"1 x a@1{n:0} a@1{n:0} b@1{} a@1{n:0}\n7 x a@1{n:0}", "at 7, 4 missed, {l:[],n:0}"},
		{"1 x c@1{n:999999999}\n2 x c@1{n:1}\n3 x c@1{n:-1}", "at 3, 1 missed, {l:[],n:999999998}"},
	} {
		wantSum(t, book, p, row[0], row[1])
	}
	// Each code with which a value can stop.
	for do, code := range map[string]int{
		"put n old add 999999999 get n new": impl.StopOver, "put n old mul get n new 999999999": impl.StopOver, "put n old div 1 sub get n new get n new": impl.StopZero, "put n old rem 1 0": impl.StopZero,
		"put n old at empty num 0": impl.StopIndex, "put n old size part get l old get n new 0": impl.StopIndex, "put n old size join get l old one 1": impl.StopBig, "put n old size join \"" + strings.Repeat("q", 60) + "\" show get n new": impl.StopBig,
	} {
		p := foldOf(t, book, "fold x\nstate {l:[num],n:num}\nstart {l:["+strings.Repeat("1,", 19)+"1],n:5}\non a "+do+"\n")
		s, _ := impl.FoldStart(book, p)
		next, ok := wantOn(t, book, p, s, recordAt(t, 4, "x", "b@1{}", "a@1{n:7}", "c@1{n:1}"))
		_, stops := impl.LiftEval([]liftBound{aBound("old", s.State), aBound("new", form("n", num(7)))}, p.Steps[0].Do)
		if s.At, s.Missed = 4, 1; !ok || !sameSum(next, s) || stops != code {
			t.Errorf("%s: %s, code %d", do, sumText(next), stops)
		}
	}
	// At FoldMaxMissed it stays there.
	missed := recordAt(t, 9, "x", "a@1{n:0}", "a@1{n:3}", "a@1{n:0}")
	for _, row := range [][2]int{{0, 2}, {5, 7}, {impl.FoldMaxMissed - 3, impl.FoldMaxMissed - 1}, {impl.FoldMaxMissed - 2, impl.FoldMaxMissed}, {impl.FoldMaxMissed - 1, impl.FoldMaxMissed}, {impl.FoldMaxMissed, impl.FoldMaxMissed}} {
		s := foldSum{At: 8, Missed: row[0], State: p.Start}
		if next, ok := wantOn(t, book, p, s, missed); !ok || sumText(next) != fmt.Sprintf("at 9, %d missed, {l:[3],n:4}", row[1]) {
			t.Errorf("%d missed: %s", row[0], sumText(next))
		}
	}
}

// Each reason for which nothing comes of a record, by itself, and the edges of positions and counts.
func TestFoldSumNothing(t *testing.T) {
	book := bookOf(t, totalBook)
	p := foldOf(t, book, totalLines)
	fine := recordAt(t, 5, "x", "a@2{n:1}")
	sum := func(at, missed int) foldSum { return foldSum{At: at, Missed: missed, State: form("n", num(3))} }
	want := func(what string, ok bool, s foldSum, r record) {
		t.Helper()
		got, is := wantOn(t, book, p, s, r)
		if is != ok || !ok && !sameSum(got, foldSum{}) {
			t.Errorf("%s: %v %s", what, is, sumText(got))
		}
	}
	at := func(pos int) record { return record{Pos: pos, Key: fine.Key, Events: fine.Events} }
	for _, pos := range []int{1, 2, 999998, 999999} {
		want("just above", true, sum(pos-1, 0), at(pos))
		want("itself", false, sum(pos, 0), at(pos))
		want("below", false, sum(pos+1, 0), at(pos))
		want("from 0 on", true, sum(0, 0), at(pos))
	}
	for _, pos := range []int{0, -1, 1000000, math.MaxInt, math.MinInt} {
		want("no position", false, sum(0, 0), at(pos))
		want("no position, far below", false, sum(math.MinInt, 0), at(pos))
	}
	for _, n := range []int{-1, math.MinInt, 1000000, math.MaxInt} {
		want("no such sum", false, sum(n, 0), at(999999))
		want("no such sum", false, sum(n, 0), at(5))
	}
	for _, missed := range []int{-1, math.MinInt, impl.FoldMaxMissed + 1, math.MaxInt} {
		want("missed", false, sum(0, missed), fine)
	}
	for _, missed := range []int{0, 1, impl.FoldMaxMissed} {
		want("missed", true, sum(0, missed), fine)
	}
	for _, x := range []tree{{}, num(1), form(""), form("n", text("1")), form("t", text("1")), form("n t", num(1), num(1)), form("n", num(1000000000)), form("n", maybe(num(1)))} {
		want("no such state", false, foldSum{State: x}, fine)
	}
	for _, key := range []string{"", "X", "ninebytes", "a b"} {
		want("no key", false, sum(0, 0), record{Pos: 5, Key: key, Events: fine.Events})
	}
	for _, s := range []string{"a@1{n:1}", "a@3{n:1}", "b@2{}", "c@1{}", "a@2{}", "a@2{n:yes}", "a@2{m:1}", "b@1{n:1}"} {
		want("no such event", false, sum(0, 0), recordAt(t, 5, "x", s))
		want("no such event at the end", false, sum(0, 0), recordAt(t, 5, "x", "a@2{n:1}", "b@1{}", s))
	}
	want("an event that is nothing", false, sum(0, 0), record{Pos: 5, Key: "x", Events: []event{{}}})
	want("no events", false, sum(0, 0), record{Pos: 5, Key: "x"})
	want("nothing", false, foldSum{}, record{})
	many := func(n int) record { return record{Pos: 5, Key: "x", Events: slices.Repeat(fine.Events, n)} }
	want("a record that is not ok as one, but is given", true, sum(0, 0), many(impl.RecMaxEvents+1))
	for n, ok := range map[int]bool{impl.RecMaxEvents*impl.ChainMaxFan - 1: true, impl.RecMaxEvents * impl.ChainMaxFan: true, impl.RecMaxEvents*impl.ChainMaxFan + 1: false} {
		got, is := impl.FoldOn(book, p, sum(0, 0), many(n))
		if is != ok || ok && got.State.Kids[0].Num != n+3 || !ok && !sameSum(got, foldSum{}) {
			t.Errorf("%d events: %v %s", n, is, sumText(got))
		}
	}
	// Folds and books that are not ok; lists that are not such as are replayed.
	bads := []foldPlan{{}, {Name: "x"}, copyFold(p), copyFold(p), copyFold(p), copyFold(p)}
	bads[2].Start = form("")
	bads[3].Steps[0].Do = nName("new2")
	bads[4].States[1].Save = nName("old")
	bads[5].States[0].Lift = nName("old")
	list := recordsOf(t, "1 x a@1{n:3}")
	nothing := func(what string, book []chainType, p foldPlan) {
		t.Helper()
		if s, ok := impl.FoldStart(book, p); ok || !sameSum(s, foldSum{}) {
			t.Errorf("%s: begun with %s", what, sumText(s))
		}
		if s, ok := wantOn(t, book, p, sum(0, 0), fine); ok || !sameSum(s, foldSum{}) {
			t.Errorf("%s: on with %s", what, sumText(s))
		}
		if s := wantAll(t, book, p, list); !sameSum(s, foldSum{}) {
			t.Errorf("%s: all is %s", what, sumText(s))
		}
	}
	for _, bad := range bads {
		nothing("a fold that is not ok", book, bad)
	}
	nothing("a book that is not ok", []chainType{{}}, p)
	nothing("another book", bookOf(t, "type b\nversion {}\n"), p)
	for what, list := range map[string][]record{"a record that is not ok": {{}}, "positions that do not rise": {list[0], list[0]}, "too many": manyRecords(t, 201), "too many events": {many(impl.RecMaxEvents + 1)}} {
		if s := wantAll(t, book, p, list); !sameSum(s, foldSum{}) {
			t.Errorf("%s: %s", what, sumText(s))
		}
	}
	if s := wantAll(t, book, p, manyRecords(t, impl.DeadMaxRecords)); sumText(s) != "at 200, 0 missed, {n:800}" {
		t.Errorf("%s", sumText(s))
	}
}

// P70, P73, P74: many folds and records by chance.
func TestFoldSumMany(t *testing.T) {
	t.Parallel()
	r := rand.New(rand.NewSource(72))
	folded, missed, changed := 0, 0, 0
	for range 60 {
		states := grownBooks(t, r, 7)
		if len(states) == 0 {
			continue
		}
		book := states[len(states)-1]
		var list []record
		for pos := range 24 {
			if one := chanceRecordOf(t, r, states[r.Intn(len(states))], 1+pos); okRecord(one) {
				list = append(list, one)
			}
		}
		for range 4 {
			p := chanceFold(t, r, book)
			s := wantAll(t, book, p, list)
			if impl.FoldCheck(book, p).Code == 0 {
				folded, missed = folded+1, missed+s.Missed
				if !sameTree(s.State, p.Start) {
					changed++
				}
			}
		}
	}
	if folded < 150 || missed < 100 || changed < 50 {
		t.Errorf("%d folded, %d missed, %d changed", folded, missed, changed)
	}
}

// As much as can come of records; what holds itself, or is far too wide.
func TestFoldSumWithoutEnd(t *testing.T) {
	book := bookOf(t, "type a\nversion {l:[num]}\nlift each x get l old each y get l old emit form n x end\nversion {n:num}\n")
	p := foldOf(t, book, "fold x\nstate {n:num}\nstart {n:0}\non a put n old add get n old get n new\n")
	e := eventOf(t, "a@1{l:"+elements(20)+"}")
	var list []record
	for i := range 20 {
		list = append(list, record{Pos: i + 1, Key: "k", Events: slices.Repeat([]event{e}, 20)})
	}
	wanted := 0
	for _, kid := range e.Body.Kids[0].Kids {
		wanted += kid.Num * 20 * 20 * 20
	}
	if s, ok := impl.FoldAll(book, p, list); !ok || s.State.Kids[0].Num != wanted || s.At != 20 {
		t.Errorf("%v %s, wanted %d", ok, sumText(s), wanted)
	}
	_, _, x := endless()
	fine := recordAt(t, 5, "x", "a@2{n:1}")
	for what, got := range map[string]func() (foldSum, bool){
		"a state that holds itself": func() (foldSum, bool) { return impl.FoldOn(book, p, foldSum{State: x}, fine) },
		"an event that holds itself": func() (foldSum, bool) {
			return impl.FoldOn(book, p, foldSum{State: p.Start}, record{Pos: 5, Key: "x", Events: []event{ev("a", 2, x)}})
		},
		"very many events": func() (foldSum, bool) {
			return impl.FoldOn(book, p, foldSum{State: p.Start}, record{Pos: 5, Key: "x", Events: make([]event, 3000000)})
		},
		"very many records": func() (foldSum, bool) { return impl.FoldAll(book, p, make([]record, 3000000)) },
	} {
		if s, ok := got(); ok || !sameSum(s, foldSum{}) {
			t.Errorf("%s: %s", what, sumText(s))
		}
	}
}

// Nothing is written into an argument or behind its end, and every answer is new memory.
func TestFoldSumMemory(t *testing.T) {
	plain := bookOf(t, `type a
version {t:[text]}
lift emit form long get t old end
version {long:[text]}
`)
	book := roomy(plain)
	list := roomy([]record{recordAt(t, 1, "keya", `a@1{t:["first","second"]}`), recordAt(t, 2, "keyb", `a@2{long:["third"]}`)})
	newest := roomy(recordAt(t, 5, "keya", `a@2{long:["fourth","fifth"]}`))
	for _, do := range []string{"old", "form s get long new end", "form s get s old end", "form s join get s old get long new end", "form s part get long new 0 0 end", "form s one \"sixth\" end", "put s old get long new", "let x new form s get long x end"} {
		p := roomy(foldOf(t, plain, "fold names\nstate {s:[text]}\nstart {s:[\"start\",\"begun\"]}\non a "+do+"\n"))
		s := roomy(foldSum{At: 1, State: readTree(t, `{s:["state"]}`)})
		wantMemory(t, "FoldStart", func() any { s, _ := impl.FoldStart(book, p); return s }, book, p)
		wantMemory(t, "FoldOn", func() any {
			next, ok := impl.FoldOn(book, p, s, newest)
			if !ok {
				t.Error(do)
			}
			return next
		}, book, p, s, newest)
		wantMemory(t, "FoldAll", func() any {
			all, ok := impl.FoldAll(book, p, list)
			if !ok {
				t.Error(do)
			}
			return all
		}, book, p, list)
		wantMemory(t, "FoldAll of none", func() any { all, _ := impl.FoldAll(book, p, nil); return all }, book, p)
	}
}
