package tests

import (
	"fmt"
	"math"
	"math/rand"
	"runtime"
	"slices"
	"testing"

	"loop.example/teagle/impl"
)

type pipeTold = impl.PipeTold

func samePipe(a, b pipeTold) bool {
	return a.Ok == b.Ok && a.Jobs == b.Jobs && a.Steps == b.Steps && a.Ops == b.Ops && sameDead(a.Done, b.Done)
}

func pipeText(p pipeTold) string {
	return fmt.Sprintf("%v, %d jobs, %d steps, %d ops, %.300s", p.Ok, p.Jobs, p.Steps, p.Ops, deadText(p.Done))
}

// toldPipe is by itself what a crew whose moves are picked gives of records.
func toldPipe(book []chainType, list []record, hold, workers, window int, picks []int, cancel int) pipeTold {
	if !toldReplay(book, list, hold, nil).Ok || len(list) > 60 {
		return pipeTold{}
	}
	var jobs []crewJob
	for _, r := range list {
		jobs = append(jobs, crewJob{Bad: toldRecLift(book, r).Code})
	}
	told := toldPlay(jobs, workers, window, picks, cancel)
	if !told.Ok {
		return pipeTold{}
	}
	return pipeTold{Ok: true, Jobs: told.Jobs, Steps: told.Steps, Ops: told.Ops, Done: toldReplay(book, list[:told.Jobs], hold, nil)}
}

// wantPipe is P83: what a crew gives of records is what the tests themselves tell, and what DeadReplay tells of the first so many.
func wantPipe(t *testing.T, book []chainType, list []record, hold, workers, window int, picks []int, cancel int) pipeTold {
	t.Helper()
	got := impl.PipePlay(book, list, hold, workers, window, picks, cancel)
	if told := toldPipe(book, list, hold, workers, window, picks, cancel); !samePipe(got, told) {
		t.Errorf("%d workers, window %d, stopped at %d: %s, but the tests tell %s", workers, window, cancel, pipeText(got), pipeText(told))
	}
	if !got.Ok {
		if !samePipe(got, pipeTold{}) {
			t.Errorf("nothing, but %s", pipeText(got))
		}
		return got
	}
	if !sameDead(got.Done, impl.DeadReplay(book, list[:got.Jobs], hold, nil)) {
		t.Errorf("%s is not what the first %d records give", pipeText(got), got.Jobs)
	}
	all := 11*len(list) + workers + 6
	if cancel < 0 || cancel >= all {
		if got.Jobs != len(list) || got.Steps != all {
			t.Errorf("%d of %d jobs, %d of %d steps", got.Jobs, len(list), got.Steps, all)
		}
	}
	return got
}

// wantPipeRun is P83: by goroutines records give what DeadReplay tells.
func wantPipeRun(t *testing.T, book []chainType, list []record, hold, workers, window int) {
	t.Helper()
	wanted := pipeTold{}
	if d := impl.DeadReplay(book, list, hold, nil); d.Ok && len(list) <= 60 && workers >= 1 && workers <= 8 && window >= 1 && window <= 16 {
		wanted = pipeTold{Ok: true, Jobs: len(list), Done: d}
	}
	if got := impl.PipeRun(book, list, hold, workers, window); !samePipe(got, wanted) {
		t.Errorf("%d workers, window %d: %s, wanted %s", workers, window, pipeText(got), pipeText(wanted))
	}
}

// pipeRecords are records some of which stop, or give nothing.
func pipeRecords(t *testing.T) []record {
	return recordsOf(t, `
1 x a@1{n:0}
2 z a@1{n:3} b@1{}
3 x a@1{n:200}
4 x a@1{n:-1}
7 y c@1{}
8 y a@1{n:4}
9 z b@1{n:1}
12 w a@2{n:1} a@1{n:-5} a@1{n:4}
20 z a@1{n:-9}
21 v a@1{n:0}`)
}

// P83: ordinary records by each number of workers and each window, with different picks.
func TestPipeOrdinary(t *testing.T) {
	book := bookOf(t, dropLines)
	list := pipeRecords(t)
	for _, hold := range []int{impl.HoldAlone, impl.HoldKey} {
		wanted := impl.DeadBoard(toldReplay(book, list, hold, nil))
		for workers := 1; workers <= 8; workers++ {
			for window := 1; window <= 16; window++ {
				wantPipeRun(t, book, list, hold, workers, window)
				for _, picks := range [][]int{nil, {1}, {-1, 7}, {3, 1, 4, 1, 5, 9, 2, 6}}[window%4:][:1] {
					if p := wantPipe(t, book, list, hold, workers, window, picks, -1); impl.DeadBoard(p.Done) != wanted {
						t.Errorf("%s", pipeText(p))
					}
				}
			}
		}
	}
	// The document's example of replays.
	book, list = bookOf(t, divLines), recordsOf(t, "1 x a@1{n:3}\n2 x a@1{n:0}\n3 y a@1{n:4}\n4 x a@1{n:6}")
	p := wantPipe(t, book, list, impl.HoldKey, 2, 2, nil, -1)
	if wantPipeRun(t, book, list, impl.HoldKey, 2, 2); p.Steps != 52 || impl.DeadBoard(p.Done) != "1 x a@2{n:4}\n3 y a@2{n:3}\n2 x dead 2 0 a@1\n4 x dead 10 behind 2\nheld x behind 2\n" {
		t.Errorf("%s", pipeText(p))
	}
}

// The user stops: below 0, at each step, at the last, beyond; picks of each sort.
func TestPipeCancel(t *testing.T) {
	book := bookOf(t, dropLines)
	list := pipeRecords(t)
	seen := map[int]int{}
	for _, sizes := range [][2]int{{1, 1}, {2, 3}, {8, 16}, {3, 1}} {
		all := 11*len(list) + sizes[0] + 6
		for cancel := -2; cancel <= all+2; cancel++ {
			for _, picks := range [][]int{nil, {-1}, {5, -3, 8, 2}} {
				p := wantPipe(t, book, list, cancel&1, sizes[0], sizes[1], picks, cancel)
				seen[p.Jobs]++
				if cancel == 0 && (p.Jobs != 0 || !p.Done.Ok || len(p.Done.Given)+len(p.Done.Dead)+len(p.Done.Held) != 0) {
					t.Errorf("%s", pipeText(p))
				}
			}
		}
		for _, cancel := range []int{math.MinInt, math.MaxInt} {
			wantPipe(t, book, list, impl.HoldKey, sizes[0], sizes[1], nil, cancel)
		}
	}
	for jobs := range len(list) + 1 {
		if seen[jobs] == 0 {
			t.Errorf("the user never got just %d", jobs)
		}
	}
	for _, picks := range [][]int{slices.Repeat([]int{3, -5, 7}, 666), make([]int, impl.CrewMaxPicks), slices.Repeat([]int{math.MinInt, math.MaxInt}, 1000)} {
		if p := wantPipe(t, book, list, impl.HoldKey, 3, 2, picks, -1); !p.Ok {
			t.Error("nothing")
		}
	}
	if p := wantPipe(t, book, list, impl.HoldKey, 3, 2, make([]int, impl.CrewMaxPicks+1), -1); p.Ok {
		t.Error("too many picks")
	}
}

// The edges: no records, as many as there may be, and one more; records that stop at the first, a middle and the last place; and each reason for which nothing is told.
func TestPipeBounds(t *testing.T) {
	book := bookOf(t, divLines)
	both := func(book []chainType, list []record, hold, workers, window int) pipeTold {
		t.Helper()
		wantPipeRun(t, book, list, hold, workers, window)
		return wantPipe(t, book, list, hold, workers, window, []int{2, 9, -4}, -1)
	}
	for _, n := range []int{0, 1, 2, 59, impl.CrewMaxJobs} {
		for _, sizes := range [][2]int{{1, 1}, {8, 16}, {3, 4}} {
			if p := both(book, manyRecords(t, n), n&1, sizes[0], sizes[1]); !p.Ok || p.Jobs != n || len(p.Done.Given) != n {
				t.Errorf("%d records: %s", n, pipeText(p))
			}
		}
	}
	if p := both(nil, nil, 0, 1, 1); !p.Ok || p.Steps != 7 || p.Ops != 6 {
		t.Errorf("%s", pipeText(p))
	}
	for _, n := range []int{61, 200, 201} {
		if p := both(book, manyRecords(t, n), 0, 2, 2); p.Ok {
			t.Errorf("%d records: %s", n, pipeText(p))
		}
	}
	stop := eventOf(t, "a@1{n:0}")
	for _, at := range []int{0, 4, 8} {
		list := manyRecords(t, 9)
		list[at].Events = []event{stop}
		if p := both(book, list, impl.HoldKey, 3, 2); len(p.Done.Dead) == 0 || p.Done.Dead[0].Pos != at+1 {
			t.Errorf("%s", pipeText(p))
		}
	}
	all := manyRecords(t, 9)
	for i := range all {
		all[i].Events = []event{stop}
	}
	if p := both(book, all, impl.HoldAlone, 3, 2); len(p.Done.Dead) != 9 {
		t.Errorf("%s", pipeText(p))
	}
	list := manyRecords(t, 5)
	nothing := func(what string, book []chainType, list []record, hold, workers, window int) {
		t.Helper()
		if p := both(book, list, hold, workers, window); p.Ok {
			t.Errorf("%s: %s", what, pipeText(p))
		}
	}
	for _, s := range spoilings(t)[:20] {
		nothing("a book that is not ok", s.spoil(copyBook(goodBook(t))), list, 0, 2, 2)
	}
	for _, at := range []int{0, 2, 4} {
		for what, change := range map[string]func(r *record){"no events": func(r *record) { r.Events = nil }, "no key": func(r *record) { r.Key = "" }, "no position": func(r *record) { r.Pos = 0 }, "a great position": func(r *record) { r.Pos = 1000000 }, "an event that is not ok": func(r *record) { r.Events = []event{{}} }, "a position twice": func(r *record) { r.Pos = list[(at+1)%5].Pos }} {
			bad := slices.Clone(list)
			change(&bad[at])
			nothing(what, book, bad, 0, 2, 2)
		}
	}
	for _, hold := range []int{-1, 2, math.MaxInt, math.MinInt} {
		nothing("hold", book, list, hold, 2, 2)
		nothing("hold, no records", book, nil, hold, 2, 2)
	}
	for _, sizes := range [][2]int{{0, 1}, {9, 1}, {-1, 1}, {1, 0}, {1, 17}, {1, -1}, {math.MaxInt, 1}, {1, math.MaxInt}, {math.MinInt, 1}, {1, math.MinInt}} {
		nothing("sizes", book, list, 0, sizes[0], sizes[1])
		nothing("sizes, no records", book, nil, 0, sizes[0], sizes[1])
	}
	for what, list := range map[string][]record{"very many records": make([]record, 3000000), "very many events": {{Pos: 1, Key: "k", Events: make([]event, 3000000)}}} {
		if impl.PipeRun(book, list, 0, 2, 2).Ok || impl.PipePlay(book, list, 0, 2, 2, nil, -1).Ok {
			t.Error(what)
		}
	}
}

// P83: many books and records by chance.
func TestPipeMany(t *testing.T) {
	t.Parallel()
	r := rand.New(rand.NewSource(83))
	for range 25 {
		states := grownBooks(t, r, 6)
		if len(states) == 0 {
			continue
		}
		var list []record
		for pos := range r.Intn(40) {
			if one := chanceRecordOf(t, r, states[r.Intn(len(states))], 1+pos); okRecord(one) {
				list = append(list, one)
			}
		}
		book := states[len(states)-1]
		for range 3 {
			workers, window, hold := 1+r.Intn(8), 1+r.Intn(16), r.Intn(2)
			var picks []int
			for range r.Intn(30) {
				picks = append(picks, int(r.Uint64()>>r.Intn(64)))
			}
			wantPipe(t, book, list, hold, workers, window, picks, []int{-1, r.Intn(11*len(list) + 20)}[r.Intn(2)])
			wantPipeRun(t, book, list, hold, workers, window)
		}
	}
}

// P83: goroutines always tell the same, and none is left when they have told.
func TestPipeRunAgain(t *testing.T) {
	before := runtime.NumGoroutine()
	book := bookOf(t, dropLines)
	list := pipeRecords(t)
	for i := range 600 {
		wantPipeRun(t, book, list, i%2, 1+i%8, 1+i%16)
		impl.PipeRun(book, list, i%2, 9, 1)
		impl.PipeRun(book, append(list, record{}), i%2, 1, 1)
	}
	sideBySide(8, 60, func(i int) { wantPipeRun(t, book, list, i%2, 1+i%8, 1+i%16) })
	wantNoneLeft(t, before)
}

// Nothing is written into an argument or behind its end, and every answer is new memory.
func TestPipeMemory(t *testing.T) {
	book := roomy(bookOf(t, theExample+"type dead\nversion {s:text}\nlift fail 3\nversion {s:text}\n"))
	list := roomy(recordsOf(t, `
1 keya order@1{items:[4,9],who:"someone"}
2 keyb dead@1{s:"a-text-of-the-dead"}
3 keyc audit@1{who:"another"}
4 keyd unknown@1{s:"text"}
5 keyb order@3{id:1,tag:?"newest"}`))
	picks := roomy([]int{5, 3, 8})
	for _, hold := range []int{impl.HoldAlone, impl.HoldKey} {
		wantMemory(t, "PipeRun", func() any { return impl.PipeRun(book, list, hold, 3, 2) }, book, list)
		for _, cancel := range []int{-1, 30} {
			wantMemory(t, "PipePlay", func() any { return impl.PipePlay(book, list, hold, 3, 2, picks, cancel) }, book, list, picks)
		}
	}
}
