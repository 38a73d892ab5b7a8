package tests

import (
	"fmt"
	"math"
	"math/rand"
	"slices"
	"testing"

	"loop.example/teagle/impl"
)

type crewMove = impl.CrewMove

func move(who, way int) crewMove {
	return crewMove{Who: who, Case: way}
}

// tableRow is a row of the document's table: when it is ready, what it does, and whether it is a use.
type tableRow struct {
	ready func(w crewWorld, at int) bool
	does  func(w *crewWorld, at int)
	use   bool
}

func always(w crewWorld, at int) bool {
	return true
}

func isStopped(w crewWorld, at int) bool {
	return w.Shut[3] == 1
}

// The rows of the table by the states of each of the crew; at is the place of a worker's hand.
var (
	readerTable = [][]tableRow{
		impl.ReadRoom: {
			{func(w crewWorld, at int) bool { return w.Room != 0 && w.Next != w.Jobs }, func(w *crewWorld, at int) { w.Room--; w.Next++; w.Reader = 1 }, true},
			{func(w crewWorld, at int) bool { return w.Shut[3] == 1 && w.Next != w.Jobs }, func(w *crewWorld, at int) { w.Reader = 2 }, false},
			{func(w crewWorld, at int) bool { return w.Next == w.Jobs }, func(w *crewWorld, at int) { w.Reader = 2 }, false},
		},
		impl.ReadSend: {
			{func(w crewWorld, at int) bool { return len(w.Queue) < w.Workers }, func(w *crewWorld, at int) { w.Queue = append(w.Queue, w.Next-1); w.Reader = 0 }, true},
			{isStopped, func(w *crewWorld, at int) { w.Reader = 2 }, false},
		},
		impl.ReadClose: {{always, func(w *crewWorld, at int) { w.Shut[0]++; w.Reader = 3 }, true}},
		impl.ReadEnded: {},
	}
	workerTable = [][]tableRow{
		impl.WorkTake: {
			{func(w crewWorld, at int) bool { return len(w.Queue) > 0 }, func(w *crewWorld, at int) { w.Hands[at] = hand(1, w.Queue[0]); w.Queue = w.Queue[1:] }, true},
			{isStopped, func(w *crewWorld, at int) { w.Hands[at].State = 3 }, false},
			{func(w crewWorld, at int) bool { return len(w.Queue) == 0 && w.Shut[0] == 1 }, func(w *crewWorld, at int) { w.Hands[at].State = 3 }, true},
		},
		impl.WorkDo: {{always, func(w *crewWorld, at int) { w.Hands[at].State = 2 }, false}},
		impl.WorkGive: {
			{func(w crewWorld, at int) bool { return len(w.Results) < w.Workers }, func(w *crewWorld, at int) { w.Results = append(w.Results, w.Hands[at].Job); w.Hands[at] = hand(0, 0) }, true},
			{isStopped, func(w *crewWorld, at int) { w.Hands[at] = hand(3, 0) }, false},
		},
		impl.WorkEnded: {},
	}
	closerTable = [][]tableRow{
		impl.CloseWait: {{func(w crewWorld, at int) bool {
			return !slices.ContainsFunc(w.Hands, func(h crewHand) bool { return h.State != 3 })
		}, func(w *crewWorld, at int) { w.Shut[1]++; w.Closer = 1 }, true}},
		impl.CloseEnded: {},
	}
	keeperTable = [][]tableRow{
		impl.KeepTake: {
			{func(w crewWorld, at int) bool { return len(w.Results) > 0 }, func(w *crewWorld, at int) {
				w.Ring[w.Results[0]%w.Window] = w.Results[0]
				w.Results, w.Keeper = w.Results[1:], 1
			}, true},
			{isStopped, func(w *crewWorld, at int) { w.Keeper = 4 }, false},
			{func(w crewWorld, at int) bool { return len(w.Results) == 0 && w.Shut[1] == 1 }, func(w *crewWorld, at int) { w.Keeper = 4 }, true},
		},
		impl.KeepCheck: {{always, func(w *crewWorld, at int) {
			w.Keeper = map[bool]int{true: 2, false: 0}[slices.Contains(w.Ring, w.Due)]
		}, false}},
		impl.KeepGive: {
			{func(w crewWorld, at int) bool { return len(w.Out) == 0 }, func(w *crewWorld, at int) {
				w.Ring[slices.Index(w.Ring, w.Due)] = -1
				w.Out = []int{w.Due}
				w.Due++
				w.Keeper = 3
			}, true},
			{isStopped, func(w *crewWorld, at int) { w.Keeper = 4 }, false},
		},
		impl.KeepRoom:  {{always, func(w *crewWorld, at int) { w.Room++; w.Keeper = 1 }, true}},
		impl.KeepClose: {{always, func(w *crewWorld, at int) { w.Shut[2]++; w.Keeper = 5 }, true}},
		impl.KeepEnded: {},
	}
	userTable = [][]tableRow{
		impl.UseTake: {
			{func(w crewWorld, at int) bool { return len(w.Out) > 0 }, func(w *crewWorld, at int) { w.Got, w.Out = append(w.Got, w.Out[0]), nil }, true},
			{func(w crewWorld, at int) bool { return len(w.Out) == 0 && w.Shut[2] == 1 }, func(w *crewWorld, at int) { w.User = 1 }, true},
		},
		impl.UseEnded: {},
	}
)

// rowsOf are the rows of one of the crew in its state.
func rowsOf(w crewWorld, who int) []tableRow {
	switch {
	case who == 0:
		return readerTable[w.Reader]
	case who <= w.Workers:
		return workerTable[w.Hands[who-1].State]
	case who == w.Workers+1:
		return closerTable[w.Closer]
	case who == w.Workers+2:
		return keeperTable[w.Keeper]
	}
	return userTable[w.User]
}

// toldMoves are by itself the moves that are ready.
func toldMoves(w crewWorld) (moves []crewMove) {
	if !toldWorldOk(w) {
		return nil
	}
	for who := range w.Workers + 4 {
		for way, row := range rowsOf(w, who) {
			if row.ready(w, who-1) {
				moves = append(moves, move(who, way))
			}
		}
	}
	return moves
}

// toldMove is by itself the world behind a move that is ready.
func toldMove(w crewWorld, m crewMove) crewWorld {
	w = copyWorld(w)
	row := rowsOf(w, m.Who)[m.Case]
	row.does(&w, m.Who-1)
	if row.use {
		w.Ops++
	}
	return w
}

// wantMoves is P51 and P52: just the moves of the table are ready, each leaves just the world that the table tells, an ok one in which less is left; no other move is done.
func wantMoves(t *testing.T, what string, w crewWorld) []crewMove {
	t.Helper()
	moves := impl.CrewMoves(w)
	told := toldMoves(w)
	if !slices.Equal(moves, told) {
		t.Errorf("%s: %v, but the tests tell %v: %.400s", what, moves, told, worldText(w))
		return told
	}
	if !impl.CrewOk(w) {
		if next, ok := impl.CrewStep(w, move(0, 0)); ok || !sameWorld(next, crewWorld{}) || len(moves) > 0 {
			t.Errorf("%s: it is not ok, but goes on", what)
		}
		return nil
	}
	if (len(moves) == 0) != impl.CrewEnded(w) {
		t.Errorf("%s: %d moves are ready, ended %v: %.400s", what, len(moves), impl.CrewEnded(w), worldText(w))
	}
	for who := -1; who <= w.Workers+4; who++ {
		for way := -1; way <= 3; way++ {
			m := move(who, way)
			next, ok := impl.CrewStep(w, m)
			if ok != slices.Contains(told, m) {
				t.Errorf("%s: %v is done: %v", what, m, ok)
			} else if ok {
				wantMoved(t, what, w, m, next)
			} else if !sameWorld(next, crewWorld{}) {
				t.Errorf("%s: %v is not ready, but leaves %.400s", what, m, worldText(next))
			}
		}
	}
	return told
}

// wantMoved is P52: a move changes only what it must.
func wantMoved(t *testing.T, what string, w crewWorld, m crewMove, next crewWorld) {
	t.Helper()
	if told := toldMove(w, m); !sameWorld(next, told) {
		t.Errorf("%s: %v leaves\n%.400s\nbut the tests tell\n%.400s", what, m, worldText(next), worldText(told))
	}
	if !impl.CrewOk(next) || !toldWorldOk(next) || impl.CrewLeft(next) >= impl.CrewLeft(w) {
		t.Errorf("%s: %v: ok %v, left %d of %d", what, m, impl.CrewOk(next), impl.CrewLeft(next), impl.CrewLeft(w))
	}
	if len(next.Got) < len(w.Got) || len(next.Got) > len(w.Got)+1 || !slices.Equal(next.Got[:len(w.Got)], w.Got) || w.User == 1 && len(next.Got) > len(w.Got) {
		t.Errorf("%s: %v: %v came, then %v", what, m, w.Got, next.Got)
	}
	if next.Next-next.Due > w.Window || next.Ops < w.Ops || next.Ops > w.Ops+1 {
		t.Errorf("%s: %v: %d jobs under way, %d ops", what, m, next.Next-next.Due, next.Ops-w.Ops)
	}
	for channel, who := range []int{0, w.Workers + 1, w.Workers + 2, -1} {
		by := next.Shut[channel] - w.Shut[channel]
		if by < 0 || by > 0 && m.Who != who || next.Shut[channel] > 1 {
			t.Errorf("%s: %v closes the channel %d", what, m, channel)
		}
	}
}

// wantCancel: the user stops, if they have not ended.
func wantCancel(t *testing.T, what string, w crewWorld) crewWorld {
	t.Helper()
	next, ok := impl.CrewCancel(w)
	if !toldWorldOk(w) || w.User == 1 {
		if ok || !sameWorld(next, crewWorld{}) {
			t.Errorf("%s: the user stops: %.400s", what, worldText(next))
		}
		return w
	}
	told := copyWorld(w)
	told.User, told.Shut[3], told.Ops = 1, 1, w.Ops+1
	if !ok || !sameWorld(next, told) || !impl.CrewOk(next) {
		t.Errorf("%s: the user stops: %v\n%.400s\nwanted\n%.400s", what, ok, worldText(next), worldText(told))
	}
	return next
}

// One job by one worker: the moves are known at each step.
func TestMovesKnown(t *testing.T) {
	w, _ := impl.CrewStart(1, 1, 1)
	steps := []struct {
		ready []crewMove
		pick  int
		left  int
		ops   int
	}{
		{[]crewMove{move(0, 0)}, 0, 17, 1},
		{[]crewMove{move(0, 0)}, 0, 16, 2},
		{[]crewMove{move(0, 2), move(1, 0)}, 1, 15, 3},
		{[]crewMove{move(0, 2), move(1, 0)}, 0, 14, 3},
		{[]crewMove{move(0, 0), move(1, 0)}, 0, 13, 4},
		{[]crewMove{move(1, 0)}, 0, 12, 4},
		{[]crewMove{move(1, 0)}, 0, 11, 5},
		{[]crewMove{move(1, 2), move(3, 0)}, 0, 10, 6},
		{[]crewMove{move(2, 0), move(3, 0)}, 1, 9, 7},
		{[]crewMove{move(2, 0), move(3, 0)}, 1, 8, 7},
		{[]crewMove{move(2, 0), move(3, 0)}, 1, 7, 8},
		{[]crewMove{move(2, 0), move(3, 0), move(4, 0)}, 1, 6, 9},
		{[]crewMove{move(2, 0), move(3, 0), move(4, 0)}, 2, 5, 10},
		{[]crewMove{move(2, 0), move(3, 0)}, 1, 4, 10},
		{[]crewMove{move(2, 0)}, 0, 3, 11},
		{[]crewMove{move(3, 2)}, 0, 2, 12},
		{[]crewMove{move(3, 0)}, 0, 1, 13},
		{[]crewMove{move(4, 1)}, 0, 0, 14},
	}
	for i, step := range steps {
		if got := wantMoves(t, fmt.Sprint("step ", i), w); !slices.Equal(got, step.ready) {
			t.Fatalf("step %d: %v, wanted %v", i, got, step.ready)
		}
		next, ok := impl.CrewStep(w, step.ready[step.pick])
		if !ok || impl.CrewLeft(next) != step.left || next.Ops != step.ops {
			t.Fatalf("step %d: %v left %d, ops %d", i, ok, impl.CrewLeft(next), next.Ops)
		}
		w = next
	}
	if !impl.CrewEnded(w) || len(wantMoves(t, "the end", w)) != 0 || !slices.Equal(w.Got, []int{0}) || !slices.Equal(w.Shut, []int{1, 1, 1, 0}) {
		t.Errorf("%s", worldText(w))
	}
}

// wantReady: these moves, and no others, are ready; what the first of them does is as it is told.
func wantReady(t *testing.T, what string, w crewWorld, wanted ...crewMove) {
	t.Helper()
	if !impl.CrewOk(w) {
		t.Errorf("%s: it is not ok: %.400s", what, worldText(w))
		return
	}
	if got := wantMoves(t, what, w); !slices.Equal(got, wanted) {
		t.Errorf("%s: %v, wanted %v", what, got, wanted)
	}
}

// Each row of the table: when it is ready, and when it just is not.
func TestMovesRows(t *testing.T) {
	// In busy the worker 1 does a job, the worker 2 has done one, and the results are full; who is 3 is the closer, 4 the keeper, 5 the user.
	w := busy()
	wantReady(t, "the queue is full, the results are full", w, move(1, 0), move(4, 0), move(5, 0))
	wantReady(t, "the same, stopped", stoppedWorld(), move(0, 1), move(1, 0), move(2, 1), move(4, 0), move(4, 1))
	wider := changed(w, func(w *crewWorld) { w.Workers, w.Hands = 3, append(w.Hands, hand(0, 0)) })
	wantReady(t, "neither is full, one wants a job", wider, move(0, 0), move(1, 0), move(2, 0), move(3, 0), move(5, 0), move(6, 0))
	room := changed(wider, func(w *crewWorld) { w.Reader, w.Queue = 0, []int{8, 9, 10} })
	wantReady(t, "the reader has room", room, move(0, 0), move(1, 0), move(2, 0), move(3, 0), move(5, 0), move(6, 0))
	none := changed(room, func(w *crewWorld) { w.Window, w.Room, w.Ring = 8, 0, []int{-1, -1, -1, -1, 4, -1, -1, -1} })
	wantReady(t, "the reader has no room", none, move(1, 0), move(2, 0), move(3, 0), move(5, 0), move(6, 0))
	last := changed(room, func(w *crewWorld) { w.Jobs = 11 })
	wantReady(t, "all jobs are read", last, move(0, 2), move(1, 0), move(2, 0), move(3, 0), move(5, 0), move(6, 0))
	lastNone := changed(none, func(w *crewWorld) { w.Jobs = 11 })
	wantReady(t, "all jobs are read, no room", lastNone, move(0, 2), move(1, 0), move(2, 0), move(3, 0), move(5, 0), move(6, 0))
	stop := func(w *crewWorld) { w.User, w.Shut[3] = 1, 1 }
	all := []crewMove{move(1, 0), move(2, 0), move(2, 1), move(3, 0), move(3, 1), move(5, 0), move(5, 1)}
	wantReady(t, "stopped, with room", changed(room, stop), append([]crewMove{move(0, 0), move(0, 1)}, all...)...)
	wantReady(t, "stopped, without room", changed(none, stop), append([]crewMove{move(0, 1)}, all...)...)
	wantReady(t, "stopped, all jobs are read", changed(last, stop), append([]crewMove{move(0, 2)}, all...)...)
	wantReady(t, "stopped, all jobs are read, no room", changed(lastNone, stop), append([]crewMove{move(0, 2)}, all...)...)
	wantReady(t, "stopped, the reader sends", changed(wider, stop), append([]crewMove{move(0, 0), move(0, 1)}, all...)...)
	// An empty queue that is open, and closed.
	empty := changed(w, func(w *crewWorld) {
		w.Jobs, w.Next, w.Reader, w.Queue, w.Room, w.Hands[0] = 8, 8, 0, nil, 4, hand(0, 0)
		w.Results, w.Due, w.Got, w.Out, w.Ring[4], w.Ops = []int{7, 5}, 5, []int{0, 1, 2, 3}, []int{4}, -1, 0
		w.Room = 6
	})
	wantReady(t, "an empty queue, open", empty, move(0, 2), move(4, 0), move(5, 0))
	closed := changed(empty, func(w *crewWorld) { w.Reader, w.Shut[0] = 3, 1 })
	wantReady(t, "an empty queue, closed", closed, move(1, 2), move(4, 0), move(5, 0))
	wantReady(t, "an empty queue, closed and stopped", changed(closed, stop), move(1, 1), move(1, 2), move(2, 1), move(4, 0), move(4, 1))
	wantReady(t, "a queue that is not empty, closed", changed(closed, func(w *crewWorld) { w.Queue, w.Hands[1] = []int{6}, hand(0, 0) }), move(1, 0), move(2, 0), move(4, 0), move(5, 0))
	wantReady(t, "the reader is to close", changed(empty, func(w *crewWorld) { w.Reader = 2 }), move(0, 0), move(4, 0), move(5, 0))
	// The closer, and results that are empty: open, and closed.
	ending := changed(endedWorld(), func(w *crewWorld) {
		w.Closer, w.Shut[1], w.Keeper, w.Shut[2], w.User, w.Ops = 0, 0, 0, 0, 0, 0
	})
	wantReady(t, "all workers have ended", ending, move(3, 0))
	wantReady(t, "all but one have", changed(ending, func(w *crewWorld) { w.Hands[0].State = 0 }), move(1, 2))
	wantReady(t, "the last has a job", changed(ending, func(w *crewWorld) { w.Hands[0], w.Due, w.Got, w.Room = hand(1, 2), 2, []int{0, 1}, 3 }), move(1, 0))
	shut := changed(ending, func(w *crewWorld) { w.Closer, w.Shut[1] = 1, 1 })
	wantReady(t, "no results, closed", shut, move(4, 2))
	wantReady(t, "no results, closed and stopped", changed(shut, stop), move(4, 1), move(4, 2))
	wantReady(t, "no results, open and stopped", changed(ending, stop), move(3, 0), move(4, 1))
	wantReady(t, "results, closed", changed(shut, func(w *crewWorld) { w.Results, w.Due, w.Got, w.Room = []int{2}, 2, []int{0, 1}, 3 }), move(4, 0))
	wantReady(t, "the keeper is to close", changed(shut, func(w *crewWorld) { w.Keeper = 4 }), move(4, 0))
	// Out: full and empty, closed and open.
	given := changed(shut, func(w *crewWorld) { w.Keeper, w.Shut[2] = 5, 1 })
	wantReady(t, "Out is empty and closed", given, move(5, 1))
	wantReady(t, "Out is full and closed", changed(given, func(w *crewWorld) { w.Got, w.Out = []int{0, 1}, []int{2} }), move(5, 0))
	wantReady(t, "Out is full and open", changed(shut, func(w *crewWorld) { w.Got, w.Out = []int{0, 1}, []int{2} }), move(4, 2), move(5, 0))
	// The keeper: Due in the ring, and not.
	looks := changed(w, func(w *crewWorld) { w.Keeper = 1 })
	wantReady(t, "the keeper looks", looks, move(1, 0), move(4, 0), move(5, 0))
	if next, _ := impl.CrewStep(looks, move(4, 0)); next.Keeper != impl.KeepTake || next.Ops != looks.Ops {
		t.Errorf("Due is not in the ring: %s", worldText(next))
	}
	has := changed(looks, func(w *crewWorld) { w.Results, w.Ring[3] = []int{5}, 3 })
	if next, _ := impl.CrewStep(has, move(4, 0)); next.Keeper != impl.KeepGive || next.Ops != looks.Ops {
		t.Errorf("Due is in the ring: %s", worldText(next))
	}
	gives := changed(has, func(w *crewWorld) { w.Keeper = 2 })
	wantReady(t, "the keeper is to give, Out is full", gives, move(1, 0), move(2, 0), move(5, 0))
	wantReady(t, "the same, stopped", changed(gives, stop), move(0, 1), move(1, 0), move(2, 0), move(2, 1), move(4, 1))
	free := changed(gives, func(w *crewWorld) { w.Got, w.Out = []int{0, 1, 2}, nil })
	wantReady(t, "the keeper is to give, Out is empty", free, move(1, 0), move(2, 0), move(4, 0))
	wantReady(t, "the same, stopped", changed(free, stop), move(0, 1), move(1, 0), move(2, 0), move(2, 1), move(4, 0), move(4, 1))
	next, _ := impl.CrewStep(free, move(4, 0))
	if !slices.Equal(next.Out, []int{3}) || next.Due != 4 || next.Ring[3] != -1 || next.Keeper != impl.KeepRoom || next.Room != 1 || next.Ops != free.Ops+1 {
		t.Errorf("it is given: %s", worldText(next))
	}
	wantReady(t, "room is to be given back", next, move(1, 0), move(2, 0), move(4, 0), move(5, 0))
	next, _ = impl.CrewStep(next, move(4, 0))
	if next.Room != 2 || next.Keeper != impl.KeepCheck || next.Ops != free.Ops+2 {
		t.Errorf("room is given back: %s", worldText(next))
	}
}

// explored goes through all worlds that can come of a beginning, the user stopping anywhere, and looks at each.
func explored(t *testing.T, jobs, workers, window int) int {
	t.Helper()
	begin, _ := impl.CrewStart(jobs, workers, window)
	seen := map[string]struct{}{worldText(begin): {}}
	todo := []crewWorld{begin}
	for len(todo) > 0 && !t.Failed() {
		w := todo[len(todo)-1]
		todo = todo[:len(todo)-1]
		var next []crewWorld
		for _, m := range wantMoves(t, "explored", w) {
			next = append(next, toldMove(w, m))
		}
		if w.User == 0 {
			next = append(next, wantCancel(t, "explored", w))
		}
		if len(next) == 0 && (!impl.CrewEnded(w) || w.Shut[3] == 0 && len(w.Got) != jobs) {
			t.Errorf("it comes to its end with %v: %s", w.Got, worldText(w))
		}
		for _, x := range next {
			if _, is := seen[worldText(x)]; !is {
				seen[worldText(x)] = struct{}{}
				todo = append(todo, x)
			}
		}
	}
	return len(seen)
}

// P51, P54: in all worlds that can come of small beginnings somebody can go on, until all have ended.
func TestMovesNeverStuck(t *testing.T) {
	t.Parallel()
	for sizes, least := range map[[3]int]int{{0, 1, 1}: 40, {0, 2, 2}: 70, {1, 1, 1}: 400, {1, 2, 1}: 700, {2, 1, 1}: 1000, {2, 1, 2}: 1500, {3, 1, 3}: 3000, {2, 2, 1}: 2000, {2, 2, 2}: 4000} {
		if n := explored(t, sizes[0], sizes[1], sizes[2]); n < least {
			t.Errorf("%v: %d worlds", sizes, n)
		}
	}
}

// P51, P52: worlds written by chance that are ok, and others.
func TestMovesMany(t *testing.T) {
	t.Parallel()
	r := rand.New(rand.NewSource(52))
	counts := map[bool]int{}
	for range 8000 {
		w := chanceWorld(r)
		if r.Intn(4) == 0 {
			spoilWorld(r, &w)
		}
		counts[toldWorldOk(w)]++
		wantMoves(t, "by chance", w)
		wantCancel(t, "by chance", w)
	}
	if counts[true] < 3000 || counts[false] < 1000 {
		t.Errorf("%v", counts)
	}
}

// P53, P54: every world that is ok comes to its end, whatever is picked, within as many steps as are left; if the user did not stop, all jobs have come; behind a stop nothing more comes.
func TestMovesEnd(t *testing.T) {
	r := rand.New(rand.NewSource(521))
	stops := 0
	for i := range 600 {
		var w crewWorld
		if i%3 == 0 {
			w = chanceWorld(r)
		} else {
			w, _ = impl.CrewStart([]int{0, 1, 5, 20, 60}[r.Intn(5)], 1+r.Intn(8), 1+r.Intn(16))
		}
		if !impl.CrewOk(w) {
			continue
		}
		most, steps, cancel := impl.CrewLeft(w), 0, -1
		if r.Intn(2) == 0 {
			cancel = r.Intn(most + 1)
		}
		got := -1
		if w.User == 1 {
			got = len(w.Got)
		}
		style := r.Intn(4)
		for !impl.CrewEnded(w) {
			if steps == cancel && w.User == 0 {
				w = wantCancel(t, "played", w)
				got = len(w.Got)
				stops++
				if impl.CrewEnded(w) {
					break
				}
			}
			moves := impl.CrewMoves(w)
			if len(moves) == 0 || steps > most {
				t.Fatalf("%d moves behind %d steps of %d: %s", len(moves), steps, most, worldText(w))
			}
			at := []int{0, len(moves) - 1, r.Intn(len(moves)), steps % len(moves)}[style]
			next, ok := impl.CrewStep(w, moves[at])
			if !ok {
				t.Fatalf("%v is not done", moves[at])
			}
			if steps%16 == 0 {
				wantMoved(t, "played", w, moves[at], next)
			}
			w = next
			steps++
		}
		if steps > most || got >= 0 && len(w.Got) != got || w.Shut[3] == 0 && len(w.Got) != w.Jobs {
			t.Errorf("%d steps of %d, %d jobs came: %s", steps, most, len(w.Got), worldText(w))
		}
	}
	if stops < 100 {
		t.Errorf("%d stops", stops)
	}
}

// P53: the user stops at each step: nothing more comes, and all others end.
func TestMovesCancel(t *testing.T) {
	for cancel := range 60 {
		for _, last := range []bool{false, true} {
			w, _ := impl.CrewStart(3, 2, 2)
			got := -1
			for step := 0; !impl.CrewEnded(w); step++ {
				if step == cancel && w.User == 0 {
					w = wantCancel(t, "at each step", w)
					got = len(w.Got)
					if impl.CrewEnded(w) {
						break
					}
				}
				moves := wantMoves(t, "at each step", w)
				if len(moves) == 0 {
					t.Fatalf("stuck: %s", worldText(w))
				}
				at := 0
				if last {
					at = len(moves) - 1
				}
				w, _ = impl.CrewStep(w, moves[at])
			}
			if got >= 0 && (len(w.Got) != got || w.Shut[3] != 1) || got < 0 && (len(w.Got) != 3 || w.Shut[3] != 0) {
				t.Errorf("stopped at %d with %d, %d came", cancel, got, len(w.Got))
			}
			wantCancel(t, "at the end", w)
		}
	}
	w := busy()
	next := wantCancel(t, "busy", w)
	wantCancel(t, "twice", next)
	wantCancel(t, "not ok", changed(w, func(w *crewWorld) { w.Room = 5 }))
	wantCancel(t, "nothing", crewWorld{})
	ended := changed(endedWorld(), func(w *crewWorld) { w.User = 0 })
	wantCancel(t, "all others have ended", ended)
	// The last use that there may be.
	w.Ops = 62
	wantCancel(t, "the most ops", w)
}

// Wrong moves, and worlds that are not ok.
func TestMovesWrong(t *testing.T) {
	for _, w := range []crewWorld{busy(), stoppedWorld(), endedWorld()} {
		for _, m := range []crewMove{move(-1, 0), move(6, 0), move(7, 0), move(math.MaxInt, 0), move(math.MinInt, 0), move(0, -1), move(1, 3), move(1, math.MaxInt), move(1, math.MinInt), move(4, 9), move(-1, -1)} {
			if next, ok := impl.CrewStep(w, m); ok || !sameWorld(next, crewWorld{}) {
				t.Errorf("%v is done", m)
			}
		}
	}
	for _, change := range []worldChange{func(w *crewWorld) { w.Room++ }, func(w *crewWorld) { w.Ops = 63 }, func(w *crewWorld) { w.Ring[0] = -2 }, func(w *crewWorld) { w.Hands = nil }, func(w *crewWorld) { w.Shut = nil }, func(w *crewWorld) { w.Queue = make([]int, 3000000) }, func(w *crewWorld) { w.Jobs = math.MaxInt }, func(w *crewWorld) { *w = crewWorld{} }} {
		w := changed(busy(), change)
		if moves := impl.CrewMoves(w); len(moves) != 0 {
			t.Errorf("moves of a world that is not ok: %v", moves)
		}
		for who := range 6 {
			if next, ok := impl.CrewStep(w, move(who, 0)); ok || !sameWorld(next, crewWorld{}) {
				t.Errorf("%d goes on in a world that is not ok", who)
			}
		}
	}
}

// Nothing is written into an argument or behind its end, and every answer is new memory.
func TestMovesMemory(t *testing.T) {
	worlds := []crewWorld{busy(), stoppedWorld(), endedWorld(), changed(busy(), func(w *crewWorld) { w.Got, w.Out = upTo(3), nil })}
	r := rand.New(rand.NewSource(522))
	for range 60 {
		if w := chanceWorld(r); impl.CrewOk(w) {
			worlds = append(worlds, w)
		}
	}
	for _, plain := range worlds {
		w := spareWorld(plain)
		moves := impl.CrewMoves(w)
		wipe(moves)
		for _, m := range toldMoves(plain) {
			next, _ := impl.CrewStep(w, m)
			wipeWorld(next)
			wantSpareWorld(t, w, plain)
			if again, _ := impl.CrewStep(w, m); !sameWorld(again, toldMove(plain, m)) {
				t.Errorf("%v: an answer shares something", m)
			}
		}
		next, _ := impl.CrewCancel(w)
		wipeWorld(next)
		wantSpareWorld(t, w, plain)
		wantMoves(t, "with room behind", w)
		wantSpareWorld(t, w, plain)
	}
	// No two lists of one answer share memory.
	w, _ := impl.CrewStep(busy(), move(5, 0))
	lists := []*[]int{&w.Queue, &w.Results, &w.Ring, &w.Got, &w.Shut}
	for i, list := range lists {
		before := copyWorld(w)
		for at := range (*list)[:cap(*list)] {
			(*list)[:cap(*list)][at] = 99
		}
		for j, other := range lists {
			if j != i && !slices.Equal(*other, *[]*[]int{&before.Queue, &before.Results, &before.Ring, &before.Got, &before.Shut}[j]) {
				t.Errorf("the lists %d and %d share memory", i, j)
			}
		}
		w = before
		lists = []*[]int{&w.Queue, &w.Results, &w.Ring, &w.Got, &w.Shut}
	}
}
