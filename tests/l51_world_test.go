package tests

import (
	"fmt"
	"math"
	"math/rand"
	"slices"
	"testing"

	"loop.example/teagle/impl"
)

type crewWorld = impl.CrewWorld

type crewHand = impl.CrewHand

func hand(state, job int) crewHand {
	return crewHand{State: state, Job: job}
}

func copyWorld(w crewWorld) crewWorld {
	w.Queue, w.Hands, w.Results = slices.Clone(w.Queue), slices.Clone(w.Hands), slices.Clone(w.Results)
	w.Ring, w.Out, w.Got, w.Shut = slices.Clone(w.Ring), slices.Clone(w.Out), slices.Clone(w.Got), slices.Clone(w.Shut)
	return w
}

// worldText tells a world; two worlds are the same if their texts are.
func worldText(w crewWorld) string {
	return fmt.Sprintf("jobs %d workers %d window %d next %d reader %d queue %v hands %v closer %d results %v keeper %d ring %v due %d out %v user %d got %v room %d shut %v ops %d",
		w.Jobs, w.Workers, w.Window, w.Next, w.Reader, w.Queue, w.Hands, w.Closer, w.Results, w.Keeper, w.Ring, w.Due, w.Out, w.User, w.Got, w.Room, w.Shut, w.Ops)
}

func sameWorld(a, b crewWorld) bool {
	return worldText(a) == worldText(b)
}

// upTo is 0, 1, 2 and so on, so many.
func upTo(n int) (list []int) {
	for i := range n {
		list = append(list, i)
	}
	return list
}

// toldLeft is by itself what is left.
func toldLeft(w crewWorld) int {
	left := 11*(w.Jobs-w.Next) + 9*len(w.Queue) + 6*len(w.Results) + len(w.Out)
	left += []int{2, 12, 1, 0}[w.Reader]
	for _, h := range w.Hands {
		left += []int{1, 9, 8, 0}[h.State]
	}
	for _, job := range w.Ring {
		if job != -1 {
			left += 4
		}
	}
	return left + []int{1, 0}[w.Closer] + []int{2, 3, 2, 4, 1, 0}[w.Keeper] + []int{1, 0}[w.User]
}

// toldWorldOk is by itself whether a world is ok.
func toldWorldOk(w crewWorld) bool {
	in := func(n, low, high int) bool { return low <= n && n <= high }
	if !in(w.Jobs, 0, 60) || !in(w.Workers, 1, 8) || !in(w.Window, 1, 16) || !in(w.Next, 0, w.Jobs) || !in(w.Due, 0, w.Next) || !in(w.Room, 0, w.Window) || !in(w.Ops, 0, 10000) {
		return false
	}
	if len(w.Hands) != w.Workers || len(w.Ring) != w.Window || len(w.Shut) != 4 || len(w.Queue) > w.Workers || len(w.Results) > w.Workers || len(w.Out) > 1 {
		return false
	}
	if !in(w.Reader, 0, 3) || !in(w.Closer, 0, 1) || !in(w.Keeper, 0, 5) || !in(w.User, 0, 1) {
		return false
	}
	var jobs []int
	someEnded, allEnded := false, true
	for _, h := range w.Hands {
		if !in(h.State, 0, 3) || (h.State == 0 || h.State == 3) && h.Job != 0 {
			return false
		}
		if h.State == 1 || h.State == 2 {
			jobs = append(jobs, h.Job)
		}
		someEnded, allEnded = someEnded || h.State == 3, allEnded && h.State == 3
	}
	for _, shut := range w.Shut {
		if !in(shut, 0, 1) {
			return false
		}
	}
	stopped := w.Shut[3] == 1
	jobs = append(append(jobs, w.Queue...), w.Results...)
	if w.Reader == 1 {
		jobs = append(jobs, w.Next-1)
	}
	due := false
	for place, job := range w.Ring {
		if job == -1 {
			continue
		}
		if job < 0 || job%w.Window != place {
			return false
		}
		jobs = append(jobs, job)
		due = due || job == w.Due
	}
	seen := map[int]bool{}
	for _, job := range jobs {
		if job < w.Due || job >= w.Next || seen[job] {
			return false
		}
		seen[job] = true
	}
	if !stopped && len(seen) != w.Next-w.Due {
		return false
	}
	if !slices.Equal(slices.Concat(w.Got, w.Out), upTo(w.Due)) {
		return false
	}
	room := w.Room + w.Next - w.Due
	if w.Keeper == 3 {
		room++
	}
	if room != w.Window || (w.Shut[0] == 1) != (w.Reader == 3) || (w.Shut[1] == 1) != (w.Closer == 1) || (w.Shut[2] == 1) != (w.Keeper == 5) {
		return false
	}
	if stopped && w.User != 1 || w.Closer == 1 && !allEnded || w.Keeper == 0 && due || w.Keeper == 2 && !due {
		return false
	}
	if !stopped {
		if w.Reader >= 2 && w.Next != w.Jobs || someEnded && (w.Reader != 3 || len(w.Queue) > 0) ||
			w.Keeper >= 4 && (w.Closer != 1 || len(w.Results) > 0) || w.User == 1 && (w.Keeper != 5 || len(w.Out) > 0) {
			return false
		}
	}
	return w.Ops+toldLeft(w) <= 11*w.Jobs+w.Workers+7
}

// wantWorld: a world is ok, and so much is left; or it is not, and nothing is told of it.
func wantWorld(t *testing.T, what string, w crewWorld, ok bool, left int) {
	t.Helper()
	if got := impl.CrewOk(w); got != ok || toldWorldOk(w) != ok {
		t.Errorf("%s: ok %v, the tests themselves tell %v, wanted %v: %.400s", what, got, toldWorldOk(w), ok, worldText(w))
		return
	}
	if got := impl.CrewLeft(w); got != left {
		t.Errorf("%s: left is %d, wanted %d: %.400s", what, got, left, worldText(w))
	}
	if !ok && impl.CrewEnded(w) {
		t.Errorf("%s: it is not ok, but has ended", what)
	}
	if ok && toldLeft(w) != left {
		t.Errorf("%s: the tests themselves tell that %d is left, wanted %d", what, toldLeft(w), left)
	}
}

func wantNoWorld(t *testing.T, what string, w crewWorld) {
	t.Helper()
	wantWorld(t, what, w, false, 0)
}

// P56: at the beginning nothing has ended, the world is ok, and what is left is known.
func TestCrewStart(t *testing.T) {
	for jobs := 0; jobs <= impl.CrewMaxJobs; jobs++ {
		for workers := 1; workers <= impl.CrewMaxWorkers; workers++ {
			for window := 1; window <= impl.CrewMaxWindow; window++ {
				w, ok := impl.CrewStart(jobs, workers, window)
				wanted := crewWorld{Jobs: jobs, Workers: workers, Window: window, Hands: make([]crewHand, workers), Ring: slices.Repeat([]int{-1}, window), Room: window, Shut: make([]int, 4)}
				if !ok || !sameWorld(w, wanted) {
					t.Fatalf("%s", worldText(w))
				}
				wantWorld(t, "the beginning", w, true, 11*jobs+workers+6)
				if impl.CrewEnded(w) {
					t.Fatal("it has ended at the beginning")
				}
			}
		}
	}
	for _, sizes := range [][3]int{{-1, 1, 1}, {61, 1, 1}, {0, 0, 1}, {0, 9, 1}, {0, 1, 0}, {0, 1, 17}, {1, -1, 1}, {1, 1, -1}, {math.MaxInt, 1, 1}, {math.MinInt, 1, 1}, {1, math.MaxInt, 1}, {1, math.MinInt, 1}, {1, 1, math.MaxInt}, {1, 1, math.MinInt}, {61, 9, 17}, {0, 0, 0}} {
		if w, ok := impl.CrewStart(sizes[0], sizes[1], sizes[2]); ok || !sameWorld(w, crewWorld{}) {
			t.Errorf("%v: %v %s", sizes, ok, worldText(w))
		}
	}
	wantNoWorld(t, "nothing", crewWorld{})
}

// busy is a world with jobs in every place; 79 is left of it.
func busy() crewWorld {
	return crewWorld{
		Jobs: 12, Workers: 2, Window: 9, Next: 11, Reader: impl.ReadSend, Queue: []int{8, 9}, Hands: []crewHand{hand(impl.WorkDo, 7), hand(impl.WorkGive, 6)},
		Results: []int{5, 3}, Keeper: impl.KeepTake, Ring: []int{-1, -1, -1, -1, 4, -1, -1, -1, -1}, Due: 3, Out: []int{2}, Got: []int{0, 1}, Room: 1, Shut: []int{0, 0, 0, 0}, Ops: 40,
	}
}

// stoppedWorld is the same behind the user's stop.
func stoppedWorld() crewWorld {
	w := busy()
	w.User, w.Shut = impl.UseEnded, []int{0, 0, 0, 1}
	return w
}

// endedWorld is a world in which all have ended.
func endedWorld() crewWorld {
	return crewWorld{
		Jobs: 3, Workers: 2, Window: 4, Next: 3, Reader: impl.ReadEnded, Hands: []crewHand{hand(impl.WorkEnded, 0), hand(impl.WorkEnded, 0)},
		Closer: impl.CloseEnded, Keeper: impl.KeepEnded, Ring: []int{-1, -1, -1, -1}, Due: 3, User: impl.UseEnded, Got: []int{0, 1, 2}, Room: 4, Shut: []int{1, 1, 1, 0}, Ops: 30,
	}
}

type worldChange func(w *crewWorld)

// changed is a world with something else about it.
func changed(w crewWorld, changes ...worldChange) crewWorld {
	w = copyWorld(w)
	for _, change := range changes {
		change(&w)
	}
	return w
}

// What is left of a job in each place, and of each of the crew in each state.
func TestCrewLeft(t *testing.T) {
	wantWorld(t, "jobs in every place", busy(), true, 79)
	wantWorld(t, "stopped", stoppedWorld(), true, 78)
	wantWorld(t, "all have ended", endedWorld(), true, 0)
	w := busy()
	// The job 10 is read, and wherever it stands all others stay where they are.
	at := func(what string, left int, change worldChange) {
		t.Helper()
		wantWorld(t, what, changed(w, change), true, left)
	}
	at("not read", 80, func(w *crewWorld) { w.Next, w.Reader, w.Room = 10, impl.ReadRoom, 2 })
	w.Workers, w.Hands = 4, append(w.Hands, hand(0, 0), hand(0, 0))
	at("with the reader", 81, func(w *crewWorld) {})
	at("in the queue", 80, func(w *crewWorld) { w.Reader, w.Queue = impl.ReadRoom, []int{10, 8, 9} })
	at("being done", 79, func(w *crewWorld) { w.Reader, w.Hands[2] = impl.ReadRoom, hand(impl.WorkDo, 10) })
	at("done", 78, func(w *crewWorld) { w.Reader, w.Hands[3] = impl.ReadRoom, hand(impl.WorkGive, 10) })
	at("among the results", 77, func(w *crewWorld) { w.Reader, w.Results = impl.ReadRoom, []int{5, 3, 10} })
	at("in the ring", 75, func(w *crewWorld) { w.Reader, w.Ring[1] = impl.ReadRoom, 10 })
	at("the keeper looks", 82, func(w *crewWorld) { w.Keeper = impl.KeepCheck })
	at("the keeper is to give room back", 83, func(w *crewWorld) { w.Keeper, w.Room = impl.KeepRoom, 0 })
	at("the keeper is to give", 79, func(w *crewWorld) { w.Keeper, w.Results, w.Ring[3] = impl.KeepGive, []int{5}, 3 })
	at("the user has it", 80, func(w *crewWorld) { w.Out, w.Got = nil, []int{0, 1, 2} })
	// Each of the crew who may end when it is stopped.
	w = stoppedWorld()
	at("the reader is to close", 67, func(w *crewWorld) { w.Reader = impl.ReadClose })
	at("the reader has ended", 66, func(w *crewWorld) { w.Reader, w.Shut[0] = impl.ReadEnded, 1 })
	at("a worker has ended", 69, func(w *crewWorld) { w.Hands[0] = hand(impl.WorkEnded, 0) })
	at("both workers have", 61, func(w *crewWorld) { w.Hands = make([]crewHand, 2); w.Hands[0].State, w.Hands[1].State = 3, 3 })
	at("the closer has", 60, func(w *crewWorld) {
		w.Hands = []crewHand{hand(impl.WorkEnded, 0), hand(impl.WorkEnded, 0)}
		w.Closer, w.Shut[1] = impl.CloseEnded, 1
	})
	at("the keeper is to close", 77, func(w *crewWorld) { w.Keeper = impl.KeepClose })
	at("the keeper has ended", 76, func(w *crewWorld) { w.Keeper, w.Shut[2] = impl.KeepEnded, 1 })
}

// Each reason for which a world is not ok, by itself.
func TestCrewNotOk(t *testing.T) {
	not := func(what string, w crewWorld, changes ...worldChange) {
		t.Helper()
		if !impl.CrewOk(w) {
			t.Fatalf("%s: it was not ok ahead of it", what)
		}
		wantNoWorld(t, what, changed(w, changes...))
	}
	ends := []int{-1, math.MaxInt, math.MinInt, 1 << 40}
	for _, w := range []crewWorld{busy(), stoppedWorld(), endedWorld()} {
		for what, field := range map[string]func(w *crewWorld) *int{
			"jobs": func(w *crewWorld) *int { return &w.Jobs }, "workers": func(w *crewWorld) *int { return &w.Workers }, "window": func(w *crewWorld) *int { return &w.Window },
			"next": func(w *crewWorld) *int { return &w.Next }, "reader": func(w *crewWorld) *int { return &w.Reader }, "closer": func(w *crewWorld) *int { return &w.Closer },
			"keeper": func(w *crewWorld) *int { return &w.Keeper }, "due": func(w *crewWorld) *int { return &w.Due }, "user": func(w *crewWorld) *int { return &w.User },
			"room": func(w *crewWorld) *int { return &w.Room }, "ops": func(w *crewWorld) *int { return &w.Ops }, "shut": func(w *crewWorld) *int { return &w.Shut[0] },
			"shut 1": func(w *crewWorld) *int { return &w.Shut[1] }, "shut 2": func(w *crewWorld) *int { return &w.Shut[2] }, "shut 3": func(w *crewWorld) *int { return &w.Shut[3] },
			"a state": func(w *crewWorld) *int { return &w.Hands[0].State }, "a job": func(w *crewWorld) *int { return &w.Hands[1].Job }, "got": func(w *crewWorld) *int { return &w.Got[1] },
		} {
			for _, end := range ends {
				not(fmt.Sprintf("%s is %d", what, end), w, func(w *crewWorld) { *field(w) = end })
			}
			if what != "ops" && what != "jobs" {
				// Both one more and one less are wrong where the others are such as here.
				not(what+" is 6 more", w, func(w *crewWorld) { *field(w) += 6 })
			}
		}
		for what, list := range map[string]func(w *crewWorld) *[]int{
			"queue": func(w *crewWorld) *[]int { return &w.Queue }, "results": func(w *crewWorld) *[]int { return &w.Results }, "ring": func(w *crewWorld) *[]int { return &w.Ring },
			"out": func(w *crewWorld) *[]int { return &w.Out }, "got": func(w *crewWorld) *[]int { return &w.Got }, "shut": func(w *crewWorld) *[]int { return &w.Shut },
		} {
			for _, more := range []int{-1, 0, 2, 3, 11, math.MaxInt, math.MinInt} {
				not(what+" has one more", w, func(w *crewWorld) { *list(w) = append(*list(w), more) })
			}
			if what == "ring" || what == "shut" || what == "got" {
				not(what+" is empty", w, func(w *crewWorld) { *list(w) = nil })
				not(what+" has one less", w, func(w *crewWorld) { *list(w) = (*list(w))[:len(*list(w))-1] })
			}
		}
		not("a hand more", w, func(w *crewWorld) { w.Hands = append(w.Hands, hand(3, 0)) })
		not("a hand less", w, func(w *crewWorld) { w.Hands = w.Hands[:1] })
		not("no hands", w, func(w *crewWorld) { w.Hands = nil })
	}
	w := busy()
	not("a job missing", w, func(w *crewWorld) { w.Queue = []int{8} })
	not("a job missing in the results", w, func(w *crewWorld) { w.Results = []int{5} })
	not("a job missing in the ring", w, func(w *crewWorld) { w.Ring[4] = -1 })
	not("a job missing in a hand", w, func(w *crewWorld) { w.Hands[0] = hand(0, 0) })
	not("the job of the reader missing", w, func(w *crewWorld) { w.Reader = impl.ReadRoom })
	for _, twice := range []int{3, 4, 5, 6, 7, 8, 9, 10} {
		for _, w := range []crewWorld{busy(), stoppedWorld()} {
			w.Window, w.Ring, w.Room = 16, slices.Repeat([]int{-1}, 16), 8
			w.Workers, w.Hands = 4, append(w.Hands, hand(0, 0), hand(0, 0))
			w.Ring[4] = 4
			if !impl.CrewOk(w) {
				t.Fatal("a wider window")
			}
			not("a job twice, in the queue", w, func(w *crewWorld) { w.Queue = append(w.Queue, twice) })
			not("a job twice, among the results", w, func(w *crewWorld) { w.Results = append(w.Results, twice) })
			not("a job twice, being done", w, func(w *crewWorld) { w.Hands[2] = hand(1, twice) })
			not("a job twice, done", w, func(w *crewWorld) { w.Hands[3] = hand(2, twice) })
			if twice != 4 && twice != 3 {
				not("a job twice, in the ring", w, func(w *crewWorld) { w.Ring[twice] = twice })
			}
		}
	}
	// A job that is given already, or is not read yet.
	for _, job := range []int{0, 2, 11, 12} {
		not("in the queue", w, func(w *crewWorld) { w.Queue[0] = job })
		not("among the results", w, func(w *crewWorld) { w.Results[1] = job })
		not("being done", w, func(w *crewWorld) { w.Hands[0].Job = job })
		not("done", w, func(w *crewWorld) { w.Hands[1].Job = job })
		not("in the ring", w, func(w *crewWorld) { w.Ring[4] = -1; w.Ring[job%9] = job })
		not("in the ring, stopped", stoppedWorld(), func(w *crewWorld) { w.Ring[4] = -1; w.Ring[job%9] = job })
		not("in the queue, stopped", stoppedWorld(), func(w *crewWorld) { w.Queue[0] = job })
	}
	not("a wrong place in the ring", w, func(w *crewWorld) { w.Ring[4], w.Ring[5] = -1, 4 })
	not("a wrong place in the ring, stopped", stoppedWorld(), func(w *crewWorld) { w.Ring[4], w.Ring[5] = -1, 4 })
	not("no job in the ring", w, func(w *crewWorld) { w.Ring[0] = -2 })
	not("no job in the ring, far off", w, func(w *crewWorld) { w.Ring[0] = -9 })
	not("no job in the ring, stopped", stoppedWorld(), func(w *crewWorld) { w.Ring[0] = -9 })
	not("a hand that wants a job has one", w, func(w *crewWorld) { w.Workers, w.Hands = 3, append(w.Hands, hand(0, 5)) })
	not("a hand that has ended has one", stoppedWorld(), func(w *crewWorld) { w.Hands[0] = hand(3, 7) })
	not("got in another order", w, func(w *crewWorld) { w.Got = []int{1, 0} })
	not("out is another one", w, func(w *crewWorld) { w.Out = []int{3} })
	not("out is one that was got", w, func(w *crewWorld) { w.Out = []int{1} })
	not("out is missing", w, func(w *crewWorld) { w.Out = nil })
	not("room is one more", w, func(w *crewWorld) { w.Room++ })
	not("room is one less", w, func(w *crewWorld) { w.Room-- })
	not("room is not given back", w, func(w *crewWorld) { w.Keeper = impl.KeepRoom })
	not("room is given back twice", changed(w, func(w *crewWorld) { w.Keeper, w.Room = impl.KeepRoom, 0 }), func(w *crewWorld) { w.Keeper = impl.KeepCheck })
}

// Who closes a channel, and who may have ended.
func TestCrewEnds(t *testing.T) {
	for at, w := range []crewWorld{busy(), stoppedWorld(), endedWorld()} {
		for channel := range 3 {
			wantNoWorld(t, "closed or open against who closes it", changed(w, func(w *crewWorld) { w.Shut[channel] = 1 - w.Shut[channel] }))
		}
		if at == 0 {
			wantNoWorld(t, "stopped, and the user goes on", changed(w, func(w *crewWorld) { w.Shut[3] = 1 }))
			wantNoWorld(t, "the user has ended", changed(w, func(w *crewWorld) { w.User = 1 }))
		}
	}
	// All jobs are read and done, and one behind the other ends.
	w := crewWorld{Jobs: 2, Workers: 2, Window: 3, Next: 2, Reader: impl.ReadRoom, Hands: make([]crewHand, 2), Ring: []int{-1, -1, -1}, Due: 2, Got: []int{0, 1}, Room: 3, Shut: make([]int, 4)}
	steps := []struct {
		what   string
		left   int
		change worldChange
	}{
		{"all is done", 8, func(w *crewWorld) {}},
		{"the reader is to close", 7, func(w *crewWorld) { w.Reader = impl.ReadClose }},
		{"the reader", 6, func(w *crewWorld) { w.Reader, w.Shut[0] = impl.ReadEnded, 1 }},
		{"a worker", 5, func(w *crewWorld) { w.Hands[1].State = impl.WorkEnded }},
		{"both workers", 4, func(w *crewWorld) { w.Hands[0].State = impl.WorkEnded }},
		{"the closer", 3, func(w *crewWorld) { w.Closer, w.Shut[1] = impl.CloseEnded, 1 }},
		{"the keeper is to close", 2, func(w *crewWorld) { w.Keeper = impl.KeepClose }},
		{"the keeper", 1, func(w *crewWorld) { w.Keeper, w.Shut[2] = impl.KeepEnded, 1 }},
		{"the user", 0, func(w *crewWorld) { w.User = impl.UseEnded }},
	}
	for i, step := range steps {
		before := copyWorld(w)
		step.change(&w)
		wantWorld(t, step.what, w, true, step.left)
		if impl.CrewEnded(w) != (step.left == 0) {
			t.Errorf("%s: ended %v", step.what, impl.CrewEnded(w))
		}
		// None may end ahead of the one ahead of them.
		for _, later := range steps[min(i+1, len(steps)):] {
			x := copyWorld(before)
			later.change(&x)
			ok := later.what == "a worker" && i >= 3 || later.what == "both workers" && before.Reader == impl.ReadEnded || toldWorldOk(x)
			if impl.CrewOk(x) != ok {
				t.Errorf("%s, ahead of %s: ok %v", later.what, step.what, impl.CrewOk(x))
			}
			if i < 2 && later.left < 6 && impl.CrewOk(x) {
				t.Errorf("%s, ahead of the reader", later.what)
			}
		}
	}
	for i := range steps[1:] {
		x := changed(endedWorld(), func(w *crewWorld) {
			switch i {
			case 0:
				w.Reader, w.Shut[0] = impl.ReadClose, 0
			case 1:
				w.Hands[0].State = impl.WorkTake
			case 2:
				w.Hands[1].State = impl.WorkTake
			case 3:
				w.Closer, w.Shut[1] = impl.CloseWait, 0
			case 4:
				w.Keeper, w.Shut[2] = impl.KeepClose, 0
			case 5:
				w.User = impl.UseTake
			}
		})
		// When it is stopped each but the closer may be the last one.
		stopped := changed(x, func(w *crewWorld) { w.User, w.Shut[3] = impl.UseEnded, 1 })
		if i < 6 && i != 5 && impl.CrewEnded(stopped) || i < 6 && impl.CrewEnded(x) {
			t.Errorf("%d: it has ended, but one has not: %s", i, worldText(x))
		}
		wantWorld(t, "all but one", x, toldWorldOk(x), map[bool]int{true: toldLeft(x)}[toldWorldOk(x)])
		wantWorld(t, "all but one, stopped", stopped, toldWorldOk(stopped), map[bool]int{true: toldLeft(stopped)}[toldWorldOk(stopped)])
	}
	if !impl.CrewEnded(endedWorld()) {
		t.Error("all have ended")
	}
	for _, bad := range []worldChange{func(w *crewWorld) { w.Ops = 1000 }, func(w *crewWorld) { w.Room = 3 }, func(w *crewWorld) { w.Got = nil }, func(w *crewWorld) { w.Shut[0] = 0 }} {
		if impl.CrewEnded(changed(endedWorld(), bad)) {
			t.Error("it is not ok, but has ended")
		}
	}
	// Not stopped: who ends has reason to.
	w = busy()
	for what, change := range map[string]worldChange{
		"the reader is to close, but has not read all": func(w *crewWorld) {
			w.Reader, w.Queue, w.Workers, w.Hands = 2, []int{8, 9, 10}, 3, append(w.Hands, hand(0, 0))
		},
		"a worker has ended, but the reader has not":       func(w *crewWorld) { w.Workers, w.Hands = 3, append(w.Hands, hand(3, 0)) },
		"the keeper is to close, but the closer waits":     func(w *crewWorld) { w.Keeper = 4 },
		"the keeper has ended, but the closer waits":       func(w *crewWorld) { w.Keeper, w.Shut[2] = 5, 1 },
		"the closer has ended, but the workers have not":   func(w *crewWorld) { w.Closer, w.Shut[1] = 1, 1 },
		"the user has ended, but the keeper has not":       func(w *crewWorld) { w.User = 1 },
		"the keeper takes, but what is due is in the ring": func(w *crewWorld) { w.Results, w.Ring[3] = []int{5}, 3 },
		"the keeper gives, but what is due is not there":   func(w *crewWorld) { w.Keeper = 2 },
		"the keeper gives, but another is in the ring":     func(w *crewWorld) { w.Keeper, w.Results, w.Ring[5] = 2, []int{3}, 5 },
		"more than Workers in the queue":                   func(w *crewWorld) { w.Reader, w.Queue = 0, []int{8, 9, 10} },
		"more than Workers in the results":                 func(w *crewWorld) { w.Reader, w.Results = 0, []int{5, 3, 10} },
		"more than one in Out":                             func(w *crewWorld) { w.Got, w.Out = []int{0}, []int{1, 2} },
		"the reader has read a job, but none is read":      func(w *crewWorld) { *w, _ = impl.CrewStart(3, 1, 2); w.Reader = 1 },
		"the reader has read a job that was given": func(w *crewWorld) {
			*w, _ = impl.CrewStart(3, 1, 2)
			w.Next, w.Due, w.Got, w.Reader = 1, 1, []int{0}, 1
		},
		"the same, stopped": func(w *crewWorld) { *w, _ = impl.CrewStart(3, 1, 2); w.Reader, w.User, w.Shut[3] = 1, 1, 1 },
		"stopped, the closer has ended, and a worker works":         func(w *crewWorld) { *w = stoppedWorld(); w.Closer, w.Shut[1] = 1, 1 },
		"stopped, the keeper takes, but what is due is in the ring": func(w *crewWorld) { *w = stoppedWorld(); w.Results, w.Ring[3] = []int{5}, 3 },
		"stopped, the keeper gives, but what is due is not there":   func(w *crewWorld) { *w = stoppedWorld(); w.Keeper = 2 },
	} {
		wantNoWorld(t, what, changed(w, change))
	}
	// A worker that has ended while the queue is closed, but not empty; a keeper that closes while results are left.
	left := changed(endedWorld(), func(w *crewWorld) {
		w.Due, w.Got, w.Room, w.User, w.Ops = 2, []int{0, 1}, 3, 0, 0
		w.Keeper, w.Shut[2], w.Closer, w.Shut[1] = 0, 0, 0, 0
		w.Queue = []int{2}
	})
	wantNoWorld(t, "workers have ended, the queue is not empty", left)
	left.Hands = make([]crewHand, 2)
	wantWorld(t, "the queue is not empty", left, true, 15)
	results := changed(left, func(w *crewWorld) {
		w.Queue, w.Results, w.Hands, w.Closer, w.Shut[1] = nil, []int{2}, endedWorld().Hands, 1, 1
	})
	wantWorld(t, "the results are not empty", results, true, 9)
	wantNoWorld(t, "the keeper closes, the results are not empty", changed(results, func(w *crewWorld) { w.Keeper = 4 }))
	out := changed(endedWorld(), func(w *crewWorld) { w.Got, w.Out = []int{0, 1}, []int{2} })
	wantNoWorld(t, "the user has ended, Out is not empty", out)
	out.User = 0
	wantWorld(t, "Out is not empty", out, true, 2)
}

// A world that is stopped, with jobs missing.
func TestCrewStopped(t *testing.T) {
	w := stoppedWorld()
	for what, change := range map[string]worldChange{
		"the job of the reader": func(w *crewWorld) { w.Reader = 2 },
		"the queue's":           func(w *crewWorld) { w.Queue = nil },
		"one of the queue's":    func(w *crewWorld) { w.Queue = []int{9} },
		"a hand's":              func(w *crewWorld) { w.Hands[0] = hand(3, 0) },
		"the results'":          func(w *crewWorld) { w.Results = nil },
		"the ring's":            func(w *crewWorld) { w.Ring[4] = -1 },
		"all": func(w *crewWorld) {
			w.Reader, w.Queue, w.Results, w.Hands = 0, nil, nil, make([]crewHand, 2)
			w.Ring[4] = -1
		},
		"in another order": func(w *crewWorld) { w.Queue, w.Results = []int{3, 9}, []int{8} },
	} {
		x := changed(w, change)
		wantWorld(t, "stopped, without "+what, x, true, toldLeft(x))
		x.Shut[3] = 0
		wantNoWorld(t, "not stopped, without "+what, x)
		x.User = 0
		wantNoWorld(t, "the user goes on, without "+what, x)
	}
}

// Ops and what is left are together at most so many.
func TestCrewOps(t *testing.T) {
	for _, w := range []crewWorld{busy(), stoppedWorld(), endedWorld(), changed(busy(), func(w *crewWorld) { w.Keeper = 1 })} {
		left := impl.CrewLeft(w)
		most := 11*w.Jobs + w.Workers + 7 - left
		for _, ops := range []int{0, 1, most - 1, most} {
			wantWorld(t, "so many ops", changed(w, func(w *crewWorld) { w.Ops = ops }), true, left)
		}
		for _, ops := range []int{most + 1, most + 2, 10000, 10001, math.MaxInt, math.MaxInt - 5, -1, math.MinInt} {
			wantNoWorld(t, "so many ops", changed(w, func(w *crewWorld) { w.Ops = ops }))
		}
	}
}

// chanceWorld is a world most of whose parts fit each other.
func chanceWorld(r *rand.Rand) crewWorld {
	jobs, workers, window := []int{0, 1, 3, 8, 60}[r.Intn(5)], 1+r.Intn(4), 1+r.Intn(6)
	w, _ := impl.CrewStart(jobs, workers, window)
	w.Due = r.Intn(jobs + 1)
	if r.Intn(3) == 0 {
		w.Due = jobs
	}
	w.Next = min(jobs, w.Due+r.Intn(window+1))
	w.Got = upTo(w.Due)
	if w.Due > 0 && r.Intn(2) == 0 {
		w.Got, w.Out = w.Got[:w.Due-1], []int{w.Due - 1}
	}
	stopped := r.Intn(2) == 0
	w.Reader = r.Intn(4)
	if !stopped && w.Next < jobs {
		w.Reader = r.Intn(2)
	}
	for i := range w.Hands {
		if stopped && r.Intn(2) == 0 || w.Reader == 3 && r.Intn(2) == 0 {
			w.Hands[i].State = 3
		}
	}
	for job := w.Due; job < w.Next; job++ {
		placeChance(r, &w, job, stopped)
	}
	w.Keeper = r.Intn(6)
	due := w.Ring[w.Due%window] == w.Due
	if !stopped && w.Keeper >= 4 && r.Intn(4) > 0 || w.Keeper == 0 && due || w.Keeper == 2 && !due {
		w.Keeper = 1
	}
	w.Room = window - (w.Next - w.Due)
	if w.Keeper == 3 {
		if w.Room == 0 {
			w.Keeper = 1
		} else {
			w.Room--
		}
	}
	ended := !slices.ContainsFunc(w.Hands, func(h crewHand) bool { return h.State != 3 })
	if ended && r.Intn(2) == 0 {
		w.Closer = 1
	}
	if stopped || w.Keeper == 5 && r.Intn(2) == 0 {
		w.User = 1
	}
	shut := map[bool]int{true: 1}
	w.Shut = []int{shut[w.Reader == 3], shut[w.Closer == 1], shut[w.Keeper == 5], shut[stopped]}
	w.Ops = r.Intn(max(1, 11*jobs+workers+7-toldLeft(w)+r.Intn(2)))
	return w
}

// placeChance puts a job into a place that may have it.
func placeChance(r *rand.Rand, w *crewWorld, job int, stopped bool) {
	if job == w.Next-1 && w.Reader == 1 {
		return
	}
	for range 20 {
		switch r.Intn(5) {
		case 0:
			if len(w.Queue) < w.Workers {
				w.Queue = slices.Insert(w.Queue, r.Intn(len(w.Queue)+1), job)
				return
			}
		case 1:
			if len(w.Results) < w.Workers {
				w.Results = slices.Insert(w.Results, r.Intn(len(w.Results)+1), job)
				return
			}
		case 2:
			if h := &w.Hands[r.Intn(w.Workers)]; h.State == 0 {
				*h = hand(1+r.Intn(2), job)
				return
			}
		case 3:
			w.Ring[job%w.Window] = job
			return
		case 4:
			if stopped {
				return
			}
		}
	}
	w.Ring[job%w.Window] = job
}

// spoilWorld changes one thing of a world.
func spoilWorld(r *rand.Rand, w *crewWorld) {
	numbers := []*int{&w.Jobs, &w.Workers, &w.Window, &w.Next, &w.Reader, &w.Closer, &w.Keeper, &w.Due, &w.User, &w.Room, &w.Ops}
	for _, list := range []*[]int{&w.Queue, &w.Results, &w.Ring, &w.Out, &w.Got, &w.Shut} {
		for i := range *list {
			numbers = append(numbers, &(*list)[i])
		}
	}
	for i := range w.Hands {
		numbers = append(numbers, &w.Hands[i].State, &w.Hands[i].Job)
	}
	switch r.Intn(4) {
	case 0:
		list := []*[]int{&w.Queue, &w.Results, &w.Ring, &w.Out, &w.Got, &w.Shut}[r.Intn(6)]
		if len(*list) > 0 && r.Intn(2) == 0 {
			*list = slices.Delete(*list, 0, 1)
		} else {
			*list = append(*list, r.Intn(5)-1)
		}
	default:
		*numbers[r.Intn(len(numbers))] += []int{-1, 1, 2, -2, w.Window}[r.Intn(5)]
	}
}

// Many worlds by chance, some of them wrong in one place.
func TestCrewWorldsMany(t *testing.T) {
	r := rand.New(rand.NewSource(51))
	counts := map[bool]int{}
	for range 30000 {
		w := chanceWorld(r)
		for range r.Intn(3) {
			spoilWorld(r, &w)
		}
		ok := toldWorldOk(w)
		counts[ok]++
		left := 0
		if ok {
			left = toldLeft(w)
		}
		wantWorld(t, "by chance", w, ok, left)
		ended := ok && w.Reader == 3 && w.Closer == 1 && w.Keeper == 5 && w.User == 1
		if impl.CrewEnded(w) != ended {
			t.Errorf("ended %v: %s", impl.CrewEnded(w), worldText(w))
		}
	}
	if counts[true] < 8000 || counts[false] < 8000 {
		t.Errorf("%v", counts)
	}
}

// Every function answers at every argument; the empty list and the nil list are the same value.
func TestCrewWorldWithoutEnd(t *testing.T) {
	for what, change := range map[string]worldChange{
		"queue": func(w *crewWorld) { w.Queue = make([]int, 3000000) }, "results": func(w *crewWorld) { w.Results = make([]int, 3000000) }, "ring": func(w *crewWorld) { w.Ring = make([]int, 3000000) },
		"out": func(w *crewWorld) { w.Out = make([]int, 3000000) }, "got": func(w *crewWorld) { w.Got = make([]int, 3000000) }, "shut": func(w *crewWorld) { w.Shut = make([]int, 3000000) },
		"hands": func(w *crewWorld) { w.Hands = make([]crewHand, 3000000) },
	} {
		w := changed(busy(), change)
		if impl.CrewOk(w) || impl.CrewLeft(w) != 0 || impl.CrewEnded(w) {
			t.Errorf("very many in %s", what)
		}
	}
	w := endedWorld()
	w.Queue, w.Results, w.Out = []int{}, []int{}, []int{}
	wantWorld(t, "empty lists", w, true, 0)
	if !impl.CrewEnded(w) {
		t.Error("empty lists")
	}
	w, _ = impl.CrewStart(2, 1, 1)
	w.Got, w.Queue, w.Results, w.Out = []int{}, []int{}, []int{}, []int{}
	wantWorld(t, "empty lists", w, true, 29)
}

// spareWorld is a world with room behind the ends of its lists.
func spareWorld(w crewWorld) crewWorld {
	for _, list := range []*[]int{&w.Queue, &w.Results, &w.Ring, &w.Out, &w.Got, &w.Shut} {
		*list = withSpare(*list, 77)
	}
	w.Hands = withSpare(w.Hands, hand(77, 77))
	return w
}

// wantSpareWorld: a world is as it was, also behind the ends of its lists.
func wantSpareWorld(t *testing.T, w, plain crewWorld) {
	t.Helper()
	fine := sameWorld(w, plain) && stillSpare(w.Hands, hand(77, 77))
	for _, list := range [][]int{w.Queue, w.Results, w.Ring, w.Out, w.Got, w.Shut} {
		fine = fine && stillSpare(list, 77)
	}
	if !fine {
		t.Errorf("the world was changed: %s", worldText(w))
	}
}

func wipeWorld(w crewWorld) {
	for _, list := range [][]int{w.Queue, w.Results, w.Ring, w.Out, w.Got, w.Shut} {
		wipe(list)
	}
	wipe(w.Hands)
}

// Nothing is written into an argument or behind its end, and every answer is new memory.
func TestCrewWorldMemory(t *testing.T) {
	for _, plain := range []crewWorld{busy(), stoppedWorld(), endedWorld()} {
		w := spareWorld(plain)
		impl.CrewOk(w)
		impl.CrewLeft(w)
		impl.CrewEnded(w)
		wantSpareWorld(t, w, plain)
	}
	a, _ := impl.CrewStart(3, 2, 4)
	wipeWorld(a)
	if b, _ := impl.CrewStart(3, 2, 4); impl.CrewLeft(b) != 41 {
		t.Error("an answer shares something")
	}
	c, _ := impl.CrewStart(3, 2, 4)
	lists := [][]int{c.Queue, c.Results, c.Ring, c.Out, c.Got, c.Shut}
	wipe(lists[2])
	if !slices.Equal(c.Shut, make([]int, 4)) || len(c.Ring) != 4 {
		t.Error("two lists share memory")
	}
}
