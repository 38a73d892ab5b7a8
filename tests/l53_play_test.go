package tests

import (
	"fmt"
	"math"
	"math/rand"
	"runtime"
	"slices"
	"testing"
	"time"

	"loop.example/teagle/impl"
)

type crewJob = impl.CrewJob

type crewTold = impl.CrewTold

func goodJob(items ...int) crewJob {
	return crewJob{Items: items}
}

func badJob(why int, items ...int) crewJob {
	return crewJob{Bad: why, Items: items}
}

func sameTold(a, b crewTold) bool {
	return a.Ok == b.Ok && slices.Equal(a.Items, b.Items) && slices.Equal(a.Dead, b.Dead) && a.Jobs == b.Jobs && a.Steps == b.Steps && a.Ops == b.Ops
}

// toldJobsOk is by itself whether jobs are ok.
func toldJobsOk(jobs []crewJob) bool {
	for _, job := range jobs {
		if job.Bad < 0 || len(job.Items) > 40 {
			return false
		}
	}
	return len(jobs) <= 60
}

// toldJobs is by itself what the first n jobs tell.
func toldJobs(jobs []crewJob, n int) crewTold {
	told := crewTold{Ok: true, Jobs: n}
	for at, job := range jobs[:n] {
		if job.Bad == 0 {
			told.Items = append(told.Items, job.Items...)
		} else {
			told.Dead = append(told.Dead, impl.CrewDead{At: at, Bad: job.Bad})
		}
	}
	return told
}

// toldPlay is by itself what comes of jobs by a crew whose moves are picked.
func toldPlay(jobs []crewJob, workers, window int, picks []int, cancel int) crewTold {
	if !toldJobsOk(jobs) || workers < 1 || workers > 8 || window < 1 || window > 16 || len(picks) > 2000 {
		return crewTold{}
	}
	w := crewWorld{Jobs: len(jobs), Workers: workers, Window: window, Hands: make([]crewHand, workers), Ring: slices.Repeat([]int{-1}, window), Room: window, Shut: make([]int, 4)}
	steps := 0
	for ; ; steps++ {
		if steps == cancel && w.User == 0 {
			w.User, w.Shut[3], w.Ops = 1, 1, w.Ops+1
		}
		moves := toldMoves(w)
		if len(moves) == 0 {
			break
		}
		at := 0
		if len(picks) > 0 {
			pick := picks[steps%len(picks)]
			at = (pick%len(moves) + len(moves)) % len(moves)
		}
		w = toldMove(w, moves[at])
	}
	told := toldJobs(jobs, len(w.Got))
	told.Steps, told.Ops = steps, w.Ops
	return told
}

// wantPlayed is P49 and P50: jobs by a crew whose moves are picked tell what the tests themselves tell; if the user does not stop, just what they tell one behind the other.
func wantPlayed(t *testing.T, jobs []crewJob, workers, window int, picks []int, cancel int) crewTold {
	t.Helper()
	got := impl.CrewPlay(jobs, workers, window, picks, cancel)
	if told := toldPlay(jobs, workers, window, picks, cancel); !sameTold(got, told) {
		t.Errorf("%d jobs, %d workers, window %d, stopped at %d: %.300v, but the tests tell %.300v", len(jobs), workers, window, cancel, got, told)
	}
	if !got.Ok {
		if !sameTold(got, crewTold{}) {
			t.Errorf("nothing, but %.300v", got)
		}
		return got
	}
	beginning := toldJobs(jobs, got.Jobs)
	beginning.Steps, beginning.Ops = got.Steps, got.Ops
	if !sameTold(got, beginning) || got.Ops > got.Steps+1 {
		t.Errorf("it is not what the first %d jobs tell: %.300v", got.Jobs, got)
	}
	all := 11*len(jobs) + workers + 6
	if cancel < 0 || cancel >= all {
		serial := impl.CrewSerial(jobs)
		serial.Steps, serial.Ops = all, 8*len(jobs)+workers+5
		if !sameTold(got, serial) {
			t.Errorf("by %d workers, window %d: %.300v, one behind the other %.300v", workers, window, got, serial)
		}
	}
	return got
}

// wantCrewRun is P55: jobs by goroutines tell what they tell one behind the other.
func wantCrewRun(t *testing.T, jobs []crewJob, workers, window int) {
	t.Helper()
	wanted := toldJobs(jobs, len(jobs))
	if got := impl.CrewSerial(jobs); !sameTold(got, wanted) {
		t.Errorf("one behind the other: %.300v, wanted %.300v", got, wanted)
	}
	if got := impl.CrewRun(jobs, workers, window); !sameTold(got, wanted) {
		t.Errorf("by %d workers, window %d: %.300v, wanted %.300v", workers, window, got, wanted)
	}
}

func someJobs() []crewJob {
	return []crewJob{goodJob(1, 2), badJob(7, 9), goodJob(3), goodJob(), badJob(1), goodJob(4, 5, 6), goodJob(-1, math.MaxInt, math.MinInt), badJob(math.MaxInt, 1, 2), goodJob(8)}
}

// P49, P55: jobs by each number of workers and each window.
func TestJobsOrdinary(t *testing.T) {
	jobs := someJobs()
	wanted := crewTold{Ok: true, Items: []int{1, 2, 3, 4, 5, 6, -1, math.MaxInt, math.MinInt, 8}, Dead: []impl.CrewDead{{At: 1, Bad: 7}, {At: 4, Bad: 1}, {At: 7, Bad: math.MaxInt}}, Jobs: 9}
	if got := impl.CrewSerial(jobs); !sameTold(got, wanted) {
		t.Errorf("%v", got)
	}
	for workers := 1; workers <= 8; workers++ {
		for window := 1; window <= 16; window++ {
			wantCrewRun(t, jobs, workers, window)
			wanted.Steps, wanted.Ops = 99+workers+6, 72+workers+5
			for _, picks := range [][]int{nil, {1}, {-1}, {3, 1, 4, 1, 5, 9, 2, 6}, {workers, -window, 1000}} {
				if got := wantPlayed(t, jobs, workers, window, picks, -1); !sameTold(got, wanted) {
					t.Errorf("%v", got)
				}
			}
		}
	}
}

// The document's example.
func TestJobsExample(t *testing.T) {
	jobs := []crewJob{goodJob(1), badJob(7), goodJob(2, 3)}
	got := wantPlayed(t, jobs, 2, 2, nil, -1)
	if !sameTold(got, crewTold{Ok: true, Items: []int{1, 2, 3}, Dead: []impl.CrewDead{{At: 1, Bad: 7}}, Jobs: 3, Steps: 41, Ops: 31}) {
		t.Errorf("%v", got)
	}
	wantCrewRun(t, jobs, 2, 2)
}

func TestJobsBounds(t *testing.T) {
	if got := wantPlayed(t, nil, 1, 1, nil, -1); !sameTold(got, crewTold{Ok: true, Steps: 7, Ops: 6}) {
		t.Errorf("%v", got)
	}
	full := slices.Repeat([]int{5}, impl.CrewMaxItems)
	many := func(n int, job crewJob) []crewJob { return slices.Repeat([]crewJob{job}, n) }
	for _, jobs := range [][]crewJob{nil, {}, many(1, goodJob()), many(impl.CrewMaxJobs, goodJob(1)), many(impl.CrewMaxJobs, goodJob(full...)), many(impl.CrewMaxJobs, badJob(3)), many(59, badJob(3, full...)), {goodJob(full...)}, {badJob(1, full...)}} {
		for _, sizes := range [][2]int{{1, 1}, {8, 1}, {1, 16}, {8, 16}, {3, 4}} {
			wantCrewRun(t, jobs, sizes[0], sizes[1])
			wantPlayed(t, jobs, sizes[0], sizes[1], []int{4, 7, -3}, -1)
		}
	}
	nothing := func(what string, told crewTold) {
		t.Helper()
		if !sameTold(told, crewTold{}) {
			t.Errorf("%s: %.200v", what, told)
		}
	}
	for what, jobs := range map[string][]crewJob{
		"too many jobs":               many(impl.CrewMaxJobs+1, goodJob()),
		"very many jobs":              many(1000000, goodJob()),
		"too many items":              {goodJob(append(full, 1)...)},
		"too many items of a bad one": {badJob(1, append(full, 1)...)},
		"too many items at the end":   append(many(59, goodJob(1)), goodJob(append(full, 1)...)),
		"very many items":             {goodJob(make([]int, 3000000)...)},
		"bad below 0":                 {badJob(-1)},
		"bad far below 0":             {goodJob(1), badJob(math.MinInt)},
		"bad below 0 at the end":      append(many(59, goodJob(1)), badJob(-1)),
	} {
		nothing(what, impl.CrewSerial(jobs))
		nothing(what, impl.CrewRun(jobs, 2, 2))
		nothing(what, impl.CrewPlay(jobs, 2, 2, nil, -1))
	}
	jobs := someJobs()
	for _, sizes := range [][2]int{{0, 1}, {9, 1}, {-1, 1}, {1, 0}, {1, 17}, {1, -1}, {math.MaxInt, 1}, {1, math.MaxInt}, {math.MinInt, 1}, {1, math.MinInt}, {0, 0}} {
		nothing("sizes", impl.CrewRun(jobs, sizes[0], sizes[1]))
		nothing("sizes", impl.CrewPlay(jobs, sizes[0], sizes[1], nil, -1))
		nothing("sizes, no jobs", impl.CrewRun(nil, sizes[0], sizes[1]))
	}
	if !impl.CrewSerial(jobs).Ok {
		t.Error("one behind the other no sizes are asked for")
	}
	wantPlayed(t, jobs, 3, 2, make([]int, impl.CrewMaxPicks), -1)
	wantPlayed(t, jobs, 3, 2, slices.Repeat([]int{3, 5, -7, 2}, 500), 40)
	nothing("too many picks", impl.CrewPlay(jobs, 3, 2, make([]int, impl.CrewMaxPicks+1), -1))
	nothing("very many picks", impl.CrewPlay(jobs, 3, 2, make([]int, 3000000), -1))
	for _, picks := range [][]int{{math.MaxInt}, {math.MinInt}, {math.MinInt, math.MaxInt, -1, 0}, {-2}, {-3, -4}, {}} {
		wantPlayed(t, jobs, 3, 2, picks, -1)
		wantPlayed(t, jobs, 3, 2, picks, 30)
	}
	if !sameTold(impl.CrewPlay(jobs, 3, 2, []int{}, 20), impl.CrewPlay(jobs, 3, 2, nil, 20)) {
		t.Error("no picks")
	}
}

// A pick below 0 is one from the end.
func TestJobsPicks(t *testing.T) {
	jobs := []crewJob{goodJob(1), goodJob(2)}
	// -1 is always the last of the moves that are ready.
	last := impl.CrewPlay(jobs, 2, 2, []int{-1}, 12)
	w, _ := impl.CrewStart(2, 2, 2)
	steps := 0
	for ; !impl.CrewEnded(w); steps++ {
		if steps == 12 {
			w, _ = impl.CrewCancel(w)
		}
		moves := impl.CrewMoves(w)
		w, _ = impl.CrewStep(w, moves[len(moves)-1])
	}
	if last.Steps != steps || last.Jobs != len(w.Got) || last.Ops != w.Ops {
		t.Errorf("%v, wanted %d steps, %d ops", last, steps, w.Ops)
	}
	for pick := -40; pick <= 40; pick++ {
		for _, cancel := range []int{-1, 5, 17, 25} {
			wantPlayed(t, jobs, 2, 2, []int{pick, pick / 3, -pick}, cancel)
		}
	}
}

// P50: the user stops at each step: what came is a beginning.
func TestJobsCancel(t *testing.T) {
	jobs := []crewJob{goodJob(1, 2), badJob(7, 9), goodJob(3), goodJob(4)}
	came := map[int]bool{}
	for _, picks := range [][]int{nil, {-1}, {2, 5, 3}, {1, 0}} {
		for _, sizes := range [][2]int{{1, 1}, {2, 2}, {3, 1}, {2, 5}} {
			all := 44 + sizes[0] + 6
			for cancel := -2; cancel <= all+2; cancel++ {
				got := wantPlayed(t, jobs, sizes[0], sizes[1], picks, cancel)
				came[got.Jobs] = true
				if cancel == 0 && (got.Jobs != 0 || len(got.Items) != 0) {
					t.Errorf("stopped ahead of the first step: %v", got)
				}
				if cancel >= 0 && cancel < all && got.Steps > all {
					t.Errorf("stopped at %d: %d steps", cancel, got.Steps)
				}
				if cancel == all-1 {
					// Only the user was left to end, and ends by stopping.
					if got.Steps != all-1 || got.Jobs != 4 || got.Ops != 32+sizes[0]+5 {
						t.Errorf("stopped at the last step: %v", got)
					}
				}
			}
			for _, cancel := range []int{math.MaxInt, math.MinInt, 100000} {
				wantPlayed(t, jobs, sizes[0], sizes[1], picks, cancel)
			}
		}
	}
	for n := range 5 {
		if !came[n] {
			t.Errorf("the user never stopped with %d jobs", n)
		}
	}
	if got := wantPlayed(t, nil, 2, 1, nil, 0); got.Jobs != 0 || !got.Ok {
		t.Errorf("%v", got)
	}
}

func chanceJobs(r *rand.Rand) (jobs []crewJob) {
	for range []int{0, 1, 2, 5, 13, 60}[r.Intn(6)] {
		job := crewJob{Bad: max(0, r.Intn(9)-5)}
		for range r.Intn(4) {
			job.Items = append(job.Items, r.Intn(100))
		}
		jobs = append(jobs, job)
	}
	return jobs
}

// P49, P50, P55: many jobs, crews and picks by chance.
func TestJobsMany(t *testing.T) {
	r := rand.New(rand.NewSource(53))
	for range 400 {
		jobs := chanceJobs(r)
		workers, window := 1+r.Intn(8), 1+r.Intn(16)
		var picks []int
		for range []int{0, 1, 3, 50, 800}[r.Intn(5)] {
			picks = append(picks, int(r.Uint64()>>r.Intn(64)))
		}
		cancel := []int{-1, r.Intn(40), r.Intn(11*len(jobs) + workers + 8)}[r.Intn(3)]
		wantPlayed(t, jobs, workers, window, picks, cancel)
		wantCrewRun(t, jobs, workers, window)
	}
}

// sideBySide does something so many times in each of several goroutines.
func sideBySide(hands, times int, do func(i int)) {
	done := make(chan struct{})
	for range hands {
		go func() {
			for i := range times {
				do(i)
			}
			done <- struct{}{}
		}()
	}
	for range hands {
		<-done
	}
}

// wantNoneLeft: soon there are no more goroutines than there were before.
func wantNoneLeft(t *testing.T, before int) {
	t.Helper()
	for range 500 {
		if runtime.NumGoroutine() <= before {
			return
		}
		time.Sleep(10 * time.Millisecond)
	}
	t.Errorf("%d goroutines, %d before", runtime.NumGoroutine(), before)
}

// P55: goroutines always tell the same, and none is left when they have told.
func TestJobsRunAgain(t *testing.T) {
	before := runtime.NumGoroutine()
	r := rand.New(rand.NewSource(531))
	for i := range 2000 {
		wantCrewRun(t, chanceJobs(r), 1+i%8, 1+i%16)
	}
	sideBySide(8, 100, func(i int) { wantCrewRun(t, someJobs(), 1+i%8, 1+i%16) })
	wantNoneLeft(t, before)
}

// Nothing is written into an argument or behind its end, and every answer is new memory.
func TestJobsMemory(t *testing.T) {
	for at, tell := range []func(jobs []crewJob, picks []int) crewTold{
		func(jobs []crewJob, picks []int) crewTold { return impl.CrewSerial(jobs) },
		func(jobs []crewJob, picks []int) crewTold { return impl.CrewRun(jobs, 3, 4) },
		func(jobs []crewJob, picks []int) crewTold { return impl.CrewPlay(jobs, 3, 4, picks, -1) },
		func(jobs []crewJob, picks []int) crewTold { return impl.CrewPlay(jobs, 3, 4, picks, 60) },
	} {
		jobs := someJobs()[:8]
		for i := range jobs {
			jobs[i].Items = withSpare(jobs[i].Items, 77)
		}
		spare := append(jobs, goodJob(77))
		jobs = spare[:8]
		picks := withSpare([]int{4, -2}, 77)
		first := tell(jobs, picks)
		wanted := fmt.Sprint(first)
		for i := range first.Items[:cap(first.Items)] {
			first.Items[:cap(first.Items)][i] = 1234
		}
		wipe(first.Dead)
		if got := fmt.Sprint(tell(jobs, picks)); got != wanted {
			t.Errorf("%d: an answer shares something: %s, wanted %s", at, got, wanted)
		}
		for i, job := range jobs {
			if !slices.Equal(job.Items, someJobs()[i].Items) || job.Bad != someJobs()[i].Bad || !stillSpare(job.Items, 77) {
				t.Errorf("%d: the job %d was changed", at, i)
			}
		}
		if !stillSpare(picks, 77) || !slices.Equal(picks, []int{4, -2}) || spare[8].Items[0] != 77 {
			t.Errorf("%d: an argument was changed", at)
		}
	}
	// Of one job its items are told in new memory, too.
	one := []crewJob{goodJob(1, 2, 3)}
	told := impl.CrewSerial(one)
	told.Items[0] = 9
	ran := impl.CrewRun(one, 1, 1)
	ran.Items[1] = 9
	played := impl.CrewPlay(one, 1, 1, nil, -1)
	played.Items[2] = 9
	if !slices.Equal(one[0].Items, []int{1, 2, 3}) {
		t.Error("items share memory")
	}
}
