package tests

import (
	"fmt"
	"math"
	"math/rand"
	"slices"
	"strings"
	"testing"

	"loop.example/teagle/impl"
)

// savedIn is by itself what was saved of a fold; nothing, if nothing was.
func savedIn(w teaWorld, name string) foldSnap {
	for _, x := range w.Snaps {
		if x.Plan == name {
			return x
		}
	}
	return foldSnap{}
}

// toldTeaSum is by itself what a world's fold has come to.
func toldTeaSum(w teaWorld, name string) (foldSum, int) {
	if !toldTeaOk(w) {
		return foldSum{}, 0
	}
	store := toldStore(w.Disk)
	for _, p := range w.Folds {
		if p.Name == name && store.Code == 0 {
			return toldFrom(w.Book, p, savedIn(w, name), store.Records)
		}
	}
	return foldSum{}, 0
}

// toldTeaBoard is by itself the board of a world.
func toldTeaBoard(w teaWorld) string {
	if !toldTeaOk(w) {
		return ""
	}
	log := toldOpen(w.Disk)
	if log.Code != 0 {
		return fmt.Sprintf("no log %d\n", log.Code)
	}
	board := ""
	for _, x := range log.Plan.Parts {
		board += fmt.Sprintf("closed s%d %d to %d, %d bytes\n", x.Num, x.First, x.Next-1, x.Size)
	}
	board += fmt.Sprintf("open s%d from %d, %d bytes%s\nnext %d\n", log.Plan.Open, log.Plan.First, log.Size, map[bool]string{true: ", torn"}[log.Torn], log.Next)
	for _, r := range toldStore(w.Disk).Records {
		board += recordText(r) + "\n"
	}
	for _, p := range w.Folds {
		if s, how := toldTeaSum(w, p.Name); how == 0 {
			board += "fold " + p.Name + " none\n"
		} else {
			board += fmt.Sprintf("fold %s %s at %d, %d missed, %s\n", p.Name, []string{"", "saved", "anew"}[how], s.At, s.Missed, impl.TreeWrite(s.State))
		}
	}
	return board
}

// wantView: what a world shows is what the tests themselves tell; P77 and P87 hold.
func wantView(t *testing.T, w teaWorld) {
	t.Helper()
	store, ok := toldStore(w.Disk), toldTeaOk(w)
	for _, hold := range []int{impl.HoldAlone, impl.HoldKey, -1, 2} {
		wanted := deadDone{}
		if ok && store.Code == 0 {
			wanted = toldReplay(w.Book, store.Records, hold, nil)
		}
		if got := impl.TeaReplay(w, hold); !sameDead(got, wanted) {
			t.Errorf("hold %d: %.300s, but the tests tell %.300s\n%s", hold, deadText(got), deadText(wanted), teaText(w))
		}
	}
	for _, name := range []string{"", "p", "sum", "total", "a", "nobody"} {
		s, how := impl.TeaSum(w, name)
		if told, toldHow := toldTeaSum(w, name); how != toldHow || !sameSum(s, told) {
			t.Errorf("%s: %d %s, but the tests tell %d %s\n%s", name, how, sumText(s), toldHow, sumText(told), teaText(w))
		}
	}
	board := impl.TeaBoard(w)
	if told := toldTeaBoard(w); board != told {
		t.Errorf("the board is\n%s, but the tests tell\n%s", board, told)
	}
	if log := impl.LogOpen(w.Disk); ok && log.Code == 0 {
		if lines := strings.Count(board, "\n"); lines != len(log.Plan.Parts)+len(impl.StoreOpen(w.Disk).Records)+len(w.Folds)+2 {
			t.Errorf("%d lines:\n%s", lines, board)
		}
	}
}

// wantCrewed is P77: a crew gives what TeaReplay does, or, if the user stops, what the first so many records give.
func wantCrewed(t *testing.T, w teaWorld, hold, workers, window int, picks []int, cancel int) pipeTold {
	t.Helper()
	got := impl.TeaCrew(w, hold, workers, window, picks, cancel)
	wanted, store := pipeTold{}, impl.StoreOpen(w.Disk)
	if impl.TeaOk(w) && store.Code == 0 {
		wanted = toldPipe(w.Book, store.Records, hold, workers, window, picks, cancel)
	}
	if !samePipe(got, wanted) {
		t.Errorf("%s, but the tests tell %s", pipeText(got), pipeText(wanted))
	}
	if !got.Ok {
		return got
	}
	if all := 11*len(store.Records) + workers + 6; got.Steps > all {
		t.Errorf("%d steps of %d records", got.Steps, len(store.Records))
	}
	if cancel < 0 && !sameDead(got.Done, impl.TeaReplay(w, hold)) || !sameDead(got.Done, impl.DeadReplay(w.Book, store.Records[:got.Jobs], hold, nil)) {
		t.Errorf("the user got %s", pipeText(got))
	}
	return got
}

// wantTeaBoard: a world has just this board, and this one of its replay with HoldKey.
func wantTeaBoard(t *testing.T, w teaWorld, board, replay string) {
	t.Helper()
	wantView(t, w)
	if got := impl.TeaBoard(w); got != board {
		t.Errorf("the board is\n%swanted\n%s", got, board)
	}
	if got := impl.DeadBoard(impl.TeaReplay(w, impl.HoldKey)); got != replay {
		t.Errorf("the replay is\n%swanted\n%s", got, replay)
	}
}

// exampleRows are the document's own script.
func exampleRows(t *testing.T) []teaRow {
	return []teaRow{{tMend, 0, 0}, {tVersion(t, "a", "{n:num}", ""), 0, 0}, {tAppend(t, "x", "a@1{n:3}"), 1, 0}, {tAppend(t, "x", "a@1{n:0}"), 2, 0}, {tAppend(t, "y", "a@1{n:4}"), 3, 0}, {tVersion(t, "a", "{n:num}", "emit form n div 12 get n old end"), 0, 0}, {tRoll, 0, 0}, {losing(tRite(0, 1), 3, 1), 0, 6}, {tMend, 0, 0}, {tRite(0, 1), 0, 0}, {tAppend(t, "x", "a@2{n:6}"), 4, 0}}
}

// Ordinary worlds whose replays, sums and boards are known; the document's own.
func TestViewOrdinary(t *testing.T) {
	rows := exampleRows(t)
	wantTeaBoard(t, wantRow(t, rows...), "closed s3 1 to 3, 60 bytes\nopen s2 from 4, 20 bytes\nnext 5\n1 x a@2{n:4}\n2 x a@1{n:0}\n3 y a@2{n:3}\n4 x a@2{n:6}\n", "1 x a@2{n:4}\n3 y a@2{n:3}\n2 x dead 2 0 a@1\n4 x dead 10 behind 2\nheld x behind 2\n")
	rows = append(rows, teaRow{tFold(sumPlan(t, "sum")), 0, 0}, teaRow{tFold(totalPlan(t)), 0, 0}, teaRow{tSnap("total", 1), 4, 0})
	wantTeaBoard(t, wantRow(t, rows...), "closed s3 1 to 3, 60 bytes\nopen s2 from 4, 20 bytes\nnext 5\n1 x a@2{n:4}\n2 x a@1{n:0}\n3 y a@2{n:3}\n4 x a@2{n:6}\nfold sum anew at 4, 0 missed, {n:13}\nfold total saved at 4, 0 missed, {n:13}\n", "1 x a@2{n:4}\n3 y a@2{n:3}\n2 x dead 2 0 a@1\n4 x dead 10 behind 2\nheld x behind 2\n")
	rows = append(rows, teaRow{tAppend(t, "z", "a@2{n:999999999}"), 5, 0}, teaRow{tAppend(t, "z", "a@1{n:1}"), 6, 0}, teaRow{tAppend(t, "q", "b@1{}"), 7, 0})
	w := wantRow(t, rows...)
	wantTeaBoard(t, w, "closed s3 1 to 3, 60 bytes\nopen s2 from 4, 79 bytes\nnext 8\n1 x a@2{n:4}\n2 x a@1{n:0}\n3 y a@2{n:3}\n4 x a@2{n:6}\n5 z a@2{n:999999999}\n6 z a@1{n:1}\n7 q b@1{}\nfold sum anew at 6, 1 missed, {n:25}\nfold total saved at 6, 1 missed, {n:25}\n", "1 x a@2{n:4}\n3 y a@2{n:3}\n5 z a@2{n:999999999}\n6 z a@2{n:12}\n2 x dead 2 0 a@1\n4 x dead 10 behind 2\n7 q dead 8 0 b@1\nheld q behind 7\nheld x behind 2\n")
	for _, row := range []struct {
		name string
		how  int
	}{{"sum", impl.FromStart}, {"total", impl.FromSnap}} {
		if s, how := impl.TeaSum(w, row.name); how != row.how || sumText(s) != "at 6, 1 missed, {n:25}" {
			t.Errorf("%s: %d %s", row.name, how, sumText(s))
		}
	}
	// A type that is known behind its events; then `total` is folded from the start, as the book has grown.
	rows = append(rows, teaRow{tVersion(t, "b", "{}", ""), 0, 0})
	wantTeaBoard(t, wantRow(t, rows...), "closed s3 1 to 3, 60 bytes\nopen s2 from 4, 79 bytes\nnext 8\n1 x a@2{n:4}\n2 x a@1{n:0}\n3 y a@2{n:3}\n4 x a@2{n:6}\n5 z a@2{n:999999999}\n6 z a@1{n:1}\n7 q b@1{}\nfold sum anew at 7, 1 missed, {n:25}\nfold total anew at 7, 1 missed, {n:25}\n", "1 x a@2{n:4}\n3 y a@2{n:3}\n5 z a@2{n:999999999}\n6 z a@2{n:12}\n7 q b@1{}\n2 x dead 2 0 a@1\n4 x dead 10 behind 2\nheld x behind 2\n")
}

// Boards: no log with each code, closed segments without positions, a torn one, records of several events, one that is not read, folds of each sort.
func TestViewBoards(t *testing.T) {
	book := bookOf(t, divLines)
	folds := []foldPlan{sumPlan(t, "sum")}
	for what, row := range map[string]struct {
		w     teaWorld
		board string
	}{
		"nothing":       {teaWorld{}, "no log 1\n"},
		"no log":        {teaWorld{Disk: sureDisk("s1", "", "m1", "junk"), Folds: folds, Book: book}, "no log 1\n"},
		"no segment":    {teaWorld{Disk: sureDisk("m1", "open 1 1\nend\n"), Folds: folds, Book: book}, "no log 2\n"},
		"an empty log":  {teaWorld{Disk: sureDisk("s1", "", "m1", "open 1 1\nend\n")}, "open s1 from 1, 0 bytes\nnext 1\n"},
		"with a fold":   {teaWorld{Disk: sureDisk("s1", "", "m1", "open 1 1\nend\n"), Folds: folds, Book: book}, "open s1 from 1, 0 bytes\nnext 1\nfold sum anew at 0, 0 missed, {n:0}\n"},
		"without types": {teaWorld{Disk: sureDisk("s1", "", "m1", "open 1 1\nend\n"), Folds: folds}, "open s1 from 1, 0 bytes\nnext 1\nfold sum none\n"},
		"no positions":  {teaWorld{Disk: sureDisk("s1", "", "s7", "", "s9", "", "m1", "seal 7 1 1 0\nseal 1 1 1 0\nopen 9 1\nend\n")}, "closed s7 1 to 0, 0 bytes\nclosed s1 1 to 0, 0 bytes\nopen s9 from 1, 0 bytes\nnext 1\n"},
		"a gap":         {teaWorld{Disk: sureDisk("s1", "", "s9", "", "m1", "seal 1 1 50 0\nopen 9 50\nend\n")}, "closed s1 1 to 49, 0 bytes\nopen s9 from 50, 0 bytes\nnext 50\n"},
		"torn":          {teaWorld{Disk: sureDisk("s1", frames(rec(1, recordBytes(recordAt(t, 1, "k", "a@1{n:3}", "b@1{}"))))+"\x00\x01", "m1", "open 1 1\nend\n"), Folds: folds, Book: book}, "open s1 from 1, 27 bytes, torn\nnext 2\n1 k a@1{n:3} b@1{}\nfold sum anew at 0, 0 missed, {n:0}\n"},
		"not read":      {teaWorld{Disk: sureDisk("s1", frames(rec(1, recordBytes(recordAt(t, 1, "k", "a@1{n:3}"))), rec(2, "junk")), "m1", "open 1 1\nend\n"), Folds: folds, Book: book}, "open s1 from 1, 29 bytes\nnext 3\nfold sum none\n"},
		"torn, empty":   {teaWorld{Disk: sureDisk("s1", "\x00", "m1", "open 1 1\nend\n")}, "open s1 from 1, 0 bytes, torn\nnext 1\n"},
	} {
		if !toldTeaOk(row.w) {
			t.Fatalf("%s: the world is not ok", what)
		}
		wantView(t, row.w)
		if board := impl.TeaBoard(row.w); board != row.board {
			t.Errorf("%s: %q, wanted %q", what, board, row.board)
		}
		if strings.HasPrefix(row.board, "no log") || what == "not read" {
			if s, how := impl.TeaSum(row.w, "sum"); how != impl.FromNowhere || !sameSum(s, foldSum{}) || impl.TeaReplay(row.w, 0).Ok || impl.TeaCrew(row.w, 0, 1, 1, nil, -1).Ok {
				t.Errorf("%s: something is shown", what)
			}
		}
	}
	// Folds that are saved, anew, and do not fit the book any more.
	w := wantRow(t, teaRow{tMend, 0, 0}, teaRow{tVersion(t, "a", "{n:num}", ""), 0, 0}, teaRow{tVersion(t, "b", "{}", ""), 0, 0}, teaRow{tFold(sumPlan(t, "p")), 0, 0}, teaRow{tFold(foldPlan{Name: "q", States: []foldState{{Kind: kForm("")}}, Start: form("")}), 0, 0}, teaRow{tAppend(t, "x", "a@1{n:3}"), 1, 0}, teaRow{tSnap("p", 1), 1, 0}, teaRow{tSnap("q", 1), 1, 0})
	wantView(t, w)
	if board := impl.TeaBoard(w); !strings.HasSuffix(board, "fold p saved at 1, 0 missed, {n:3}\nfold q saved at 1, 0 missed, {}\n") {
		t.Errorf("%s", board)
	}
	w, _, _ = wantTea(t, w, tVersion(t, "a", "{t:text}", "emit form t show get n old end"))
	wantView(t, w)
	if board := impl.TeaBoard(w); !strings.HasSuffix(board, "fold p none\nfold q anew at 1, 0 missed, {}\n") {
		t.Errorf("%s", board)
	}
	if s, how := impl.TeaSum(w, "p"); how != impl.FromNowhere || !sameSum(s, foldSum{}) {
		t.Errorf("%d %s", how, sumText(s))
	}
	w.Folds[0], w.Folds[1] = foldPlan{Name: "p", Steps: make([]foldStep, 9)}, foldPlan{Name: "q", Start: num(5)}
	wantView(t, w)
}

// Worlds that are not ok; workers, windows and holds that there are not.
func TestViewNothing(t *testing.T) {
	good := wantRow(t, append(exampleRows(t), teaRow{tFold(sumPlan(t, "sum")), 0, 0}, teaRow{tSnap("sum", 1), 4, 0})...)
	for i, change := range []func(w *teaWorld){
		func(w *teaWorld) { w.Book[0].Name = "A" }, func(w *teaWorld) { w.Disk.Files[0].Kept = -1 }, func(w *teaWorld) { w.Folds[0].Name = "" }, func(w *teaWorld) { w.Snaps[0].Version = 5 }, func(w *teaWorld) { w.Folds = append(w.Folds, w.Folds[0]) }, func(w *teaWorld) { w.Snaps[0].Body = tree{} },
	} {
		w := roomy(good)
		change(&w)
		wantView(t, w)
		if p := wantCrewed(t, w, 0, 1, 1, nil, -1); p.Ok || impl.TeaBoard(w) != "" || impl.TeaReplay(w, 0).Ok {
			t.Errorf("%d: a world that is not ok shows something", i)
		}
		if s, how := impl.TeaSum(w, "sum"); how != impl.FromNowhere || !sameSum(s, foldSum{}) {
			t.Errorf("%d: %d %s", i, how, sumText(s))
		}
	}
	for _, sizes := range [][2]int{{0, 1}, {9, 1}, {1, 0}, {1, 17}, {-1, -1}, {math.MaxInt, 1}} {
		if p := wantCrewed(t, good, impl.HoldKey, sizes[0], sizes[1], nil, -1); p.Ok {
			t.Errorf("%s", pipeText(p))
		}
	}
	for _, hold := range []int{-1, 2, math.MaxInt} {
		if p := wantCrewed(t, good, hold, 1, 1, nil, -1); p.Ok || impl.TeaReplay(good, hold).Ok {
			t.Errorf("hold %d", hold)
		}
	}
	for _, workers := range []int{1, 3, 8} {
		for _, window := range []int{1, 2, 16} {
			for _, picks := range [][]int{nil, {-3, 9}, {math.MinInt}} {
				for cancel := -1; cancel <= 11*4+workers+8; cancel++ {
					wantCrewed(t, good, cancel&1, workers, window, picks, cancel)
				}
			}
		}
	}
	if p := wantCrewed(t, good, 0, 1, 1, make([]int, 2001), -1); p.Ok {
		t.Error("too many picks")
	}
	// More records than a crew does, and than are replayed.
	w := teaWorld{Disk: good.Disk, Book: good.Book, Folds: good.Folds}
	add := appendAct(recordBytes(recordAt(t, 1, "x", "a@2{n:1}")))
	for len(impl.StoreOpen(w.Disk).Records) < 60 {
		w.Disk, _, _ = impl.LogStep(w.Disk, add)
	}
	if p := wantCrewed(t, w, 0, 4, 4, nil, -1); !p.Ok {
		t.Error("60 records")
	}
	w.Disk, _, _ = impl.LogStep(w.Disk, add)
	if p := wantCrewed(t, w, 0, 4, 4, nil, -1); p.Ok || !impl.TeaReplay(w, 0).Ok {
		t.Error("61 records")
	}
	for len(impl.StoreOpen(w.Disk).Records) < 201 {
		w.Disk, _, _ = impl.LogStep(w.Disk, add)
	}
	wantView(t, w)
	if _, how := impl.TeaSum(w, "sum"); how != impl.FromNowhere || impl.TeaReplay(w, 0).Ok {
		t.Error("201 records")
	}
}

// follower follows what happens to a world: the records that were appended, and how many of them are sure.
type follower struct {
	w    teaWorld
	all  []record
	sure int
	cuts int
}

// do lets something happen, and tells the code.
func (f *follower) do(t *testing.T, e teaEvent) int {
	t.Helper()
	before := f.w
	next, pos, code := impl.TeaDo(f.w, e)
	f.w = next
	if e.Kind == impl.TeaAppend && (code == 0 || code == impl.LogCut) {
		f.all = append(f.all, record{Pos: len(f.all) + 1, Key: e.Key, Events: []event{e.Event}})
		if code == 0 && pos != len(f.all) {
			t.Errorf("appended at %d, wanted %d", pos, len(f.all))
		}
	}
	log := impl.LogOpen(f.w.Disk)
	if code == impl.LogCut {
		f.cuts++
		left := 0
		if log.Code == 0 {
			left = log.Next - 1
		}
		if left < f.sure || left > len(f.all) || log.Code != 0 && log.Code != impl.LogNone {
			t.Errorf("kind %d, power lost: code %d, %d records are left of %d, %d were sure", e.Kind, log.Code, left, len(f.all), f.sure)
			left = min(left, len(f.all))
		}
		f.all = f.all[:left]
		f.sure = min(f.sure, left)
	}
	synced := slices.Contains([]int{impl.TeaSync, impl.TeaRoll, impl.TeaMend, impl.TeaSnap}, e.Kind) && code == 0
	if synced || e.Kind == impl.TeaSnap && code == impl.TeaNoSnap {
		f.sure = len(f.all)
	}
	if e.Kind == impl.TeaVersion && code == 0 && len(f.w.Book) > len(before.Book) && log.Code == 0 {
		f.wantLife(t, before)
	}
	return code
}

// wantLife is P82: when a type becomes known, its events come to life, and nothing else changes.
func (f *follower) wantLife(t *testing.T, before teaWorld) {
	t.Helper()
	list := impl.StoreOpen(f.w.Disk).Records
	for _, hold := range []int{impl.HoldAlone, impl.HoldKey} {
		gave, gives := impl.TeaReplay(before, hold), impl.TeaReplay(f.w, hold)
		again := impl.DeadAgain(f.w.Book, list, hold, gave.Dead)
		if !again.Ok || len(gave.Given)+len(again.Given) != len(gives.Given) || !slices.Equal(again.Dead, gives.Dead) {
			t.Errorf("hold %d: it gave %.300s, again %.300s, gives %.300s", hold, deadText(gave), deadText(again), deadText(gives))
		}
		if !wantCompleted(t, before.Book, f.w.Book, list, hold) {
			t.Errorf("hold %d: what was not dead is lifted in another way", hold)
		}
	}
}

// want is P75 and P76: what is delivered, and what each fold is, is that of the events that were appended.
func (f *follower) want(t *testing.T) {
	t.Helper()
	log := impl.LogOpen(f.w.Disk)
	if log.Code != 0 {
		if log.Code != impl.LogNone || len(f.all) != 0 {
			t.Errorf("no log %d, with %d records", log.Code, len(f.all))
		}
		return
	}
	if log.Next != len(f.all)+1 {
		t.Errorf("next %d behind %d records", log.Next, len(f.all))
	}
	for _, hold := range []int{impl.HoldAlone, impl.HoldKey} {
		if got, wanted := impl.TeaReplay(f.w, hold), impl.DeadReplay(f.w.Book, f.all, hold, nil); !got.Ok || !sameDead(got, wanted) {
			t.Errorf("hold %d: %.400s, what was appended gives %.400s", hold, deadText(got), deadText(wanted))
		}
	}
	for _, p := range f.w.Folds {
		wanted, fits := impl.FoldAll(f.w.Book, p, f.all)
		if s, how := impl.TeaSum(f.w, p.Name); fits != (how != impl.FromNowhere) || !sameSum(s, wanted) {
			t.Errorf("%s: %d %s, from the start %s", p.Name, how, sumText(s), sumText(wanted))
		}
	}
}

// wantNewest is P78: a log can always be brought to the newest versions, and nothing is lost by it. It is how many records are of the newest versions then.
func (f *follower) wantNewest(t *testing.T) int {
	t.Helper()
	g := follower{w: f.w, all: slices.Clone(f.all), sure: f.sure}
	had := impl.LogOpen(f.w.Disk).Code == 0
	before := impl.TeaReplay(f.w, impl.HoldKey)
	refused := false
	for _, e := range []teaEvent{tMend, tRoll} {
		code := g.do(t, e)
		refused = refused || code != 0
		if code != 0 && code != impl.LogFull {
			t.Errorf("kind %d is refused with %d", e.Kind, code)
		}
	}
	if code := g.do(t, tRite(0, len(impl.LogOpen(g.w.Disk).Plan.Parts))); code != 0 {
		refused = true
		if code != impl.LogFull {
			t.Errorf("written anew: code %d", code)
		}
	}
	g.want(t)
	if behind := impl.TeaReplay(g.w, impl.HoldKey); had && !sameDead(before, behind) {
		t.Errorf("%.300s becomes %.300s", deadText(before), deadText(behind))
	}
	newest := 0
	for _, r := range impl.StoreOpen(g.w.Disk).Records {
		anew, code := impl.RecAnew(g.w.Book, r)
		if !refused && (!sameRecord(anew, r) || code == impl.AnewDropped) {
			t.Errorf("%.200s becomes %.200s, code %d", recordText(r), recordText(anew), code)
		}
		if code == impl.AnewMade {
			newest++
		}
	}
	return newest
}

// P75, P76, P78, P82: much that happens by chance, with losses of power, rewritings, mends, new versions, folds and snapshots.
func TestViewMany(t *testing.T) {
	t.Parallel()
	r := rand.New(rand.NewSource(84))
	kinds, hows, newest, cuts, types := map[int]int{}, map[int]int{}, 0, 0, 0
	for round := range 6 {
		var f follower
		for step := range impl.TeaMaxEvents {
			e := chanceTea(t, r, f.w, round%3 > 0)
			if step == 0 {
				e = tMend
			}
			// A book that grows too much is slow to look at.
			if e.Kind == impl.TeaVersion && len(impl.ChainWrite(f.w.Book)) > 2500 {
				continue
			}
			if f.do(t, e) == 0 {
				kinds[e.Kind]++
				if e.Kind == impl.TeaVersion && nothingIn(e.Lift) {
					types++
				}
			}
			if step%9 == 0 || e.Power.Cuts || step%4 == 0 && e.Kind == impl.TeaSnap {
				f.want(t)
			}
			if step%40 == 39 {
				newest += f.wantNewest(t)
				wantView(t, f.w)
				wantCrewed(t, f.w, r.Intn(2), 1+r.Intn(8), 1+r.Intn(16), []int{r.Intn(99), -r.Intn(99)}, r.Intn(400)-100)
				for _, p := range f.w.Folds {
					_, how := impl.TeaSum(f.w, p.Name)
					hows[how]++
				}
			}
			if t.Failed() {
				t.Fatalf("round %d, step %d, kind %d", round, step, e.Kind)
			}
		}
		cuts += f.cuts
	}
	for kind := 1; kind <= 8; kind++ {
		if kinds[kind] < 5 {
			t.Errorf("kind %d happened %d times", kind, kinds[kind])
		}
	}
	if newest < 40 || cuts < 25 || types < 5 || hows[0] < 1 || hows[1] < 1 || hows[2] < 1 {
		t.Errorf("%d of the newest versions, power lost %d times, %d types, folds %v", newest, cuts, types, hows)
	}
}

// P75: the same that is appended, with losses of power, rewritings and mends between and without.
func TestViewSame(t *testing.T) {
	lift := "choose less get n old 0 drop emit form n div 12 get n old end"
	plain := follower{}
	busy := follower{}
	both := func(e teaEvent) {
		t.Helper()
		if a, b := plain.do(t, e), busy.do(t, e); a != 0 || b != 0 {
			t.Errorf("kind %d: codes %d and %d", e.Kind, a, b)
		}
	}
	both(tMend)
	both(tVersion(t, "a", "{n:num}", ""))
	both(tFold(sumPlan(t, "sum")))
	versions := []teaEvent{tVersion(t, "a", "{n:num}", lift), tVersion(t, "b", "{}", ""), tVersion(t, "a", "{n:num}", "both emit old send b 1 form end")}
	for i := range 36 {
		both(tAppend(t, string(rune('x'+i%3)), []string{"a@1{n:3}", "a@1{n:0}", "b@1{}", "a@1{n:-1}", "a@1{n:4}", "c@1{}"}[i%6]))
		if i%12 == 5 {
			both(versions[i/12])
		}
		for _, e := range []teaEvent{tSync, losing(tRoll, i%9, i%4, 0, 9), tMend, tRoll, losing(tRite(0, 1), i%13, i%5, 3, 3, 3, 3, 3), tMend, tRite(i%2, 1), tSnap("sum", 1), tRite(0, 2), losing(tMend, i%3, 0)} {
			busy.do(t, e)
		}
		busy.want(t)
		plain.want(t)
		for _, hold := range []int{impl.HoldAlone, impl.HoldKey} {
			if a, b := impl.TeaReplay(plain.w, hold), impl.TeaReplay(busy.w, hold); !sameDead(a, b) {
				t.Fatalf("%d: %.400s\n%.400s", i, deadText(a), deadText(b))
			}
		}
		a, _ := impl.TeaSum(plain.w, "sum")
		if b, _ := impl.TeaSum(busy.w, "sum"); !sameSum(a, b) {
			t.Errorf("%d: %s, %s", i, sumText(a), sumText(b))
		}
		if i%6 == 0 {
			busy.wantNewest(t)
		}
	}
}

// P82: a type becomes known behind its events; some of them stand behind dead ones of their keys.
func TestViewLife(t *testing.T) {
	var f follower
	for _, e := range []teaEvent{tMend, tVersion(t, "a", "{n:num}", ""), tVersion(t, "a", "{n:num}", "choose same get n old 9 fail 3 emit old"), tAppend(t, "x", "late@1{n:1}"), tAppend(t, "y", "a@1{n:9}"), tAppend(t, "x", "a@1{n:2}"), tAppend(t, "y", "late@1{n:3}"), tAppend(t, "x", "late@2{n:4}"), tAppend(t, "z", "a@1{n:5}"), tAppend(t, "z", "late@1{}"), tAppend(t, "w", "late@1{n:6}"), tRoll, tRite(0, 1)} {
		if code := f.do(t, e); code != 0 {
			t.Errorf("kind %d: code %d", e.Kind, code)
		}
	}
	wantTeaBoard(t, f.w, "closed s3 1 to 8, 170 bytes\nopen s2 from 9, 0 bytes\nnext 9\n1 x late@1{n:1}\n2 y a@1{n:9}\n3 x a@2{n:2}\n4 y late@1{n:3}\n5 x late@2{n:4}\n6 z a@2{n:5}\n7 z late@1{}\n8 w late@1{n:6}\n", "6 z a@2{n:5}\n1 x dead 8 0 late@1\n2 y dead 5 3 a@1\n3 x dead 10 behind 1\n4 y dead 10 behind 2\n5 x dead 10 behind 1\n7 z dead 8 0 late@1\n8 w dead 8 0 late@1\nheld w behind 8\nheld x behind 1\nheld y behind 2\nheld z behind 7\n")
	f.do(t, tVersion(t, "late", "{n:num}", ""))
	f.want(t)
	wantTeaBoard(t, f.w, impl.TeaBoard(f.w), "1 x late@1{n:1}\n3 x a@2{n:2}\n6 z a@2{n:5}\n8 w late@1{n:6}\n2 y dead 5 3 a@1\n4 y dead 10 behind 2\n5 x dead 8 0 late@2\n7 z dead 9 0 late@1\nheld x behind 5\nheld y behind 2\nheld z behind 7\n")
}

// Nothing is written into an argument or behind its end, and every answer is new memory.
func TestViewMemory(t *testing.T) {
	long := foldOf(t, bookOf(t, "type a\nversion {l:[text]}\n"), "fold names\nstate {first:[text]}\nsave form first get l old end\nlift form l get first old end\nstate {l:[text]}\nstart {l:[\"start\"]}\non a new\n")
	w := roomy(wantRow(t, teaRow{tMend, 0, 0}, teaRow{tVersion(t, "a", "{l:[text]}", ""), 0, 0}, teaRow{tFold(long), 0, 0}, teaRow{tAppend(t, "keya", `a@1{l:["one","two"]}`), 1, 0}, teaRow{tSnap("names", 1), 1, 0}, teaRow{tAppend(t, "keyb", `dead@1{l:["three"]}`), 2, 0}))
	picks := roomy([]int{5, 7})
	name := strings.Clone("names")
	for _, hold := range []int{impl.HoldAlone, impl.HoldKey} {
		wantMemory(t, "TeaReplay", func() any { return impl.TeaReplay(w, hold) }, w)
		wantMemory(t, "TeaCrew", func() any { return impl.TeaCrew(w, hold, 2, 3, picks, 20) }, w, picks)
	}
	wantMemory(t, "TeaSum", func() any { s, _ := impl.TeaSum(w, name); return s }, w, name)
	wantMemory(t, "TeaBoard", func() any { return impl.TeaBoard(w) }, w)
	w.Snaps = nil
	wantMemory(t, "TeaSum from the start", func() any { s, _ := impl.TeaSum(w, name); return s }, w, name)
}
