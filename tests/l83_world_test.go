package tests

import (
	"fmt"
	"math"
	"math/rand"
	"slices"
	"strings"
	"testing"

	"loop.example/teagle/impl"
)

type teaWorld = impl.TeaWorld

type teaEvent = impl.TeaEvent

func sameTea(a, b teaWorld) bool {
	return sameDisk(a.Disk, b.Disk) && sameBook(a.Book, b.Book) && slices.EqualFunc(a.Folds, b.Folds, samePlanOfFold) && slices.EqualFunc(a.Snaps, b.Snaps, sameSnap)
}

// teaText tells a world.
func teaText(w teaWorld) string {
	told := fmt.Sprintf("disk %.300s\nbook %.300q\n", diskText(w.Disk), toldLines(w.Book))
	for _, p := range w.Folds {
		told += "fold " + p.Name + "\n"
	}
	for _, x := range w.Snaps {
		told += "saved " + snapText(x) + "\n"
	}
	return told
}

func tAppend(t *testing.T, key, s string) teaEvent {
	t.Helper()
	return teaEvent{Kind: impl.TeaAppend, Key: key, Event: eventOf(t, s)}
}

// tSync, tRoll and tMend are acts without a loss of power.
var (
	tSync = teaEvent{Kind: impl.TeaSync}
	tRoll = teaEvent{Kind: impl.TeaRoll}
	tMend = teaEvent{Kind: impl.TeaMend}
)

func tRite(part, many int) teaEvent {
	return teaEvent{Kind: impl.TeaRite, Part: part, Many: many}
}

// tVersion is a version; without a lift it is of a new type.
func tVersion(t *testing.T, name, k, lift string) teaEvent {
	t.Helper()
	e := teaEvent{Kind: impl.TeaVersion, Name: name, Form: readKind(t, k)}
	if lift != "" {
		e.Lift = readLift(t, lift)
	}
	return e
}

func tFold(p foldPlan) teaEvent {
	return teaEvent{Kind: impl.TeaFold, Plan: p}
}

func tSnap(name string, version int) teaEvent {
	return teaEvent{Kind: impl.TeaSnap, Name: name, Many: version}
}

// losing is what happens with a loss of power.
func losing(e teaEvent, after, moves int, keep ...int) teaEvent {
	e.Power = logAct{Cuts: true, After: after, Moves: moves, Keep: keep}
	return e
}

// toldTeaOk says by itself whether a world is ok.
func toldTeaOk(w teaWorld) bool {
	if !toldDiskOk(w.Disk) || toldBook(w.Book).Code != 0 || len(w.Folds) > 4 || len(w.Snaps) > 4 {
		return false
	}
	names, saved := map[string]bool{}, map[string]bool{}
	for _, p := range w.Folds {
		if !okNames([]string{p.Name}) || names[p.Name] {
			return false
		}
		names[p.Name] = true
	}
	for _, x := range w.Snaps {
		if !names[x.Plan] || saved[x.Plan] || x.Version < 1 || x.Version > 4 || x.At < 0 || x.At > 999999 || x.Missed < 0 || x.Missed > 1000000 || !okTree(x.Body) {
			return false
		}
		saved[x.Plan] = true
	}
	return true
}

// toldTea is by itself the world behind what happens, the position, and the code.
func toldTea(w teaWorld, e teaEvent) (teaWorld, int, int) {
	if !toldTeaOk(w) {
		return teaWorld{}, 0, 27
	}
	act := func(kind int, data string) (int, int) {
		a := e.Power
		a.Kind, a.Data = kind, data
		d, pos, code := toldStep(w.Disk, a)
		w.Disk = d
		return pos, code
	}
	switch e.Kind {
	case 1:
		r := record{Pos: 1, Key: e.Key, Events: []event{e.Event}}
		if !okRecord(r) {
			return w, 0, 21
		}
		pos, code := act(1, recordBytes(r))
		return w, pos, code
	case 2, 3, 4:
		pos, code := act(e.Kind, "")
		return w, pos, code
	case 5:
		writes, code := toldRite(w.Book, w.Disk, e.Part, e.Many)
		if code == 0 {
			w.Disk, code = toldDo(w.Disk, writes, e.Power)
		}
		return w, 0, code
	case 6:
		book, f := toldAdd(w.Book, e.Name, e.Form, e.Lift)
		if f.Code != 0 {
			return w, 0, 22
		}
		w.Book = book
		return w, 0, 0
	case 7:
		return toldTeaFold(w, e.Plan)
	case 8:
		at := slices.IndexFunc(w.Folds, func(p foldPlan) bool { return p.Name == e.Name })
		if at < 0 {
			return w, 0, 24
		}
		if _, code := act(2, ""); code != 0 {
			return w, 0, code
		}
		return toldTeaSnap(w, w.Folds[at], e.Many)
	}
	return w, 0, 20
}

func withoutSnap(snaps []foldSnap, name string) []foldSnap {
	return slices.DeleteFunc(slices.Clone(snaps), func(x foldSnap) bool { return x.Plan == name })
}

func toldTeaFold(w teaWorld, p foldPlan) (teaWorld, int, int) {
	at := slices.IndexFunc(w.Folds, func(f foldPlan) bool { return f.Name == p.Name })
	w.Folds = slices.Clone(w.Folds)
	switch {
	case toldFold(w.Book, p).Code != 0:
		return w, 0, 23
	case at >= 0:
		w.Folds[at] = p
		w.Snaps = withoutSnap(w.Snaps, p.Name)
	case len(w.Folds) == 4:
		return w, 0, 25
	default:
		w.Folds = append(w.Folds, p)
	}
	return w, 0, 0
}

// toldTeaSnap saves by itself the sum of a fold, the disk being synced.
func toldTeaSnap(w teaWorld, p foldPlan, version int) (teaWorld, int, int) {
	store := toldStore(w.Disk)
	if store.Code != 0 {
		return w, 0, store.Code
	}
	saved := foldSnap{}
	for _, x := range w.Snaps {
		if x.Plan == p.Name {
			saved = x
		}
	}
	sum, how := toldFrom(w.Book, p, saved, store.Records)
	x, ok := toldSave(w.Book, p, sum, version)
	if how == 0 || !ok {
		return w, 0, 26
	}
	w.Snaps = append(withoutSnap(w.Snaps, p.Name), x)
	return w, sum.At, 0
}

// wantTea: what happens leaves just the world that the tests themselves tell; P81 holds.
func wantTea(t *testing.T, w teaWorld, e teaEvent) (teaWorld, int, int) {
	t.Helper()
	next, pos, code := impl.TeaDo(w, e)
	told, toldPos, toldCode := toldTea(w, e)
	if !sameTea(next, told) || pos != toldPos || code != toldCode {
		t.Errorf("kind %d: the position %d, the code %d\n%sbut the tests tell %d %d\n%s", e.Kind, pos, code, teaText(next), toldPos, toldCode, teaText(told))
	}
	if impl.TeaOk(w) != toldTeaOk(w) || impl.TeaOk(w) != (code != impl.TeaBroken) {
		t.Errorf("ok %v, but the tests tell %v, code %d", impl.TeaOk(w), toldTeaOk(w), code)
	}
	if !impl.TeaOk(w) {
		if !sameTea(next, teaWorld{}) || pos != 0 {
			t.Errorf("a world that is not ok becomes\n%s", teaText(next))
		}
		return next, pos, code
	}
	wantJustRefused(t, w, e, next, pos, code)
	return next, pos, code
}

// wantJustRefused is P81: what is refused changes nothing, and a book only grows.
func wantJustRefused(t *testing.T, w teaWorld, e teaEvent, next teaWorld, pos, code int) {
	t.Helper()
	if !impl.TeaOk(next) || !impl.ChainGrown(w.Book, next.Book) {
		t.Errorf("kind %d: the world is not ok, or its book has not grown\n%s", e.Kind, teaText(next))
	}
	if code == 0 {
		return
	}
	same := w
	switch {
	case code == impl.LogCut, code == impl.LogFull && e.Kind != impl.TeaAppend:
		same.Disk = next.Disk
	case e.Kind == impl.TeaSnap && code != impl.TeaNoFold:
		if synced, _, refused := impl.LogStep(w.Disk, syncAct); refused == 0 {
			same.Disk = synced
		}
	}
	if !sameTea(next, same) || pos != 0 {
		t.Errorf("kind %d is refused with %d, but changes\n%sto\n%s", e.Kind, code, teaText(w), teaText(next))
	}
}

// teaRow is what happens, and the position and the code that it has.
type teaRow struct {
	e         teaEvent
	pos, code int
}

// wantRow: what happens, one behind the other, has just these positions and codes; TeaPlay leaves the same world.
func wantRow(t *testing.T, rows ...teaRow) teaWorld {
	t.Helper()
	var w teaWorld
	var list []teaEvent
	var codes []int
	for i, row := range rows {
		next, pos, code := wantTea(t, w, row.e)
		if pos != row.pos || code != row.code {
			t.Errorf("%d: kind %d has the position %d and the code %d, wanted %d and %d", i, row.e.Kind, pos, code, row.pos, row.code)
		}
		w, list, codes = next, append(list, row.e), append(codes, code)
	}
	played, got := impl.TeaPlay(list)
	if !slices.Equal(got, codes) || !sameTea(played, w) {
		t.Errorf("played: %v, one by one %v\n%s\n%s", got, codes, teaText(played), teaText(w))
	}
	return w
}

// sumPlan is a fold of one version that adds.
func sumPlan(t *testing.T, name string) foldPlan {
	return foldPlan{Name: name, States: []foldState{{Kind: readKind(t, "{n:num}")}}, Start: readTree(t, "{n:0}"), Steps: []foldStep{{Type: "a", Do: readValue(t, "put n old add get n old get n new")}}}
}

// totalPlan is the document's own fold.
func totalPlan(t *testing.T) foldPlan {
	return foldOf(t, bookOf(t, divLines), totalLines)
}

// P81: an ordinary row of what happens, from nothing on.
func TestTeaOrdinary(t *testing.T) {
	add := tAppend(t, "x", "a@1{n:3}")
	fold, snap := tFold(totalPlan(t)), tSnap("total", 1)
	w := wantRow(t,
		teaRow{add, 0, impl.LogNone}, teaRow{tSync, 0, impl.LogNone}, teaRow{tRoll, 0, impl.LogNone}, teaRow{tRite(0, 1), 0, impl.LogNone}, teaRow{snap, 0, impl.TeaNoFold},
		teaRow{tMend, 0, 0}, teaRow{add, 1, 0}, teaRow{teaEvent{Kind: impl.TeaAppend, Key: "X", Event: add.Event}, 0, impl.TeaBadEvent}, teaRow{teaEvent{Kind: impl.TeaAppend, Key: "x"}, 0, impl.TeaBadEvent},
		teaRow{fold, 0, impl.TeaBadFold}, teaRow{tVersion(t, "a", "{n:num}", ""), 0, 0}, teaRow{tVersion(t, "A", "{n:num}", ""), 0, impl.TeaBadBook}, teaRow{tVersion(t, "a", "{n:num}", ""), 0, impl.TeaBadBook},
		teaRow{fold, 0, 0}, teaRow{snap, 1, 0}, teaRow{tSnap("total", 3), 0, impl.TeaNoSnap}, teaRow{tSnap("other", 1), 0, impl.TeaNoFold},
		teaRow{losing(add, 1, 0), 0, impl.LogCut}, teaRow{add, 2, 0}, teaRow{tVersion(t, "a", "{n:num}", "emit form n div 12 get n old end"), 0, 0}, teaRow{tRite(0, 1), 0, impl.RiteNoPart},
		teaRow{tRoll, 0, 0}, teaRow{tRite(0, 1), 0, 0}, teaRow{tRite(0, 2), 0, impl.RiteNoPart}, teaRow{add, 3, 0}, teaRow{snap, 3, 0}, teaRow{tSync, 0, 0},
		teaRow{teaEvent{Kind: 9}, 0, impl.TeaBadKind}, teaRow{teaEvent{}, 0, impl.TeaBadKind}, teaRow{teaEvent{Kind: -1}, 0, impl.TeaBadKind}, teaRow{teaEvent{Kind: math.MaxInt}, 0, impl.TeaBadKind},
	)
	if len(w.Snaps) != 1 || snapText(w.Snaps[0]) != `total 1 at 3, 0 missed, {t:"12"}, by "type a\nversion {n:num}\nlift emit form n div 12 get n old end"` {
		t.Errorf("%s", teaText(w))
	}
	if diskText(w.Disk) != diskText(wantStoredDisk(t, w)) || strings.Join(impl.DiskNames(w.Disk), " ") != "s2 s3 m3" {
		t.Errorf("%s", teaText(w))
	}
}

// wantStoredDisk is the disk of a world, whose records are all read.
func wantStoredDisk(t *testing.T, w teaWorld) disk {
	t.Helper()
	if s := wantStore(t, w.Disk); s.Code != 0 {
		t.Errorf("code %d", s.Code)
	}
	return w.Disk
}

// Folds: as many as there may be and one more; one that takes another one's place, first, last, with a snapshot and without.
func TestTeaFolds(t *testing.T) {
	begun := []teaRow{{tMend, 0, 0}, {tVersion(t, "a", "{n:num}", ""), 0, 0}, {tAppend(t, "x", "a@1{n:3}"), 1, 0}}
	w := wantRow(t, begun...)
	if len(w.Folds) != 0 || len(w.Snaps) != 0 {
		t.Errorf("%s", teaText(w))
	}
	names := []string{"p", "q", "r", "s"}
	for _, name := range names {
		begun = append(begun, teaRow{tFold(sumPlan(t, name)), 0, 0})
	}
	full := append(slices.Clone(begun), teaRow{tFold(sumPlan(t, "more")), 0, impl.TeaFull})
	bad := sumPlan(t, "more")
	bad.Start = num(1)
	// With a fault and no room the fault is told; a fold of a name that is there needs no room.
	full = append(full, teaRow{tFold(bad), 0, impl.TeaBadFold}, teaRow{tFold(foldPlan{}), 0, impl.TeaBadFold})
	wantRow(t, full...)
	for _, at := range []int{0, 1, 3} {
		for _, saved := range [][]string{nil, {"p", "q", "r", "s"}, {"s", "q", "p"}, {names[at]}, {names[(at+1)%4]}} {
			rows := slices.Clone(full)
			for _, name := range saved {
				rows = append(rows, teaRow{tSnap(name, 1), 1, 0})
			}
			other := sumPlan(t, names[at])
			other.Start = readTree(t, "{n:100}")
			w := wantRow(t, append(rows, teaRow{tFold(other), 0, 0})...)
			var left []string
			for _, x := range w.Snaps {
				left = append(left, x.Plan)
			}
			wanted := slices.DeleteFunc(slices.Clone(saved), func(name string) bool { return name == names[at] })
			if !slices.Equal(left, wanted) || len(w.Folds) != 4 || w.Folds[at].Start.Kids[0].Num != 100 {
				t.Errorf("%v saved, %v left of it\n%s", saved, left, teaText(w))
			}
		}
	}
	// Saved a second time it comes behind the others.
	w = wantRow(t, append(slices.Clone(begun), teaRow{tSnap("p", 1), 1, 0}, teaRow{tSnap("q", 1), 1, 0}, teaRow{tAppend(t, "x", "a@1{n:5}"), 2, 0}, teaRow{tSnap("p", 1), 2, 0})...)
	if len(w.Snaps) != 2 || w.Snaps[0].Plan != "q" || w.Snaps[0].At != 1 || w.Snaps[1].Plan != "p" || w.Snaps[1].At != 2 || impl.TreeWrite(w.Snaps[1].Body) != "{n:8}" {
		t.Errorf("%s", teaText(w))
	}
	// A fold that does not fit the book any more: its step wants a schema that is no longer the newest.
	w = wantRow(t, append(slices.Clone(begun), teaRow{tSnap("p", 1), 1, 0}, teaRow{tVersion(t, "a", "{t:text}", "emit form t show get n old end"), 0, 0}, teaRow{tSnap("p", 1), 0, impl.TeaNoSnap}, teaRow{tFold(sumPlan(t, "p")), 0, impl.TeaBadFold}, teaRow{tSync, 0, 0})...)
	if len(w.Folds) != 4 || len(w.Snaps) != 1 {
		t.Errorf("%s", teaText(w))
	}
}

// Snapshots: what is synced, what is saved, and losses of power.
func TestTeaSnaps(t *testing.T) {
	begun := []teaRow{{tMend, 0, 0}, {tVersion(t, "a", "{n:num}", ""), 0, 0}, {tFold(totalPlan(t)), 0, 0}, {tFold(sumPlan(t, "sum")), 0, 0}, {tAppend(t, "x", "a@1{n:3}"), 1, 0}, {tAppend(t, "x", "a@1{n:4}"), 2, 0}}
	kept := func(w teaWorld) bool {
		for _, f := range w.Disk.Files {
			if f.Kept != len(f.Data) {
				return false
			}
		}
		return true
	}
	with := func(rows ...teaRow) teaWorld {
		t.Helper()
		return wantRow(t, append(slices.Clone(begun), rows...)...)
	}
	if w := with(); kept(w) {
		t.Error("all is sure")
	}
	if w := with(teaRow{tSnap("total", 1), 2, 0}); !kept(w) || len(w.Snaps) != 1 || impl.TreeWrite(w.Snaps[0].Body) != `{t:"7"}` {
		t.Errorf("%s", teaText(w))
	}
	for _, version := range []int{0, -1, 3, 5, math.MaxInt, math.MinInt} {
		if w := with(teaRow{tSnap("total", version), 0, impl.TeaNoSnap}); !kept(w) || len(w.Snaps) != 0 {
			t.Errorf("version %d: %s", version, teaText(w))
		}
	}
	if w := with(teaRow{tSnap("none", 1), 0, impl.TeaNoFold}); kept(w) {
		t.Error("it is synced without a fold")
	}
	for _, row := range [][2]int{{0, 0}, {1, 0}, {2, 5}} {
		w := with(teaRow{tSnap("sum", 1), 2, 0}, teaRow{tAppend(t, "x", "a@1{n:9}"), 3, 0}, teaRow{losing(tSnap("total", 1), row[0], row[1]), 0, impl.LogCut})
		if records := len(wantStore(t, w.Disk).Records); len(w.Snaps) != 1 || w.Snaps[0].Plan != "sum" || records != 2+min(row[0], 1) {
			t.Errorf("power lost behind %d: %d records\n%s", row[0], records, teaText(w))
		}
	}
	// Positions come again behind a loss of power: what was saved knows none of the lost ones.
	w := with(teaRow{tSnap("sum", 1), 2, 0}, teaRow{tAppend(t, "x", "a@1{n:9}"), 3, 0}, teaRow{losing(tSync, 0, 0), 0, impl.LogCut}, teaRow{tAppend(t, "x", "a@1{n:100}"), 3, 0}, teaRow{tSnap("sum", 1), 3, 0})
	if impl.TreeWrite(w.Snaps[0].Body) != "{n:107}" {
		t.Errorf("%s", teaText(w))
	}
	// A snapshot, put there by hand, whose At is beyond all records: nothing is folded behind it.
	w = with(teaRow{tSnap("sum", 1), 2, 0})
	w.Snaps[0].At = 50
	if next, pos, code := wantTea(t, w, tSnap("sum", 1)); pos != 50 || code != 0 || next.Snaps[0].At != 50 {
		t.Errorf("%d %d", pos, code)
	}
	// A record that is not read: the code of StoreOpen, and the disk is synced.
	w = with(teaRow{tSnap("sum", 1), 2, 0})
	w.Disk, _, _ = impl.LogStep(w.Disk, appendAct("junk"))
	if next, _, code := wantTea(t, w, tSnap("total", 1)); code != impl.LogLost || !kept(next) || len(next.Snaps) != 1 {
		t.Errorf("code %d", code)
	}
	// A torn log: the code of the act, and nothing is synced.
	w = with(teaRow{tSync, 0, 0})
	w.Disk.Files[fileAt(w.Disk, "s1")].Data += "\x00"
	for _, e := range []teaEvent{tSnap("total", 1), tSync, tRoll, tRite(0, 1), tAppend(t, "x", "a@1{n:3}")} {
		if next, _, code := wantTea(t, w, e); code != impl.LogTorn || kept(next) {
			t.Errorf("kind %d: code %d", e.Kind, code)
		}
	}
	// More records than are replayed.
	rows := []teaRow{{tMend, 0, 0}, {tVersion(t, "a", "{n:num}", ""), 0, 0}, {tFold(sumPlan(t, "sum")), 0, 0}}
	w = wantRow(t, rows...)
	add := appendAct(recordBytes(recordAt(t, 1, "x", "a@1{n:1}")))
	for range 200 {
		w.Disk, _, _ = impl.LogStep(w.Disk, add)
	}
	if _, pos, code := wantTea(t, w, tSnap("sum", 1)); pos != 200 || code != 0 {
		t.Errorf("200 records: %d %d", pos, code)
	}
	w.Disk, _, _ = impl.LogStep(w.Disk, add)
	if _, pos, code := wantTea(t, w, tSnap("sum", 1)); pos != 0 || code != impl.TeaNoSnap {
		t.Errorf("201 records: %d %d", pos, code)
	}
}

// Acts that are refused, with LogCut and LogFull; writing anew with losses of power at each write.
func TestTeaActs(t *testing.T) {
	book := []teaRow{{tMend, 0, 0}, {tVersion(t, "a", "{n:num}", ""), 0, 0}, {tAppend(t, "x", "a@1{n:3}"), 1, 0}, {tVersion(t, "a", "{n:num}", "emit form n div 12 get n old end"), 0, 0}, {tAppend(t, "y", "a@1{n:0}"), 2, 0}, {tRoll, 0, 0}, {tAppend(t, "x", "a@1{n:4}"), 3, 0}, {tRoll, 0, 0}}
	w := wantRow(t, book...)
	for _, e := range []teaEvent{tRite(0, 1), tRite(1, 1), tRite(0, 2), tRoll, tSync, tMend, tAppend(t, "x", "a@2{n:1}")} {
		for after := -1; after <= 16; after++ {
			for _, moves := range []int{-1, 0, 1, 2, 3, 99} {
				lost := losing(e, after, moves, 0, 3, 99999, 1, 99999, 99999, 99999)
				next, _, code := wantTea(t, w, lost)
				if code != impl.LogCut {
					t.Errorf("kind %d: code %d", e.Kind, code)
				}
				// Kind and Data of Power are not looked at.
				lost.Power.Kind, lost.Power.Data = 3, "other data"
				if again, _, code := wantTea(t, w, lost); code != impl.LogCut || !sameTea(again, next) {
					t.Errorf("kind %d: code %d", e.Kind, code)
				}
			}
		}
	}
	// A position that is used up, a segment that is full, no room for files.
	big := recordBytes(recordOfBytes(t, 1995))
	full := w
	for range 4 {
		full.Disk, _, _ = impl.LogStep(full.Disk, appendAct(big))
	}
	if _, pos, code := wantTea(t, full, tAppend(t, "x", "a@1{n:3}")); code != impl.LogFull || pos != 0 {
		t.Errorf("a full segment: code %d", code)
	}
	parts := teaWorld{Book: w.Book, Disk: sureDisk("s50", "", "m50", manyPartsText(40))}
	for i := range 40 {
		name := fmt.Sprint("s", i+1)
		parts.Disk.Files, parts.Disk.Names = append(parts.Disk.Files, aFile(name, "", 0)), append(parts.Disk.Names, name)
	}
	if _, _, code := wantTea(t, parts, tRoll); code != impl.LogFull {
		t.Errorf("too many segments: code %d", code)
	}
	if next, _, code := wantTea(t, parts, tRite(0, 40)); code != 0 || len(impl.LogOpen(next.Disk).Plan.Parts) != 1 {
		t.Errorf("all at once: code %d", code)
	}
	files := teaWorld{Book: w.Book, Disk: filled(63, false, "s1", "", "s2", "", "m1", "seal 1 1 1 0\nopen 2 1\nend\n")}
	for _, e := range []teaEvent{tRite(0, 1), tRoll} {
		if next, _, code := wantTea(t, files, e); code != impl.LogFull || !sameTea(next, files) {
			t.Errorf("too many files: code %d", code)
		}
	}
	// A segment without records.
	empty := teaWorld{Disk: sureDisk("s1", "", "s2", "", "m1", "seal 1 1 1 0\nopen 2 1\nend\n")}
	if next, _, code := wantTea(t, empty, tRite(0, 1)); code != 0 || len(next.Disk.Files) != 3 {
		t.Errorf("code %d", code)
	}
}

// manyPartsText is a plan of so many closed segments without records.
func manyPartsText(parts int) string {
	text := ""
	for i := range parts {
		text += fmt.Sprintf("seal %d 1 1 0\n", i+1)
	}
	return text + "open 50 1\nend\n"
}

// Events that are no records: a key, an event, its size; with and without a log.
func TestTeaAppends(t *testing.T) {
	w := wantRow(t, teaRow{tMend, 0, 0})
	fine := eventOf(t, "a@1{n:3}")
	for _, e := range []teaEvent{{Key: "", Event: fine}, {Key: "X", Event: fine}, {Key: "ninebytes", Event: fine}, {Key: "x"}, {Key: "x", Event: ev("A", 1, fine.Body)}, {Key: "x", Event: ev("a", 0, fine.Body)}, {Key: "x", Event: ev("a", 13, fine.Body)}, {Key: "x", Event: ev("a", 1, num(1))}, {Key: "x", Event: ev("a", 1, form("n", num(1000000000)))}} {
		e.Kind = impl.TeaAppend
		for _, w := range []teaWorld{w, {}} {
			if _, _, code := wantTea(t, w, e); code != impl.TeaBadEvent {
				t.Errorf("%+v: code %d", e, code)
			}
			if _, _, code := wantTea(t, w, losing(e, 0, 0)); code != impl.TeaBadEvent {
				t.Errorf("%+v, power lost: code %d", e, code)
			}
		}
	}
	// Just RecMaxData bytes, and one more.
	for bytes, wanted := range map[int]int{1999: 0, 2000: 0, 2001: impl.TeaBadEvent} {
		kids := repeat(text(strings.Repeat("q", 60)), 20)
		body := form("a b", list(kids...), list(repeat(text(strings.Repeat("q", 60)), 11)...))
		e := teaEvent{Kind: impl.TeaAppend, Key: "k", Event: ev("a", 1, body)}
		more := bytes - len(recordBytes(record{Pos: 1, Key: "k", Events: []event{e.Event}}))
		e.Event.Body.Kids[1].Kids = append(e.Event.Body.Kids[1].Kids, text(strings.Repeat("r", more-2)))
		if _, pos, code := wantTea(t, w, e); code != wanted || code == 0 && pos != 1 {
			t.Errorf("%d bytes: the position %d, code %d", bytes, pos, code)
		}
	}
	// An event of a type that nobody knows, and of a version.
	if _, pos, code := wantTea(t, w, tAppend(t, "x", `zz@12{a:[1]}`)); pos != 1 || code != 0 {
		t.Errorf("%d %d", pos, code)
	}
}

// Each reason for which a world is not ok, by itself; and worlds that just are.
func TestTeaBroken(t *testing.T) {
	good := wantRow(t, teaRow{tMend, 0, 0}, teaRow{tVersion(t, "a", "{n:num}", ""), 0, 0}, teaRow{tFold(sumPlan(t, "p")), 0, 0}, teaRow{tFold(totalPlan(t)), 0, 0}, teaRow{tAppend(t, "x", "a@1{n:3}"), 1, 0}, teaRow{tSnap("total", 1), 1, 0}, teaRow{tSnap("p", 1), 1, 0})
	events := []teaEvent{tMend, tSync, {}, {Kind: 99}, tFold(sumPlan(t, "p")), tVersion(t, "b", "{}", ""), tSnap("p", 1), tRite(0, 1), tAppend(t, "x", "a@1{n:1}"), tRoll}
	all := func(what string, ok bool, change func(w *teaWorld)) {
		t.Helper()
		w := roomy(good)
		change(&w)
		if impl.TeaOk(w) != ok {
			t.Errorf("%s: ok %v", what, !ok)
		}
		for _, e := range events {
			if _, _, code := wantTea(t, w, e); (code == impl.TeaBroken) == ok {
				t.Errorf("%s: code %d", what, code)
			}
		}
	}
	all("a good one", true, func(w *teaWorld) {})
	for what, change := range map[string]func(w *teaWorld){
		"a disk that is not ok": func(w *teaWorld) { w.Disk.Names = append(w.Disk.Names, "zz") }, "bytes that are kept": func(w *teaWorld) { w.Disk.Files[0].Kept = -1 }, "a book that is not ok": func(w *teaWorld) { w.Book[0].Name = "A" }, "a book without versions": func(w *teaWorld) { w.Book = append(w.Book, chainType{Name: "b"}) },
		"no name": func(w *teaWorld) { w.Folds[0].Name = "" }, "a wrong name": func(w *teaWorld) { w.Folds[1].Name = "X" }, "a name twice": func(w *teaWorld) { w.Folds[1].Name = "p" }, "a name twice at the end": func(w *teaWorld) { w.Folds = append(w.Folds, w.Folds[0]) },
		"five folds": func(w *teaWorld) {
			w.Folds = append(w.Folds, foldPlan{Name: "u"}, foldPlan{Name: "v"}, foldPlan{Name: "w"})
		},
		"five snaps": func(w *teaWorld) { w.Snaps = slices.Repeat(w.Snaps[:1], 5) }, "two snaps of one": func(w *teaWorld) { w.Snaps[1].Plan = "total" }, "a snap of no fold": func(w *teaWorld) { w.Snaps[1].Plan = "q" }, "a snap without a plan": func(w *teaWorld) { w.Snaps[0].Plan = "" }, "snaps without folds": func(w *teaWorld) { w.Folds = nil },
		"version 0": func(w *teaWorld) { w.Snaps[1].Version = 0 }, "version 5": func(w *teaWorld) { w.Snaps[0].Version = 5 }, "version -1": func(w *teaWorld) { w.Snaps[0].Version = -1 }, "at -1": func(w *teaWorld) { w.Snaps[1].At = -1 }, "at 1000000": func(w *teaWorld) { w.Snaps[0].At = 1000000 }, "missed -1": func(w *teaWorld) { w.Snaps[0].Missed = -1 }, "missed 1000001": func(w *teaWorld) { w.Snaps[1].Missed = 1000001 },
		"no body": func(w *teaWorld) { w.Snaps[1].Body = tree{} }, "a body that is not ok": func(w *teaWorld) { w.Snaps[0].Body = form("n", num(1000000000)) },
		"no name, no snaps": func(w *teaWorld) { w.Folds[0].Name, w.Snaps = "", nil }, "a wrong name, no snaps": func(w *teaWorld) { w.Folds[1].Name, w.Snaps = "X", nil }, "a long name, no snaps": func(w *teaWorld) { w.Folds[1].Name, w.Snaps = "ninebytes", nil },
		"very many folds": func(w *teaWorld) { w.Folds = make([]foldPlan, 1000000) }, "very many snaps": func(w *teaWorld) { w.Snaps = make([]foldSnap, 1000000) },
	} {
		all(what, false, change)
	}
	for what, change := range map[string]func(w *teaWorld){
		"version 4 of a fold of one": func(w *teaWorld) { w.Snaps[1].Version = 4 }, "another body": func(w *teaWorld) { w.Snaps[0].Body = list(num(1), text("q")) }, "no book": func(w *teaWorld) { w.Book = nil }, "the book of a snap": func(w *teaWorld) { w.Snaps[0].Book = "what" }, "at and missed": func(w *teaWorld) { w.Snaps[0].At, w.Snaps[0].Missed = 999999, 1000000 },
		"folds that fit nothing": func(w *teaWorld) {
			w.Folds = append(w.Folds, foldPlan{Name: "u", States: make([]foldState, 9)}, foldPlan{Name: "v", Start: num(7), Steps: []foldStep{{Type: "Z", Do: nDrop()}}})
		},
		"no disk": func(w *teaWorld) { w.Disk = disk{} }, "no snaps": func(w *teaWorld) { w.Snaps = nil }, "no folds": func(w *teaWorld) { w.Folds, w.Snaps = nil, nil },
		"four folds and four snaps": func(w *teaWorld) {
			w.Folds = append(w.Folds, foldPlan{Name: "u"}, foldPlan{Name: "v"})
			w.Snaps = append(w.Snaps, foldSnap{Plan: "v", Version: 1, Body: num(1)}, foldSnap{Plan: "u", Version: 4, Body: maybe()})
		},
	} {
		all(what, true, change)
	}
}

// As much as may happen, and one more.
func TestTeaPlay(t *testing.T) {
	list := slices.Repeat([]teaEvent{tSync}, impl.TeaMaxEvents)
	list[0] = tMend
	w, codes := impl.TeaPlay(list)
	if len(codes) != 200 || codes[0] != 0 || codes[199] != 0 || impl.LogOpen(w.Disk).Code != 0 {
		t.Errorf("%v", codes)
	}
	for _, n := range []int{201, 1000000} {
		if w, codes := impl.TeaPlay(make([]teaEvent, n)); len(codes) != 0 || !sameTea(w, teaWorld{}) {
			t.Errorf("%d: %d codes", n, len(codes))
		}
	}
	if w, codes := impl.TeaPlay(nil); len(codes) != 0 || !sameTea(w, teaWorld{}) {
		t.Errorf("nothing: %d codes", len(codes))
	}
}

// chanceTea is something that happens by chance, in a world whose book grows.
func chanceTea(t *testing.T, r *rand.Rand, w teaWorld, cuts bool) teaEvent {
	e := teaEvent{Kind: impl.TeaAppend, Key: []string{"x", "y", "z"}[r.Intn(3)]}
	switch r.Intn(22) {
	case 0, 1:
		e = tSync
	case 2, 3:
		e = tRoll
	case 4, 5, 6:
		e = tMend
	case 7, 8, 9:
		parts := len(impl.LogOpen(w.Disk).Plan.Parts)
		part := r.Intn(parts + 1)
		e = tRite(part, 1+r.Intn(max(1, parts-part)))
	case 10, 11, 12:
		name := string(rune('a' + r.Intn(3)))
		e = teaEvent{Kind: impl.TeaVersion, Name: name, Form: readKind(t, chanceForms[r.Intn(len(chanceForms))])}
		if at := slices.IndexFunc(w.Book, func(c chainType) bool { return c.Name == name }); at >= 0 {
			last := len(w.Book[at].Versions) - 1
			more := copyBook(w.Book)
			more[at].Versions = append(more[at].Versions, chainVersion{Kind: e.Form})
			_, told := sinksBehind(more, at, last)
			e.Lift = actionOf(r, bindings{{"old", textOf(w.Book[at].Versions[last].Kind)}}, append(told, told[0], told[0]), 1+r.Intn(4))
			edgy(r, &e.Lift)
		}
	case 13, 14:
		e = tFold(chanceFold(t, r, w.Book))
	case 15, 16, 17:
		e = tSnap([]string{"a", "sum", "total"}[r.Intn(3)], 1+r.Intn(2))
		for _, p := range w.Folds {
			if r.Intn(2) == 0 {
				e = tSnap(p.Name, 1+r.Intn(len(p.States)))
			}
		}
	default:
		e.Event = chanceEvent(t, r, w.Book)
	}
	if cuts && r.Intn(5) == 0 {
		e = losing(e, r.Intn(14)-1, r.Intn(9)-1)
		for range r.Intn(8) {
			e.Power.Keep = append(e.Power.Keep, []int{0, -1, 1, 9, 20, 99999}[r.Intn(6)])
		}
	}
	return e
}

// chanceEvent is an event by chance of a book, of any version; sometimes one of a type that nobody knows.
func chanceEvent(t *testing.T, r *rand.Rand, book []chainType) event {
	if len(book) == 0 || r.Intn(8) == 0 {
		return ev(string(rune('a'+r.Intn(3))), 1+r.Intn(2), firstOf(readKind(t, chanceForms[r.Intn(len(chanceForms))])))
	}
	one := book[r.Intn(len(book))]
	version := r.Intn(len(one.Versions))
	for range 9 {
		e := ev(one.Name, version+1, bodyOf(r, one.Versions[version].Kind))
		if okRecord(record{Pos: 1, Key: "x", Events: []event{e}}) {
			return e
		}
	}
	return ev(one.Name, version+1, firstOf(one.Versions[version].Kind))
}

// P81: much that happens by chance, with losses of power.
func TestTeaMany(t *testing.T) {
	t.Parallel()
	r := rand.New(rand.NewSource(811))
	codes := map[[2]int]int{}
	for range 12 {
		var w teaWorld
		var list []teaEvent
		for range 60 {
			e := chanceTea(t, r, w, true)
			next, _, code := wantTea(t, w, e)
			w, list = next, append(list, e)
			codes[[2]int{e.Kind, code}]++
		}
		if played, _ := impl.TeaPlay(list); !sameTea(played, w) {
			t.Errorf("played:\n%s, one by one\n%s", teaText(played), teaText(w))
		}
	}
	for kind := 1; kind <= 8; kind++ {
		if codes[[2]int{kind, 0}] == 0 {
			t.Errorf("kind %d never did anything: %v", kind, codes)
		}
	}
}

// Every function answers at every argument: also at folds that hold themselves, or are far too wide.
func TestTeaWithoutEnd(t *testing.T) {
	k, n, x := endless()
	wide := nNum(1)
	for range 40 {
		wide = nOp(impl.LiftAdd, "", wide, wide)
	}
	good := wantRow(t, teaRow{tMend, 0, 0}, teaRow{tVersion(t, "a", "{n:num}", ""), 0, 0}, teaRow{tAppend(t, "x", "a@1{n:3}"), 1, 0})
	for what, p := range map[string]foldPlan{
		"a schema": {States: []foldState{{Kind: k}}}, "a save": {States: []foldState{{Save: n}}}, "a lift": {States: []foldState{{Lift: n}}}, "a start": {Start: x}, "a step": {Steps: []foldStep{{Do: n}}}, "a wide step": {Steps: []foldStep{{Do: wide}}}, "very many steps": {Steps: make([]foldStep, 300000)}, "very many states": {States: make([]foldState, 300000)},
	} {
		p.Name = "self"
		w := good
		w.Folds = []foldPlan{p, sumPlan(t, "sum")}
		for _, e := range []teaEvent{tSync, tSnap("self", 1), tSnap("sum", 1), tFold(sumPlan(t, "sum")), {}} {
			next, _, code := impl.TeaDo(w, e)
			wanted := map[string]int{"self": impl.TeaNoSnap}[e.Name]
			if e.Kind == 0 {
				wanted = impl.TeaBadKind
			}
			if !impl.TeaOk(w) || code != wanted || !impl.TeaOk(next) || len(next.Folds) != 2 || len(next.Folds[0].States) != len(p.States) || len(next.Folds[0].Steps) != len(p.Steps) {
				t.Errorf("%s: kind %d, code %d", what, e.Kind, code)
			}
		}
		if _, _, code := impl.TeaDo(good, tFold(p)); code != impl.TeaBadFold {
			t.Errorf("%s: code %d", what, code)
		}
	}
	for what, e := range map[string]teaEvent{"an event": {Kind: impl.TeaAppend, Key: "x", Event: ev("a", 1, x)}, "a schema": {Kind: impl.TeaVersion, Name: "b", Form: k}, "a lift": {Kind: impl.TeaVersion, Name: "a", Form: kForm(""), Lift: n}} {
		if next, _, code := impl.TeaDo(good, e); code != impl.TeaBadEvent && code != impl.TeaBadBook || !sameTea(next, good) {
			t.Errorf("%s: code %d", what, code)
		}
	}
}

// withFold is the fold of the answer of TeaDo for a world with that fold alone.
func withFold(t *testing.T, what string, p foldPlan) foldPlan {
	t.Helper()
	w := teaWorld{Folds: []foldPlan{p}}
	w.Folds[0].Name = "great"
	next, pos, code := impl.TeaDo(w, teaEvent{})
	if pos != 0 || code != impl.TeaBadKind || len(next.Folds) != 1 || next.Folds[0].Name != "great" || &next.Folds[0] == &w.Folds[0] {
		t.Fatalf("%s: position %d, code %d, %d folds", what, pos, code, len(next.Folds))
	}
	next.Folds[0].Name = p.Name
	return next.Folds[0]
}

// foldsWith are folds that have a tree, a schema, or a node wherever one may stand.
func foldsWith(x tree, k kind, n node) map[string]foldPlan {
	return map[string]foldPlan{
		"a start": {Start: x}, "a schema": {States: []foldState{{}, {Kind: k}}}, "a save": {States: []foldState{{Save: n}, {}}}, "a lift": {States: []foldState{{}, {Lift: n}}}, "a step": {Steps: []foldStep{{Type: "a"}, {Type: "b", Do: n}}},
		"all": {Start: x, States: []foldState{{Kind: k, Save: n, Lift: n}, {Kind: k, Save: n, Lift: n}}, Steps: []foldStep{{Type: "a", Do: n}, {Type: "b", Do: n}}},
	}
}

// A fold of a world may be as great as can be, and its lists may meet: in the answer each is in memory of its own.
func TestTeaGreatFolds(t *testing.T) {
	t.Parallel()
	const many = 120000
	x, k, n := tree{Text: strings.Clone("top"), Names: make([]string, many), Kids: make([]tree, many)}, kind{Names: make([]string, many), Kids: make([]kind, many)}, node{Op: 77, Text: strings.Clone("top"), Names: make([]string, many), Kids: make([]node, many)}
	for i := range many / 4 {
		x.Names[i], k.Names[i], n.Names[i] = fmt.Sprint(i), fmt.Sprint(i), fmt.Sprint(i)
		x.Kids[i], k.Kids[i], n.Kids[i] = tree{Sort: i, Num: -i, Names: []string{"a"}, Kids: []tree{num(i)}}, kind{Sort: i, Names: []string{"a"}, Kids: []kind{{Sort: -i}}}, node{Op: i, Num: -i, Names: []string{"a"}, Kids: []node{nNum(i)}}
	}
	for what, p := range foldsWith(x, k, n) {
		got := withFold(t, what, p)
		wantNewMemory(t, what, got, p)
		if !samePlanOfFold(got, p) {
			t.Errorf("%s is not the same", what)
		}
	}
	for what, p := range map[string]foldPlan{"very many steps": {Steps: make([]foldStep, many)}, "very many states": {States: make([]foldState, many)}} {
		got := withFold(t, what, p)
		wantNewMemory(t, what, got, p)
		if !samePlanOfFold(got, p) {
			t.Errorf("%s are not the same", what)
		}
	}
}

// Lists of a fold that meet, in whole or in part, do not meet in the answer.
func TestTeaListsThatMeet(t *testing.T) {
	names := strings.Fields("one two three four five")
	trees, kinds, nodes := make([]tree, 9), make([]kind, 9), make([]node, 9)
	for i := range 9 {
		from := i/2 + 4 - i%2
		trees[i] = tree{Sort: i, Num: -i, Text: names[i%5], Names: names[i%3 : 3+i%3], Kids: trees[min(9, i+1):min(9, from+3)]}
		kinds[i] = kind{Sort: i, Names: names[i%3 : 3+i%3], Kids: kinds[min(9, i+1):min(9, from+2)]}
		nodes[i] = node{Op: i, Num: -i, Text: names[i%5], Names: names[i%4:], Kids: nodes[min(9, i+1):min(9, from+4)]}
	}
	for what, p := range foldsWith(tree{Kids: trees, Names: names}, kind{Kids: kinds[1:], Names: names}, node{Kids: nodes[:8], Names: names}) {
		got := withFold(t, what, p)
		wantNewMemory(t, what, got, p)
		if !samePlanOfFold(got, p) {
			t.Errorf("%s is not the same", what)
		}
	}
	one, other := foldPlan{Name: "one", Start: tree{Kids: trees}}, foldPlan{Name: "other", Start: tree{Kids: trees}}
	w := teaWorld{Folds: []foldPlan{one, other}}
	next, _, _ := impl.TeaDo(w, tMend)
	wantNewMemory(t, "two folds", next, w)
	wide := make([]node, 200000)
	twice := foldPlan{States: []foldState{{Save: node{Kids: wide}, Lift: node{Kids: wide[1:]}}}, Steps: []foldStep{{Do: node{Kids: []node{{Kids: wide}, {Kids: wide[:7]}}}}}}
	wantNewMemory(t, "great lists", withFold(t, "great lists", twice), twice)
	most := make([]string, 1000000)
	often := foldPlan{Start: tree{Kids: make([]tree, 12)}}
	for i := range often.Start.Kids {
		often.Start.Kids[i].Names = most
	}
	wantNewMemory(t, "one great list", withFold(t, "one great list", often), often)
}

// What holds itself, or has far more parts than memory has room for, is in other memory in the answer.
func TestTeaOtherMemory(t *testing.T) {
	t.Parallel()
	k, n, x := endless()
	for what, p := range foldsWith(x, k, n) {
		wantOtherMemory(t, what+" that holds itself", withFold(t, what, p), p)
	}
	trees, kinds, nodes := make([]tree, 90), make([]kind, 90), make([]node, 90)
	names := strings.Fields("one two three four five")
	for i := range 90 {
		trees[i] = tree{Num: i, Text: names[i%5], Names: names[i%3 : 3+i%3], Kids: trees[min(89, i+1):]}
		kinds[i] = kind{Sort: i, Names: names[i%4:], Kids: kinds[min(90, i+1):min(90, i+3)]}
		nodes[i] = node{Num: i, Text: names[i%5], Names: names[:i%5], Kids: nodes[i/2 : i+1]}
	}
	for what, p := range foldsWith(tree{Kids: trees}, kind{Kids: kinds}, node{Kids: nodes}) {
		wantOtherMemory(t, what+" without end", withFold(t, what, p), p)
	}
}

// wantPiecesOf: a tree whose kids, and theirs, are pieces of one list was copied; piece says which piece each one has. Of a list that was copied those are looked at that were not seen yet, from both its ends.
func wantPiecesOf(t *testing.T, what string, got tree, list []tree, piece func(i int) (int, int)) {
	t.Helper()
	theirs := map[*tree]bool{}
	for i := range list {
		theirs[&list[i]] = true
	}
	seen := map[int]bool{}
	rest := [][]tree{got.Kids}
	look := func(one *tree) bool {
		if theirs[one] {
			t.Fatalf("%s: %d is the argument's", what, one.Num)
		}
		if seen[one.Num] {
			return false
		}
		seen[one.Num] = true
		from, to := piece(one.Num)
		if len(one.Kids) != to-from || cap(one.Kids) != to-from || to > from && (one.Kids[0].Num != from || one.Kids[to-from-1].Num != to-1) {
			t.Fatalf("%s: %d has %d kids, and room for %d, not those from %d to %d", what, one.Num, len(one.Kids), cap(one.Kids), from, to)
		}
		rest = append(rest, one.Kids)
		return true
	}
	for len(rest) > 0 {
		some := rest[len(rest)-1]
		rest = rest[:len(rest)-1]
		for i := 0; i < len(some) && look(&some[i]); i++ {
		}
		for i := len(some) - 1; i >= 0 && look(&some[i]); i-- {
		}
	}
	if len(seen) != len(list) {
		t.Errorf("%s: %d of %d are there", what, len(seen), len(list))
	}
}

// Very many long lists that lie in one: there is no time, and no memory, for each of them alone.
func TestTeaLongListsThatMeet(t *testing.T) {
	t.Parallel()
	const many = 200000
	for what, way := range map[string]struct {
		from, to int
		piece    func(i int) (int, int)
	}{
		"all behind":               {0, many, func(i int) (int, int) { return i + 1, many }},
		"itself and all behind":    {0, many, func(i int) (int, int) { return i, many }},
		"all ahead":                {many - 1, many, func(i int) (int, int) { return 0, i }},
		"longer and longer":        {0, 1, func(i int) (int, int) { return 0, min(many, i+2) }},
		"longer and longer, ahead": {many - 1, many, func(i int) (int, int) { return max(0, i-1), many }},
		"wide pieces":              {0, 1, func(i int) (int, int) { return i / 2, min(many, i+1000) }},
	} {
		list := make([]tree, many)
		for i := range list {
			from, to := way.piece(i)
			list[i] = tree{Num: i, Kids: list[from:to]}
		}
		p := foldPlan{Start: tree{Kids: list[way.from:way.to]}}
		wantPiecesOf(t, what, withFold(t, what, p).Start, list, way.piece)
	}
}

// A fold may have very many levels.
func TestTeaDeepFolds(t *testing.T) {
	t.Parallel()
	const deep = 3000000
	bottom := text("bottom")
	for level := range deep {
		bottom = tree{Num: level, Kids: []tree{bottom}}
	}
	got := withFold(t, "very many levels", foldPlan{Start: bottom}).Start
	for level := deep - 1; level >= 0; level-- {
		if got.Num != level || len(got.Kids) != 1 || &got.Kids[0] == &bottom.Kids[0] {
			t.Fatalf("level %d: %d, %d kids", level, got.Num, len(got.Kids))
		}
		got, bottom = got.Kids[0], bottom.Kids[0]
	}
	if !sameTree(got, text("bottom")) {
		t.Errorf("at the bottom: %v", got)
	}
}

// One long text may stand in very many places.
func TestTeaLongTexts(t *testing.T) {
	t.Parallel()
	long := strings.Repeat("long", 3000000)
	kids := make([]node, 1000)
	for i := range kids {
		kids[i] = node{Text: long, Names: []string{long}}
	}
	p := foldPlan{Steps: []foldStep{{Type: long, Do: node{Kids: kids}}}}
	wantNewMemory(t, "long texts", withFold(t, "long texts", p), p)
}

// Folds by chance, whose lists are pieces of a few: what they come to is the same, in other memory, and if they end soon, all lists are apart.
func TestTeaPiecesMany(t *testing.T) {
	t.Parallel()
	r := rand.New(rand.NewSource(831))
	for round := range 400 {
		names := strings.Fields("one two three four five six")
		// Where it is to end, a piece lies behind what it is a piece of.
		size, ends := 1+r.Intn(12), round%8 != 0
		trees, nodes := make([]tree, size), make([]node, size)
		piece := func(i int) (int, int) {
			low := 0
			if ends {
				low = i + 1
			}
			from := low + r.Intn(size-low+1)
			return from, from + r.Intn(min(4, size-from+1))
		}
		for i := range size {
			from, to := piece(i)
			trees[i] = tree{Num: i, Text: names[r.Intn(6)], Names: names[r.Intn(3) : 3+r.Intn(4)], Kids: trees[from:to]}
			from, to = piece(i)
			nodes[i] = node{Num: i, Text: names[r.Intn(6)], Names: names[r.Intn(3) : 3+r.Intn(4)], Kids: nodes[from:to]}
		}
		from, to := piece(-1)
		p := foldPlan{Start: tree{Kids: trees[from:to]}, States: []foldState{{Save: nodes[r.Intn(size)]}, {Lift: nodes[r.Intn(size)]}}, Steps: []foldStep{{Do: node{Kids: nodes[r.Intn(size):]}}}}
		got := withFold(t, "by chance", p)
		wantOtherMemory(t, fmt.Sprint("round ", round), got, p)
		if ends {
			wantNewMemory(t, fmt.Sprint("round ", round), got, p)
		}
	}
}

// Lists that are pieces of one, in any order: however they meet, each has in the answer what it had.
func TestTeaPiecesOfOne(t *testing.T) {
	r := rand.New(rand.NewSource(832))
	names, leaves := make([]string, 40), make([]tree, 40)
	for i := range names {
		names[i], leaves[i] = fmt.Sprint("name", i), num(i)
	}
	for range 1000 {
		p := foldPlan{Start: tree{Kids: make([]tree, 1+r.Intn(20))}}
		for i := range p.Start.Kids {
			from := r.Intn(40)
			to := from + r.Intn(min(12, 41-from))
			p.Start.Kids[i] = tree{Kids: leaves[from:to], Names: names[from:to]}
		}
		got := withFold(t, "pieces", p)
		wantNewMemory(t, "pieces", got, p)
		if !samePlanOfFold(got, p) {
			t.Fatalf("%v are not the same as %v", got.Start.Kids, p.Start.Kids)
		}
	}
}

// Nothing is written into an argument or behind its end, and every answer is new memory; also where something is refused.
func TestTeaMemory(t *testing.T) {
	long := foldOf(t, bookOf(t, "type a\nversion {l:[text]}\n"), "fold names\nstate {first:[text]}\nsave form first get l old end\nlift form l get first old end\nstate {l:[text]}\nstart {l:[\"start\"]}\non a new\n")
	w := wantRow(t, teaRow{tMend, 0, 0}, teaRow{tVersion(t, "a", "{l:[text]}", ""), 0, 0}, teaRow{tFold(long), 0, 0}, teaRow{tAppend(t, "keya", `a@1{l:["one","two"]}`), 1, 0}, teaRow{tSnap("names", 1), 1, 0}, teaRow{tRoll, 0, 0}, teaRow{tAppend(t, "keyb", `a@1{l:["three"]}`), 2, 0})
	other := copyFold(long)
	other.Name = "other"
	for _, e := range []teaEvent{
		tAppend(t, "keyc", `a@1{l:["four"]}`), tSync, tRoll, tMend, tRite(0, 1), tVersion(t, "a", "{longer:[text]}", "emit form longer get l old end"), tVersion(t, "newtype", "{longer:[text]}", ""), tFold(other), tFold(long), tSnap("names", 2), tSnap("names", 1),
		{}, {Kind: impl.TeaAppend, Key: "X"}, tRite(5, 1), tVersion(t, "A", "{}", ""), tFold(foldPlan{Name: "bad"}), tSnap("nobody", 1), tSnap("names", 7), losing(tRoll, 3, 1, 5, 5, 5), losing(tRite(0, 1), 4, 1, 9), losing(tSnap("names", 1), 0, 0),
	} {
		world, happens := roomy(w), roomy(e)
		wantMemory(t, fmt.Sprint("TeaDo of the kind ", e.Kind), func() any { next, _, _ := impl.TeaDo(world, happens); return next }, world, happens)
	}
	wantMemory(t, "TeaDo of a world that is not ok", func() any { next, _, _ := impl.TeaDo(teaWorld{Snaps: w.Snaps}, tSync); return next }, w)
	all := roomy([]teaEvent{tMend, tVersion(t, "a", "{l:[text]}", ""), tFold(long), tAppend(t, "keya", `a@1{l:["one","two"]}`), tSnap("names", 1), tFold(other), tSnap("other", 2), losing(tRoll, 9, 9, 5), tMend})
	wantMemory(t, "TeaPlay", func() any { w, _ := impl.TeaPlay(all); return w }, all)
	wantMemory(t, "TeaPlay's codes", func() any { _, codes := impl.TeaPlay(all); return codes }, all)
}
