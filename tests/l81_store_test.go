package tests

import (
	"fmt"
	"math"
	"math/rand"
	"slices"
	"strconv"
	"strings"
	"testing"

	"loop.example/teagle/impl"
)

type storeState = impl.StoreState

func sameStore(a, b storeState) bool {
	return a.Code == b.Code && a.Next == b.Next && slices.EqualFunc(a.Records, b.Records, sameRecord)
}

// toldStore is by itself the records that a disk keeps.
func toldStore(d disk) storeState {
	log := toldOpen(d)
	if log.Code != 0 {
		return storeState{Code: log.Code}
	}
	s := storeState{Next: log.Next}
	for _, one := range log.Records {
		r, ok := impl.RecUnpack(one.Pos, one.Data)
		if !ok || recordBytes(r) != one.Data || r.Pos != one.Pos {
			return storeState{Code: 2}
		}
		s.Records = append(s.Records, r)
	}
	return s
}

// toldRite is by itself the raw writes by which closed segments are written anew.
func toldRite(book []chainType, d disk, part, many int) ([]diskWrite, int) {
	log := toldOpen(d)
	switch {
	case log.Code != 0:
		return nil, log.Code
	case log.Torn:
		return nil, 3
	case toldBook(book).Code != 0:
		return nil, 9
	case part < 0 || many < 1 || part > len(log.Plan.Parts) || many > len(log.Plan.Parts)-part:
		return nil, 8
	}
	number := greatest(filesOf(d)) + 1
	s, m := "s"+strconv.Itoa(number), "m"+strconv.Itoa(number)
	writes, size := []diskWrite{aWrite(1, s, "")}, 0
	for _, x := range log.Plan.Parts[part : part+many] {
		records, _ := toldFrames(d.Files[fileAt(d, "s"+strconv.Itoa(x.Num))].Data[:x.Size])
		for _, one := range records {
			r, ok := impl.RecUnpack(one.Pos, one.Data)
			if !ok {
				return nil, 2
			}
			if anew, code := toldAnew(book, r); code != 2 {
				frame := toldFrame(rec(one.Pos, recordBytes(anew)))
				writes, size = append(writes, aWrite(2, s, frame)), size+len(frame)
			}
		}
	}
	if size > 20000 || number > 999999 || len(d.Files) > 62 {
		return nil, 4
	}
	p := copyPlan(log.Plan)
	one := logPart{Num: number, First: p.Parts[part].First, Next: p.Parts[part+many-1].Next, Size: size}
	gone := slices.Clone(p.Parts[part : part+many])
	p.Parts = slices.Replace(p.Parts, part, part+many, one)
	writes = append(writes, aWrite(3, s, ""), aWrite(1, m, ""), aWrite(2, m, toldPlanText(p)), aWrite(3, m, ""), aWrite(5, "", ""), aWrite(4, "m"+strconv.Itoa(log.Num), ""))
	for _, x := range gone {
		writes = append(writes, aWrite(4, "s"+strconv.Itoa(x.Num), ""))
	}
	return append(writes, aWrite(5, "", "")), 0
}

// toldDo is by itself the disk behind raw writes.
func toldDo(d disk, writes []diskWrite, a logAct) (disk, int) {
	if !toldDiskOk(d) {
		return disk{}, 7
	}
	if len(writes) > 2000 {
		return d, 5
	}
	for i, w := range writes {
		if a.Cuts && i >= a.After {
			break
		}
		code := 0
		if d, code = toldWrite(d, w); code != 0 {
			return d, 4
		}
	}
	if a.Cuts {
		return toldCut(d, a.Moves, a.Keep), 6
	}
	return d, 0
}

// wantStore: a disk keeps just the records that the tests themselves tell.
func wantStore(t *testing.T, d disk) storeState {
	t.Helper()
	s := impl.StoreOpen(d)
	if told := toldStore(d); !sameStore(s, told) || s.Code != 0 && !sameStore(s, storeState{Code: s.Code}) {
		t.Errorf("%.300s: %.300v, but the tests tell %.300v", diskText(d), s, told)
	}
	return s
}

// wantDo is P88: raw writes do what DiskDo does, one by one; where power is lost, what DiskCut leaves.
func wantDo(t *testing.T, d disk, writes []diskWrite, a logAct) (disk, int) {
	t.Helper()
	got, code := impl.StoreDo(d, writes, a)
	if told, toldCode := toldDo(d, writes, a); code != toldCode || !sameDisk(got, told) {
		t.Errorf("%.300s: code %d, %.300s, but the tests tell %d %.300s", diskText(d), code, diskText(got), toldCode, diskText(told))
	}
	if !impl.DiskOk(d) || len(writes) > impl.StoreMaxWrites {
		return got, code
	}
	step, most := d, len(writes)
	if a.Cuts {
		most = max(0, min(most, a.After))
	}
	for _, w := range writes[:most] {
		next, refused := impl.DiskDo(step, w)
		if step = next; refused != 0 {
			if code != impl.LogFull || !sameDisk(got, step) {
				t.Errorf("code %d where a write is refused", code)
			}
			return got, code
		}
	}
	if a.Cuts {
		step = impl.DiskCut(step, a.Moves, a.Keep)
	}
	if !sameDisk(got, step) || (code == impl.LogCut) != a.Cuts || !a.Cuts && code != 0 {
		t.Errorf("code %d, %.300s, one by one %.300s", code, diskText(got), diskText(step))
	}
	return got, code
}

// wantRite: closed segments are written anew by just these writes; P80 holds.
func wantRite(t *testing.T, book []chainType, d disk, part, many int) ([]diskWrite, int) {
	t.Helper()
	writes, code := impl.StoreRite(book, d, part, many)
	if told, toldCode := toldRite(book, d, part, many); code != toldCode || !slices.Equal(writes, told) {
		t.Errorf("%.200s: %d and %d: code %d, writes\n%.600sbut the tests tell %d\n%.600s", diskText(d), part, many, code, writesText(writes), toldCode, writesText(told))
	}
	if code != 0 && len(writes) != 0 {
		t.Errorf("beside the code %d there are writes", code)
	}
	if code == 0 && len(writes) <= impl.StoreMaxWrites {
		wantRitten(t, book, d, part, many, writes)
	}
	return writes, code
}

// wantRitten is P80, and what a disk keeps behind the writes.
func wantRitten(t *testing.T, book []chainType, d disk, part, many int, writes []diskWrite) {
	t.Helper()
	next, code := wantDo(t, d, writes, logAct{})
	if code != 0 {
		t.Errorf("%d and %d: the writes have the code %d", part, many, code)
		return
	}
	before, behind := impl.LogOpen(d), impl.LogOpen(next)
	if behind.Code != 0 || behind.Next != before.Next || behind.Size != before.Size || behind.Plan.Open != before.Plan.Open || behind.Plan.First != before.Plan.First || len(behind.Plan.Parts) != len(before.Plan.Parts)-many+1 {
		t.Errorf("%v becomes %v", before.Plan, behind.Plan)
		return
	}
	// The positions stay, and so do all other segments.
	one := behind.Plan.Parts[part]
	if one.First != before.Plan.Parts[part].First || one.Next != before.Plan.Parts[part+many-1].Next {
		t.Errorf("%v becomes %v", before.Plan, behind.Plan)
	}
	if !slices.Equal(behind.Plan.Parts[:part], before.Plan.Parts[:part]) || !slices.Equal(behind.Plan.Parts[part+1:], before.Plan.Parts[part+many:]) {
		t.Errorf("%v becomes %v", before.Plan, behind.Plan)
	}
	outside := func(s logState) (list []logRecord) {
		for _, r := range s.Records {
			if r.Pos < one.First || r.Pos >= one.Next {
				list = append(list, r)
			}
		}
		return list
	}
	if !slices.Equal(outside(before), outside(behind)) {
		t.Error("records of other segments were changed")
	}
	// Written anew once more, no record is changed.
	again, code := impl.StoreRite(book, next, part, 1)
	if code != 0 {
		if code != impl.LogFull {
			t.Errorf("once more: code %d", code)
		}
		return
	}
	twice, _ := impl.StoreDo(next, again, logAct{})
	if open := impl.LogOpen(twice); !slices.Equal(open.Records, behind.Records) || open.Next != behind.Next {
		t.Error("written anew once more records are changed")
	}
}

// keeps are what may be kept of the bytes of files when power is lost.
func keeps(r *rand.Rand, d disk) [][]int {
	all := [][]int{nil, slices.Repeat([]int{math.MaxInt}, 70), {-1, math.MinInt}}
	for range 3 {
		var some []int
		for _, f := range d.Files {
			some = append(some, r.Intn(len(f.Data)-f.Kept+2))
		}
		all = append(all, some, slices.Concat(make([]int, len(some)/2), slices.Repeat([]int{99999}, 40)))
	}
	return all
}

// wantRiteOutlives is P79: wherever power is lost while segments are written anew, what is replayed stays the same; also behind a mend.
func wantRiteOutlives(t *testing.T, r *rand.Rand, book []chainType, d disk, part, many int) int {
	t.Helper()
	writes, code := wantRite(t, book, d, part, many)
	before := impl.StoreOpen(d)
	if code != 0 || before.Code != 0 {
		return 0
	}
	wanted := impl.DeadReplay(book, before.Records, impl.HoldKey, nil)
	cuts := 0
	for after := -1; after <= len(writes)+1; after++ {
		done, _ := impl.StoreDo(d, writes[:max(0, min(after, len(writes)))], logAct{})
		for moves := -1; moves <= len(done.Moves)+1; moves++ {
			for _, keep := range keeps(r, done) {
				left, code := impl.StoreDo(d, writes, logAct{Kind: 77, Data: "x", Cuts: true, After: after, Moves: moves, Keep: keep})
				if told := impl.DiskCut(done, moves, keep); code != impl.LogCut || !sameDisk(left, told) {
					t.Fatalf("power lost behind %d: code %d", after, code)
				}
				cuts++
				for _, mend := range []bool{false, true} {
					if mend {
						if left, _, code = impl.LogStep(left, mendAct); code != 0 {
							t.Errorf("power lost behind %d, %d moves: the mend has the code %d", after, moves, code)
						}
					}
					s := impl.StoreOpen(left)
					if got := impl.DeadReplay(book, s.Records, impl.HoldKey, nil); s.Code != 0 || s.Next != before.Next || !sameDead(got, wanted) {
						t.Errorf("power lost behind %d, %d moves: code %d, next %d, %.300s, wanted %.300s", after, moves, s.Code, s.Next, deadText(got), deadText(wanted))
					}
				}
			}
		}
	}
	return cuts
}

// storeDisk is a disk behind a mend and lines: `roll`, `sync`, or a key and events that are appended; in the end all of it is sure.
func storeDisk(t *testing.T, lines string) disk {
	t.Helper()
	d, _ := impl.LogPlay([]logAct{mendAct})
	for _, line := range strings.Split(strings.TrimSpace(lines), "\n") {
		act := syncAct
		words := strings.Fields(line)
		switch {
		case line == "roll":
			act = rollAct
		case len(words) > 1:
			act = appendAct(recordBytes(recordAt(t, 1, words[0], words[1:]...)))
		}
		next, _, code := impl.LogStep(d, act)
		if code != 0 {
			t.Fatalf("%q: code %d", line, code)
		}
		d = next
	}
	d, _, _ = impl.LogStep(d, syncAct)
	return d
}

const ritedLines = "type a\nversion {n:num}\nlift choose less get n old 0 drop emit form n div 12 get n old end\nversion {n:num}\n"

// ordinary disks whose records, and whose writes, are known one by one.
func TestStoreOrdinary(t *testing.T) {
	book := bookOf(t, ritedLines)
	d := storeDisk(t, "k a@1{n:3}\nk a@1{n:0}\nk a@1{n:-1}\nk a@1{n:4}\nroll\nx a@2{n:7}")
	s := wantStore(t, d)
	var told []string
	for _, r := range s.Records {
		told = append(told, recordText(r))
	}
	if got := strings.Join(told, "; "); s.Code != 0 || s.Next != 6 || got != "1 k a@1{n:3}; 2 k a@1{n:0}; 3 k a@1{n:-1}; 4 k a@1{n:4}; 5 x a@2{n:7}" {
		t.Errorf("%d %s", s.Next, got)
	}
	writes, code := wantRite(t, book, d, 0, 1)
	made := func(pos int, s string) string { return toldFrame(rec(pos, recordBytes(recordAt(t, 1, "k", s)))) }
	wanted := writesText([]diskWrite{aWrite(1, "s3", ""), aWrite(2, "s3", made(1, "a@2{n:4}")), aWrite(2, "s3", made(2, "a@1{n:0}")), aWrite(2, "s3", made(4, "a@2{n:3}")), aWrite(3, "s3", ""), aWrite(1, "m3", ""),
		aWrite(2, "m3", "seal 3 1 5 60\nopen 2 5\nend\n"), aWrite(3, "m3", ""), aWrite(5, "", ""), aWrite(4, "m2", ""), aWrite(4, "s1", ""), aWrite(5, "", "")})
	if code != 0 || writesText(writes) != wanted {
		t.Errorf("code %d\n%s", code, writesText(writes))
	}
	next, code := wantDo(t, d, writes, logAct{})
	s = wantStore(t, next)
	if code != 0 || s.Next != 6 || len(s.Records) != 4 || recordText(s.Records[2]) != "4 k a@2{n:3}" || strings.Join(impl.DiskNames(next), " ") != "s2 s3 m3" || len(next.Files) != 3 || len(next.Moves) != 0 {
		t.Errorf("%d %v", code, s)
	}
	// Several segments as one: the first two, the last two, all, with one that has no records.
	d = storeDisk(t, "k a@1{n:3}\nroll\nroll\nx a@1{n:-1}\nk a@1{n:0} a@1{n:6}\nroll\ny a@2{n:5}\nk c@1{}\nroll\nz a@1{n:12}")
	for _, row := range []struct {
		part, many    int
		plan, records string
	}{
		{0, 1, "seal 6 1 2 20\nseal 2 2 2 0\nseal 3 2 4 52\nseal 4 4 6 35\nopen 5 6\nend\n", "1 k a@2{n:4}; 2 x a@1{n:-1}; 3 k a@1{n:0} a@1{n:6}; 4 y a@2{n:5}; 5 k c@1{}; 6 z a@1{n:12}"},
		{1, 1, "seal 1 1 2 20\nseal 6 2 2 0\nseal 3 2 4 52\nseal 4 4 6 35\nopen 5 6\nend\n", "1 k a@1{n:3}; 2 x a@1{n:-1}; 3 k a@1{n:0} a@1{n:6}; 4 y a@2{n:5}; 5 k c@1{}; 6 z a@1{n:12}"},
		{2, 1, "seal 1 1 2 20\nseal 2 2 2 0\nseal 6 2 4 32\nseal 4 4 6 35\nopen 5 6\nend\n", "1 k a@1{n:3}; 3 k a@1{n:0} a@1{n:6}; 4 y a@2{n:5}; 5 k c@1{}; 6 z a@1{n:12}"},
		{3, 1, "seal 1 1 2 20\nseal 2 2 2 0\nseal 3 2 4 52\nseal 6 4 6 35\nopen 5 6\nend\n", "1 k a@1{n:3}; 2 x a@1{n:-1}; 3 k a@1{n:0} a@1{n:6}; 4 y a@2{n:5}; 5 k c@1{}; 6 z a@1{n:12}"},
		{0, 2, "seal 6 1 2 20\nseal 3 2 4 52\nseal 4 4 6 35\nopen 5 6\nend\n", "1 k a@2{n:4}; 2 x a@1{n:-1}; 3 k a@1{n:0} a@1{n:6}; 4 y a@2{n:5}; 5 k c@1{}; 6 z a@1{n:12}"},
		{2, 2, "seal 1 1 2 20\nseal 2 2 2 0\nseal 6 2 6 67\nopen 5 6\nend\n", "1 k a@1{n:3}; 3 k a@1{n:0} a@1{n:6}; 4 y a@2{n:5}; 5 k c@1{}; 6 z a@1{n:12}"},
		{0, 4, "seal 6 1 6 87\nopen 5 6\nend\n", "1 k a@2{n:4}; 3 k a@1{n:0} a@1{n:6}; 4 y a@2{n:5}; 5 k c@1{}; 6 z a@1{n:12}"},
	} {
		writes, code := wantRite(t, book, d, row.part, row.many)
		next, _ := impl.StoreDo(d, writes, logAct{})
		var told []string
		for _, r := range wantStore(t, next).Records {
			told = append(told, recordText(r))
		}
		if got := strings.Join(told, "; "); code != 0 || impl.LogPlanWrite(impl.LogOpen(next).Plan) != row.plan || got != row.records {
			t.Errorf("%d and %d: code %d, %s, %s", row.part, row.many, code, impl.LogPlanWrite(impl.LogOpen(next).Plan), got)
		}
	}
}

// Records of which nothing comes: the first, the last, all of a segment; what is large stays as it is.
func TestStoreDropped(t *testing.T) {
	book := bookOf(t, ritedLines)
	for lines, wanted := range map[string]string{
		"k a@1{n:-1}\nk a@1{n:3}\nk a@1{n:4}\nroll":            "2 k a@2{n:4}; 3 k a@2{n:3}",
		"k a@1{n:3}\nk a@1{n:-1}\nk a@1{n:4}\nroll":            "1 k a@2{n:4}; 3 k a@2{n:3}",
		"k a@1{n:3}\nk a@1{n:4}\nk a@1{n:-1}\nroll":            "1 k a@2{n:4}; 2 k a@2{n:3}",
		"k a@1{n:-1}\nk a@1{n:-1}\nroll":                       "",
		"k a@1{n:-1}\nk a@1{n:-1} a@1{n:-2} a@1{n:1}\nroll":    "2 k a@2{n:12}",
		"k a@1{n:-1}\nroll\nk a@1{n:-1}\nroll\nk a@1{n:1}":     "2 k a@1{n:-1}; 3 k a@1{n:1}",
		"k a@1{n:-1}\nroll\nk a@1{n:-1}\nroll\nk a@1{n:-9}\n ": "2 k a@1{n:-1}; 3 k a@1{n:-9}",
	} {
		d := storeDisk(t, lines)
		writes, _ := wantRite(t, book, d, 0, 1)
		next, _ := impl.StoreDo(d, writes, logAct{})
		var told []string
		for _, r := range wantStore(t, next).Records {
			told = append(told, recordText(r))
		}
		if got := strings.Join(told, "; "); got != wanted {
			t.Errorf("%q: %s, wanted %s", lines, got, wanted)
		}
		wantRiteOutlives(t, rand.New(rand.NewSource(81)), book, d, 0, 1)
	}
	longer := bookOf(t, "type a\nversion {t:[text]}\nlift emit form t get t old u get t old end\nversion {t:[text],u:[text]}")
	long := record{Pos: 1, Key: "k", Events: []event{textsEvent(16, 60)}}
	d := sureDisk("s1", toldFrame(rec(1, recordBytes(long))), "s2", "", "m1", fmt.Sprintf("seal 1 1 2 %d\nopen 2 2\nend\n", 5+len(recordBytes(long))))
	writes, code := wantRite(t, longer, d, 0, 1)
	if next, _ := impl.StoreDo(d, writes, logAct{}); code != 0 || !sameStore(impl.StoreOpen(next), impl.StoreOpen(d)) {
		t.Errorf("code %d", code)
	}
}

// segmentOf is a segment of records with just so many bytes, from a position on, and the next position.
func segmentOf(t *testing.T, first, bytes int) (string, int) {
	data := ""
	for bytes > 0 {
		size := min(bytes, 2005)
		if bytes > size && bytes-size < 1500 {
			size = bytes / 2
		}
		data += toldFrame(rec(first, recordBytes(recordOfBytes(t, size-5))))
		first, bytes = first+1, bytes-size
	}
	return data, first
}

// The edges: a segment of just DiskMaxData bytes and one more, the greatest number, the most files; and each code, the first of two.
func TestStoreBounds(t *testing.T) {
	book := bookOf(t, "type a\nversion {t:[text]}\n")
	want := func(what string, book []chainType, d disk, part, many, wanted int) {
		t.Helper()
		if _, code := wantRite(t, book, d, part, many); code != wanted {
			t.Errorf("%s: code %d, wanted %d", what, code, wanted)
		}
	}
	for bytes, wanted := range map[int]int{19999: 0, 20000: 0, 20001: impl.LogFull, 24000: impl.LogFull} {
		first, next := segmentOf(t, 1, 7000)
		second, last := segmentOf(t, next, bytes-7000)
		d := sureDisk("s1", first, "s2", second, "s3", "", "m1", fmt.Sprintf("seal 1 1 %d 7000\nseal 2 %d %d %d\nopen 3 %d\nend\n", next, next, last, bytes-7000, last))
		want("both", book, d, 0, 2, wanted)
		want("the first", book, d, 0, 1, 0)
		want("the second", book, d, 1, 1, 0)
	}
	// What comes of records is longer: 16 bytes more of each of two.
	longer := bookOf(t, "type a\nversion {t:[text]}\nlift emit form t get t old u \"more\" end\nversion {t:[text],u:text}")
	for bytes, wanted := range map[int]int{19800: 0, 19839: 0, 19840: 0, 19841: impl.LogFull, 19850: impl.LogFull} {
		data := ""
		for i := range 10 {
			data += toldFrame(rec(i+1, recordBytes(recordOfBytes(t, (bytes+i)/10-5))))
		}
		if len(data) != bytes {
			t.Fatal(len(data), bytes)
		}
		want("longer", longer, sureDisk("s1", data, "s3", "", "m1", fmt.Sprintf("seal 1 1 11 %d\nopen 3 11\nend\n", bytes)), 0, 1, wanted)
	}
	fine := toldFrame(rec(1, recordBytes(recordAt(t, 1, "k", `a@1{t:["x"]}`))))
	log := []string{"s1", fine, "s2", "", "m1", fmt.Sprintf("seal 1 1 2 %d\nopen 2 2\nend\n", len(fine))}
	for name, wanted := range map[string]int{"s999998": 0, "m999998": 0, "s999999": impl.LogFull, "m999999": impl.LogFull, "s0999999": 0, "x999999": 0, "s1000000": 0} {
		want(name, book, sureDisk(append(log, name, "")...), 0, 1, wanted)
		d := sureDisk(append(log, name, "")...)
		d.Moves = []diskMove{{Gone: true, Name: name}}
		want(name+" that is gone", book, d, 0, 1, wanted)
	}
	for _, gone := range []bool{false, true} {
		for files, wanted := range map[int]int{3: 0, 61: 0, 62: 0, 63: impl.LogFull, 64: impl.LogFull} {
			want("files", book, filled(files, gone, log...), 0, 1, wanted)
		}
	}
	// Codes, and where two would hold the first.
	bad := []chainType{{}}
	torn := sureDisk("s1", fine, "s2", "\x00", "m1", log[5])
	junk := sureDisk("s1", toldFrame(rec(1, "junk")), "s2", "", "m1", "seal 1 1 2 9\nopen 2 2\nend\n")
	for _, row := range []struct {
		what       string
		book       []chainType
		d          disk
		part, many int
		wanted     int
	}{
		{"a disk that is not ok", bad, disk{Names: []string{"a"}}, -1, 0, impl.LogBad}, {"no log", bad, disk{}, -1, 0, impl.LogNone}, {"no segment", bad, sureDisk("s1", fine, "m1", log[5]), -1, 0, impl.LogLost},
		{"torn", bad, torn, -1, 0, impl.LogTorn}, {"torn, a good book", book, torn, 0, 1, impl.LogTorn}, {"no book", bad, sureDisk(log...), -1, 0, impl.RiteNoBook}, {"no book, a part", bad, sureDisk(log...), 0, 1, impl.RiteNoBook}, {"no book, junk", bad, junk, 0, 1, impl.RiteNoBook},
		{"below 0", book, junk, -1, 1, impl.RiteNoPart}, {"none", book, junk, 0, 0, impl.RiteNoPart}, {"fewer than none", book, junk, 0, -1, impl.RiteNoPart}, {"too many", book, junk, 0, 2, impl.RiteNoPart}, {"behind all", book, junk, 1, 1, impl.RiteNoPart}, {"behind all, none", book, junk, 1, 0, impl.RiteNoPart}, {"far behind", book, junk, math.MaxInt, 1, impl.RiteNoPart}, {"very many", book, junk, 0, math.MaxInt, impl.RiteNoPart}, {"both", book, junk, math.MaxInt, math.MaxInt, impl.RiteNoPart}, {"least", book, junk, math.MinInt, math.MinInt, impl.RiteNoPart}, {"least and most", book, junk, math.MinInt, math.MaxInt, impl.RiteNoPart}, {"one and the most", book, junk, 1, math.MaxInt, impl.RiteNoPart},
		{"junk", book, junk, 0, 1, impl.LogLost}, {"junk, too many files", book, filled(64, false, "s1", toldFrame(rec(1, "junk")), "s2", "", "m1", "seal 1 1 2 9\nopen 2 2\nend\n"), 0, 1, impl.LogLost}, {"no closed segments", book, sureDisk("s1", "", "m1", "open 1 1\nend\n"), 0, 1, impl.RiteNoPart},
	} {
		want(row.what, row.book, row.d, row.part, row.many, row.wanted)
	}
	// A record that is not read: in one of the segments, in another one, in the open one.
	frame := func(pos int, data string) string { return toldFrame(rec(pos, data)) }
	good := func(pos int) string { return frame(pos, recordBytes(recordAt(t, 1, "k", `a@1{t:["x"]}`))) }
	size := len(good(1))
	three := func(at int) disk {
		datas := []string{good(1), good(2), good(3)}
		sizes := []int{size, size, size}
		if at < 3 {
			datas[at], sizes[at] = frame(at+1, "junk"), 9
		}
		return sureDisk("s1", datas[0], "s2", datas[1], "s3", datas[2], "m1", fmt.Sprintf("seal 1 1 2 %d\nseal 2 2 3 %d\nopen 3 3\nend\n", sizes[0], sizes[1]))
	}
	for at := range 4 {
		for part := range 2 {
			for many := 1; many <= 2-part; many++ {
				wanted := 0
				if at >= part && at < part+many {
					wanted = impl.LogLost
				}
				want(fmt.Sprint("junk at ", at), book, three(at), part, many, wanted)
			}
		}
		if s := wantStore(t, three(at)); (s.Code == impl.LogLost) != (at < 3) || at == 3 && s.Code != 0 {
			t.Errorf("junk at %d: code %d", at, s.Code)
		}
	}
	for what, row := range map[string]struct {
		d    disk
		code int
	}{"a disk that is not ok": {disk{Names: []string{"a"}}, impl.LogBad}, "no log": {disk{}, impl.LogNone}, "no segment": {sureDisk("m1", log[5]), impl.LogLost}, "torn": {torn, 0}, "an empty record": {sureDisk("s1", frame(1, ""), "m1", "open 1 1\nend\n"), impl.LogLost}, "a record with more behind it": {sureDisk("s1", frame(1, recordBytes(recordAt(t, 1, "k", "x@1{}"))+"\x00"), "m1", "open 1 1\nend\n"), impl.LogLost}} {
		if s := wantStore(t, row.d); s.Code != row.code {
			t.Errorf("%s: code %d", what, s.Code)
		}
	}
}

// P88: raw writes of each sort, with losses of power at each place; too many; one that is refused.
func TestStoreDo(t *testing.T) {
	d := storeDisk(t, "k a@1{n:3}\nroll\nk a@1{n:4}")
	writes := []diskWrite{aWrite(1, "x", ""), aWrite(2, "x", "abcdef"), aWrite(3, "x", ""), aWrite(2, "x", "ghi"), aWrite(4, "s1", ""), aWrite(1, "y", ""), aWrite(5, "", ""), aWrite(2, "y", "zz"), aWrite(4, "x", "")}
	r := rand.New(rand.NewSource(88))
	for many := range len(writes) + 1 {
		some := writes[:many]
		if _, code := wantDo(t, d, some, logAct{Kind: 3, Data: "not looked at", After: 1, Moves: 1, Keep: []int{5}}); code != 0 {
			t.Errorf("code %d", code)
		}
		for after := -2; after <= many+2; after++ {
			for _, moves := range []int{-1, 0, 1, 2, 9, math.MaxInt, math.MinInt} {
				for _, keep := range keeps(r, d) {
					if _, code := wantDo(t, d, some, logAct{Cuts: true, After: after, Moves: moves, Keep: keep}); code != impl.LogCut {
						t.Errorf("code %d", code)
					}
				}
			}
		}
		// A write that is refused: at the end, in the middle; and what stands behind it is not done.
		for _, bad := range []diskWrite{aWrite(2, "zz", "a"), aWrite(0, "x", ""), aWrite(9, "", ""), aWrite(1, "s2", ""), aWrite(1, "X", ""), aWrite(3, "nobody", ""), aWrite(4, "nobody", ""), aWrite(2, "s2", strings.Repeat("q", 20001))} {
			refused := append(append(slices.Clone(some), bad), aWrite(1, "more", ""))
			if _, code := wantDo(t, d, refused, logAct{}); code != impl.LogFull {
				t.Errorf("code %d", code)
			}
			for after := many - 1; after <= many+2; after++ {
				wanted := impl.LogCut
				if after > many {
					wanted = impl.LogFull
				}
				if _, code := wantDo(t, d, refused, logAct{Cuts: true, After: after, Moves: 1}); code != wanted {
					t.Errorf("code %d, wanted %d", code, wanted)
				}
			}
		}
	}
	syncs := func(n int) []diskWrite { return slices.Repeat([]diskWrite{aWrite(3, "s2", "")}, n) }
	bad := disk{Names: []string{"a"}}
	for _, a := range []logAct{{}, {Cuts: true, After: 3}} {
		done := map[bool]int{true: impl.LogCut}[a.Cuts]
		for n, wanted := range map[int]int{0: done, 1: done, 1999: done, impl.StoreMaxWrites: done, impl.StoreMaxWrites + 1: impl.LogLarge, 3000000: impl.LogLarge} {
			if got, code := wantDo(t, d, syncs(n), a); code != wanted || n > 2000 && !sameDisk(got, d) {
				t.Errorf("%d writes: code %d, wanted %d", n, code, wanted)
			}
			if got, code := wantDo(t, bad, syncs(n), a); code != impl.LogBad || !sameDisk(got, disk{}) {
				t.Errorf("a disk that is not ok, %d writes: code %d", n, code)
			}
		}
	}
	if got, code := wantDo(t, disk{}, nil, logAct{}); code != 0 || !sameDisk(got, disk{}) {
		t.Errorf("nothing: code %d", code)
	}
}

// P79: wherever power is lost, on disks of several sorts.
func TestStoreOutlives(t *testing.T) {
	t.Parallel()
	book := bookOf(t, ritedLines)
	r := rand.New(rand.NewSource(79))
	cuts := 0
	d := storeDisk(t, "k a@1{n:3}\nroll\nroll\nx a@1{n:-1}\nk a@1{n:0} a@1{n:6}\nroll\ny a@2{n:5}\nk c@1{}\nroll\nz a@1{n:12}")
	for _, row := range [][2]int{{0, 1}, {1, 1}, {2, 1}, {3, 1}, {0, 4}, {1, 3}, {0, 2}} {
		cuts += wantRiteOutlives(t, r, book, d, row[0], row[1])
	}
	// What is done once is done again behind it.
	writes, _ := impl.StoreRite(book, d, 1, 2)
	d, _ = impl.StoreDo(d, writes, logAct{})
	for _, row := range [][2]int{{0, 1}, {1, 1}, {0, 3}} {
		cuts += wantRiteOutlives(t, r, book, d, row[0], row[1])
	}
	if cuts < 5000 {
		t.Errorf("power was lost %d times", cuts)
	}
}

// P79, P80: many logs by chance, and books by chance that grow.
func TestStoreMany(t *testing.T) {
	t.Parallel()
	r := rand.New(rand.NewSource(80))
	rited, changed := 0, 0
	for range 5 {
		states := grownBooks(t, r, 8)
		if len(states) == 0 {
			continue
		}
		d, _ := impl.LogPlay([]logAct{mendAct})
		for range 8 + r.Intn(8) {
			act := rollAct
			if r.Intn(4) > 0 {
				act = appendAct(recordBytes(chanceRecordOf(t, r, states[r.Intn(len(states))], 1)))
			}
			d, _, _ = impl.LogStep(d, act)
		}
		d, _, _ = impl.LogStep(d, rollAct)
		for at := 0; at < len(states); at += 1 + r.Intn(3) {
			parts := len(impl.LogOpen(d).Plan.Parts)
			part := r.Intn(parts)
			many := 1 + r.Intn(parts-part)
			before := impl.StoreOpen(d)
			if at%3 == 0 {
				wantRiteOutlives(t, r, states[at], d, part, many)
			}
			writes, _ := wantRite(t, states[at], d, part, many)
			d, _ = impl.StoreDo(d, writes, logAct{})
			behind := wantStore(t, d)
			rited++
			if !sameStore(before, behind) {
				changed++
			}
			for _, book := range states[at:] {
				if a, b := impl.DeadReplay(book, before.Records, impl.HoldKey, nil), impl.DeadReplay(book, behind.Records, impl.HoldKey, nil); !sameDead(a, b) {
					t.Errorf("%.300s becomes %.300s", deadText(a), deadText(b))
				}
			}
		}
	}
	if rited < 8 || changed < 4 {
		t.Errorf("%d written anew, %d of them changed", rited, changed)
	}
}

// As many records as a log can have, and a book as long as can be: each upcaster is made once.
func TestStoreLarge(t *testing.T) {
	book := longBook(t, impl.ChainMaxText)
	one := recordBytes(recordAt(t, 1, "k", "zz@1{}"))
	var pairs []string
	text, pos := "", 1
	for i := range 2 {
		data := ""
		for range 600 {
			data += toldFrame(rec(pos, one))
			pos++
		}
		pairs = append(pairs, "s"+strconv.Itoa(i+1), data)
		text += fmt.Sprintf("seal %d %d %d %d\n", i+1, pos-600, pos, len(data))
	}
	d := sureDisk(append(pairs, "s9", "", "m1", text+fmt.Sprintf("open 9 %d\nend\n", pos))...)
	writes, code := impl.StoreRite(book, d, 0, 2)
	if code != 0 || len(writes) != 1200+10 {
		t.Errorf("code %d, %d writes", code, len(writes))
	}
	next, code := impl.StoreDo(d, writes, logAct{})
	if s := impl.StoreOpen(next); code != 0 || len(s.Records) != 1200 || s.Next != 1201 {
		t.Errorf("code %d, %d records", code, len(s.Records))
	}
}

// Nothing is written into an argument or behind its end, and every answer is new memory.
func TestStoreMemory(t *testing.T) {
	book := roomy(bookOf(t, ritedLines))
	d := roomy(storeDisk(t, "keya a@1{n:3}\nkeyb a@1{n:0}\nroll\nkeyc b@1{long:\"a-text\"}\nroll\nkeyd a@2{n:7}"))
	wantMemory(t, "StoreOpen", func() any { return impl.StoreOpen(d) }, d)
	wantMemory(t, "StoreRite", func() any { writes, _ := impl.StoreRite(book, d, 0, 2); return writes }, book, d)
	plain, _ := impl.StoreRite(book, d, 0, 2)
	writes := roomy(plain)
	a := roomy(logAct{Cuts: true, After: 8, Moves: 2, Keep: []int{1, 2, 3, 4, 5, 6}})
	for after := range 15 {
		a.After = after
		wantMemory(t, "StoreDo with a cut", func() any { d, _ := impl.StoreDo(d, writes, a); return d }, d, writes, a)
	}
	for many := range len(writes) + 1 {
		wantMemory(t, "StoreDo", func() any { d, _ := impl.StoreDo(d, writes[:many], logAct{}); return d }, d, writes)
		wantMemory(t, "StoreDo, refused", func() any {
			d, _ := impl.StoreDo(d, append(slices.Clone(writes[:many]), aWrite(9, "", "")), logAct{})
			return d
		}, d, writes)
	}
	wantMemory(t, "StoreDo of too many", func() any { d, _ := impl.StoreDo(d, make([]diskWrite, 2001), logAct{}); return d }, d)
}
