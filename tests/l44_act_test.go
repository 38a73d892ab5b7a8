package tests

import (
	"fmt"
	"math"
	"math/rand"
	"slices"
	"strconv"
	"strings"
	"testing"

	"loop.example/teagle/impl"
)

type logAct = impl.LogAct

func appendAct(data string) logAct {
	return logAct{Kind: impl.ActAppend, Data: data}
}

// mendAct, syncAct and rollAct are the other acts, without a loss of power.
var (
	mendAct = logAct{Kind: impl.ActMend}
	syncAct = logAct{Kind: impl.ActSync}
	rollAct = logAct{Kind: impl.ActRoll}
)

// cutting is an act with power lost behind so many of its writes.
func cutting(a logAct, after, moves int, keep ...int) logAct {
	a.Cuts, a.After, a.Moves, a.Keep = true, after, moves, keep
	return a
}

// writesText tells writes, a line each.
func writesText(writes []diskWrite) string {
	text := ""
	for _, w := range writes {
		word := []string{"?", "make", "add", "sync", "gone", "dirs"}[w.Kind]
		text += strings.TrimSpace(word+" "+w.Name) + map[bool]string{true: fmt.Sprintf(" %q", w.Data)}[w.Data != ""] + "\n"
	}
	return text
}

// greatest is by itself the greatest number of a file of a segment or a plan.
func greatest(names []string) int {
	top := 0
	for _, name := range names {
		top = max(top, toldNumber("", name))
	}
	return top
}

func filesOf(d disk) (names []string) {
	for _, f := range d.Files {
		names = append(names, f.Name)
	}
	return names
}

// begun are by itself the writes that make a new segment, and a plan in which it is open.
func begun(num int, p logPlan) []diskWrite {
	m := "m" + strconv.Itoa(num)
	p.Open = num
	return []diskWrite{aWrite(1, "s"+strconv.Itoa(num), ""), aWrite(1, m, ""), aWrite(2, m, toldPlanText(p)), aWrite(3, m, ""), aWrite(5, "", "")}
}

// toldClose is by itself what closes the open segment.
func toldClose(s logState, files []string) ([]diskWrite, int) {
	top := greatest(files)
	if top == 999999 || len(s.Plan.Parts) == 40 || len(files) > 62 {
		return nil, 4
	}
	p := logPlan{Parts: append(slices.Clone(s.Plan.Parts), part(s.Plan.Open, s.Plan.First, s.Next, s.Size)), First: s.Next}
	return append(begun(top+1, p), aWrite(4, "m"+strconv.Itoa(s.Num), ""), aWrite(5, "", "")), 0
}

// toldMend are by itself the writes that mend a log.
func toldMend(d disk, s logState) ([]diskWrite, int) {
	dir, _ := behindMoves(d, len(d.Moves))
	var writes []diskWrite
	if s.Code == 1 {
		for _, name := range dir {
			writes = append(writes, aWrite(4, name, ""))
		}
		if top := greatest(filesOf(d)); top < 999999 && len(d.Files) <= 62 {
			return append(writes, begun(top+1, logPlan{First: 1})...), 0
		}
		return nil, 4
	}
	writes = []diskWrite{aWrite(3, "s"+strconv.Itoa(s.Plan.Open), "")}
	mine := []string{"m" + strconv.Itoa(s.Num), "s" + strconv.Itoa(s.Plan.Open)}
	for _, x := range s.Plan.Parts {
		mine = append(mine, "s"+strconv.Itoa(x.Num))
	}
	for _, name := range dir {
		if !slices.Contains(mine, name) {
			writes = append(writes, aWrite(4, name, ""))
		}
	}
	writes = append(writes, aWrite(5, "", ""))
	if !s.Torn {
		return writes, 0
	}
	more, code := toldClose(s, mine)
	if code != 0 {
		return nil, code
	}
	return append(writes, more...), 0
}

// toldWrites are by itself the raw writes of an act, its position, and its code.
func toldWrites(d disk, a logAct) ([]diskWrite, int, int) {
	s := toldOpen(d)
	switch {
	case s.Code != 0 && !(s.Code == 1 && a.Kind == 4):
		return nil, 0, s.Code
	case a.Kind < 1 || a.Kind > 4:
		return nil, 0, 7
	case a.Kind != 4 && s.Torn:
		return nil, 0, 3
	case a.Kind == 1 && len(a.Data) > 2000:
		return nil, 0, 5
	case a.Kind == 1 && (s.Next > 999999 || s.Size+5+len(a.Data) > 8000):
		return nil, 0, 4
	}
	open := "s" + strconv.Itoa(s.Plan.Open)
	switch a.Kind {
	case 1:
		return []diskWrite{aWrite(2, open, toldFrame(rec(s.Next, a.Data)))}, s.Next, 0
	case 2:
		return []diskWrite{aWrite(3, open, "")}, 0, 0
	case 3:
		writes, code := toldClose(s, filesOf(d))
		if code != 0 {
			return nil, 0, code
		}
		return append([]diskWrite{aWrite(3, open, "")}, writes...), 0, 0
	}
	writes, code := toldMend(d, s)
	return writes, 0, code
}

// toldStep is by itself the disk behind an act, its position, and its code.
func toldStep(d disk, a logAct) (disk, int, int) {
	writes, pos, code := toldWrites(d, a)
	if code != 0 {
		if !toldDiskOk(d) {
			return disk{}, 0, code
		}
		return d, 0, code
	}
	for i, w := range writes {
		if a.Cuts && i >= a.After {
			break
		}
		if d, code = toldWrite(d, w); code != 0 {
			return d, 0, 4
		}
	}
	if a.Cuts {
		return toldCut(d, a.Moves, a.Keep), 0, 6
	}
	return d, pos, 0
}

// wantAct: an act has just these writes, and leaves just this disk; with a code that is not LogCut the disk stays as it is.
func wantAct(t *testing.T, d disk, a logAct) (disk, int, int) {
	t.Helper()
	writes, pos, code := impl.LogWrites(d, a)
	toldW, toldPos, toldCode := toldWrites(d, a)
	if !slices.Equal(writes, toldW) || pos != toldPos || code != toldCode {
		t.Errorf("%.300s: act %d: the position %d, the code %d, writes\n%.600sbut the tests tell %d %d\n%.600s", diskText(d), a.Kind, pos, code, writesText(writes), toldPos, toldCode, writesText(toldW))
	}
	if code != 0 && (len(writes) != 0 || pos != 0) {
		t.Errorf("act %d: beside the code %d there is more", a.Kind, code)
	}
	next, pos, code := impl.LogStep(d, a)
	told, toldPos, toldCode := toldStep(d, a)
	if !sameDisk(next, told) || pos != toldPos || code != toldCode {
		t.Errorf("%.300s: act %+v: %.300s %d %d, but the tests tell %.300s %d %d", diskText(d), a, diskText(next), pos, code, diskText(told), toldPos, toldCode)
	}
	wantJustTheAct(t, d, a, next, pos, code)
	return next, pos, code
}

// wantJustTheAct is P42: an act that is refused changes nothing; an append adds just its record, the others leave the records as they are.
func wantJustTheAct(t *testing.T, d disk, a logAct, next disk, pos, code int) {
	t.Helper()
	if !impl.DiskOk(d) {
		return
	}
	if !impl.DiskOk(next) {
		t.Errorf("%.300s: act %d leaves a disk that is not ok", diskText(d), a.Kind)
	}
	if code == impl.LogCut {
		return
	}
	if code != 0 {
		if !sameDisk(d, next) || pos != 0 {
			t.Errorf("%.300s: act %d is refused, but changes the disk", diskText(d), a.Kind)
		}
		return
	}
	before, behind := impl.LogOpen(d), impl.LogOpen(next)
	wanted := slices.Clone(before.Records)
	if a.Kind == impl.ActAppend {
		wanted = append(wanted, rec(pos, a.Data))
		if pos != before.Next {
			t.Errorf("the position %d, Next is %d", pos, before.Next)
		}
	} else if pos != 0 {
		t.Errorf("act %d has a position", a.Kind)
	}
	if behind.Code != 0 || behind.Torn || !slices.Equal(behind.Records, wanted) {
		t.Errorf("%.300s: act %d: %.300v, wanted %.300v", diskText(d), a.Kind, behind, wanted)
	}
}

// wantPlay: acts from nothing on have just these codes, and leave these files and records.
func wantPlay(t *testing.T, acts []logAct, codes []int, names string, data ...string) disk {
	t.Helper()
	d, got := impl.LogPlay(acts)
	if !slices.Equal(got, codes) {
		t.Errorf("codes %v, wanted %v", got, codes)
	}
	var step disk
	for _, a := range acts {
		step, _, _ = wantAct(t, step, a)
	}
	if !sameDisk(d, step) {
		t.Errorf("LogPlay: %.300s, step by step: %.300s", diskText(d), diskText(step))
	}
	if got := strings.Join(impl.DiskNames(d), " "); got != names {
		t.Errorf("there is %s, wanted %s", got, names)
	}
	var records []logRecord
	for i, one := range data {
		records = append(records, rec(i+1, one))
	}
	if got := impl.LogOpen(d).Records; !slices.Equal(got, records) {
		t.Errorf("%.300v, wanted %.300v", got, records)
	}
	return d
}

func TestActOrdinary(t *testing.T) {
	wantPlay(t, nil, nil, "")
	d := wantPlay(t, []logAct{mendAct}, []int{0}, "s1 m1")
	if diskText(d) != "s1=/ m1=open 1 1\nend\n/ | s1 m1 |" {
		t.Errorf("%q", diskText(d))
	}
	d = wantPlay(t, []logAct{mendAct, appendAct("ab"), appendAct("c")}, []int{0, 0, 0}, "s1 m1", "ab", "c")
	if diskText(d) != "s1=/\x00\x02\x00\x00\x01ab\x00\x01\x00\x00\x02c m1=open 1 1\nend\n/ | s1 m1 |" {
		t.Errorf("%q", diskText(d))
	}
	d = wantPlay(t, []logAct{mendAct, appendAct("ab"), syncAct, appendAct("c")}, []int{0, 0, 0, 0}, "s1 m1", "ab", "c")
	if diskText(d) != "s1=\x00\x02\x00\x00\x01ab/\x00\x01\x00\x00\x02c m1=open 1 1\nend\n/ | s1 m1 |" {
		t.Errorf("%q", diskText(d))
	}
	d = wantPlay(t, []logAct{mendAct, appendAct("ab"), rollAct, appendAct("c")}, []int{0, 0, 0, 0}, "s1 s2 m2", "ab", "c")
	if diskText(d) != "s1=\x00\x02\x00\x00\x01ab/ s2=/\x00\x01\x00\x00\x02c m2=seal 1 1 2 7\nopen 2 2\nend\n/ | s1 s2 m2 |" {
		t.Errorf("%q", diskText(d))
	}
	wantPlay(t, []logAct{mendAct, appendAct("a"), rollAct, rollAct, appendAct("b"), rollAct, mendAct, syncAct}, []int{0, 0, 0, 0, 0, 0, 0, 0}, "s1 s2 s3 s4 m4", "a", "b")
	wantPlay(t, []logAct{appendAct("x"), syncAct, rollAct, mendAct, mendAct}, []int{1, 1, 1, 0, 0}, "s1 m1")
	wantPlay(t, []logAct{mendAct, {Kind: 9}, appendAct(strings.Repeat("z", 2001))}, []int{0, 7, 5}, "s1 m1")
}

// The document's example.
func TestActExample(t *testing.T) {
	acts := []logAct{mendAct, appendAct("ab"), syncAct, appendAct("c"), cutting(rollAct, 4, 1)}
	d := wantPlay(t, acts, []int{0, 0, 0, 0, 6}, "s1 m1 s2", "ab", "c")
	names := slices.Sorted(slices.Values(impl.DiskNames(d)))
	if !slices.Equal(names, []string{"m1", "s1", "s2"}) {
		t.Errorf("%v", names)
	}
	writes, _, _ := impl.LogWrites(d, mendAct)
	if writesText(writes) != "sync s1\ngone s2\ndirs\n" {
		t.Errorf("%s", writesText(writes))
	}
	wantPlay(t, append(acts, mendAct), []int{0, 0, 0, 0, 6, 0}, "s1 m1", "ab", "c")
}

// wantWrites: an act has just these writes.
func wantWrites(t *testing.T, d disk, a logAct, pos int, wanted string) {
	t.Helper()
	writes, got, code := impl.LogWrites(d, a)
	if writesText(writes) != wanted || got != pos || code != 0 {
		t.Errorf("%.200s: act %d: %d %d\n%swanted\n%s", diskText(d), a.Kind, got, code, writesText(writes), wanted)
	}
	wantAct(t, d, a)
}

// All writes of each kind of act, in their order.
func TestActWrites(t *testing.T) {
	wantWrites(t, disk{}, mendAct, 0, "make s1\nmake m1\nadd m1 \"open 1 1\\nend\\n\"\nsync m1\ndirs\n")
	d := sureDisk("x", "junk", "m3", "seal 2 1 4 6\nopen 7 4\nend\n", "s7", frames(rec(4, "d"), rec(5, "")), "s1", "old", "s2", frames(rec(3, "c"))+"more", "m1", "open 1 1\nend\n", "y", "")
	wantWrites(t, d, appendAct("new"), 6, "add s7 \"\\x00\\x03\\x00\\x00\\x06new\"\n")
	wantWrites(t, d, appendAct(""), 6, "add s7 \"\\x00\\x00\\x00\\x00\\x06\"\n")
	wantWrites(t, d, syncAct, 0, "sync s7\n")
	wantWrites(t, d, rollAct, 0, "sync s7\nmake s8\nmake m8\nadd m8 \"seal 2 1 4 6\\nseal 7 4 6 11\\nopen 8 6\\nend\\n\"\nsync m8\ndirs\ngone m3\ndirs\n")
	wantWrites(t, d, mendAct, 0, "sync s7\ngone x\ngone s1\ngone m1\ngone y\ndirs\n")
	torn := copyDisk(d)
	torn.Files[2].Data += "\x00\x09"
	wantWrites(t, torn, mendAct, 0, "sync s7\ngone x\ngone s1\ngone m1\ngone y\ndirs\nmake s8\nmake m8\nadd m8 \"seal 2 1 4 6\\nseal 7 4 6 11\\nopen 8 6\\nend\\n\"\nsync m8\ndirs\ngone m3\ndirs\n")
	empty := sureDisk("s4", "", "m4", "open 4 1\nend\n")
	wantWrites(t, empty, rollAct, 0, "sync s4\nmake s5\nmake m5\nadd m5 \"seal 4 1 1 0\\nopen 5 1\\nend\\n\"\nsync m5\ndirs\ngone m4\ndirs\n")
	wantWrites(t, empty, mendAct, 0, "sync s4\ndirs\n")
	none := sureDisk("m9", "open 1 1\nen", "b", "", "s12", "", "a", "")
	wantWrites(t, none, mendAct, 0, "gone m9\ngone b\ngone s12\ngone a\nmake s13\nmake m13\nadd m13 \"open 13 1\\nend\\n\"\nsync m13\ndirs\n")
}

// Top counts all of Files, also those that are gone but not for sure, and names of segments and plans alone.
func TestActTop(t *testing.T) {
	with := func(gone ...string) disk {
		d := sureDisk("s1", "", "m1", "open 1 1\nend\n")
		for _, name := range gone {
			d.Files = append(d.Files, aFile(name, "", 0))
			d.Names = append(d.Names, name)
			d.Moves = append(d.Moves, diskMove{Gone: true, Name: name})
		}
		return d
	}
	close := func(num int) string {
		n := strconv.Itoa(num)
		return "sync s1\nmake s" + n + "\nmake m" + n + "\nadd m" + n + " \"seal 1 1 1 0\\nopen " + n + " 1\\nend\\n\"\nsync m" + n + "\ndirs\ngone m1\ndirs\n"
	}
	wantWrites(t, with(), rollAct, 0, close(2))
	wantWrites(t, with("s5"), rollAct, 0, close(6))
	wantWrites(t, with("m7", "s5"), rollAct, 0, close(8))
	wantWrites(t, with("s05", "m09", "x9", "s", "m", "s9x", "p9"), rollAct, 0, close(2))
	wantWrites(t, with("s999998"), rollAct, 0, close(999999))
	// Files that are gone are not gone once more; what is not for sure counts for top until dirs.
	wantWrites(t, with("s5", "x"), mendAct, 0, "sync s1\ndirs\n")
	torn := with("s5", "m8")
	torn.Files[0].Data = "\x00"
	wantWrites(t, torn, mendAct, 0, "sync s1\ndirs\nmake s2\nmake m2\nadd m2 \"seal 1 1 1 0\\nopen 2 1\\nend\\n\"\nsync m2\ndirs\ngone m1\ndirs\n")
	stray := sureDisk("s1", "\x00", "m1", "open 1 1\nend\n", "s40", "", "m41", "torn")
	wantWrites(t, stray, mendAct, 0, "sync s1\ngone s40\ngone m41\ndirs\nmake s2\nmake m2\nadd m2 \"seal 1 1 1 0\\nopen 2 1\\nend\\n\"\nsync m2\ndirs\ngone m1\ndirs\n")
	none := disk{Files: []diskFile{aFile("s3", "", 0), aFile("a", "", 0)}, Names: []string{"s3"}, Moves: []diskMove{{Gone: true, Name: "s3"}, {Name: "a"}}}
	wantWrites(t, none, mendAct, 0, "gone a\nmake s4\nmake m4\nadd m4 \"open 4 1\\nend\\n\"\nsync m4\ndirs\n")
	made := disk{Files: []diskFile{aFile("s1", "", 0), aFile("m1", "open 1 1\nend\n", 3), aFile("m9", "", 0)}, Moves: []diskMove{{Name: "s1"}, {Name: "m1"}, {Name: "m9"}, {Gone: true, Name: "m9"}}}
	wantWrites(t, made, rollAct, 0, close(10))
}

// wantActCode: an act is refused with just this code, and leaves the disk as it is.
func wantActCode(t *testing.T, what string, d disk, a logAct, code int) {
	t.Helper()
	for _, cuts := range []bool{false, true} {
		a.Cuts, a.After = cuts, 1
		next, pos, got := wantAct(t, d, a)
		if got != code || pos != 0 {
			t.Errorf("%s: the code %d, wanted %d", what, got, code)
		}
		if impl.DiskOk(d) && !sameDisk(next, d) || !impl.DiskOk(d) && !sameDisk(next, disk{}) {
			t.Errorf("%s: %.300s is changed to %.300s", what, diskText(d), diskText(next))
		}
	}
}

func wantActDone(t *testing.T, what string, d disk, a logAct) {
	t.Helper()
	if _, _, code := wantAct(t, d, a); code != 0 {
		t.Errorf("%s: the code %d", what, code)
	}
}

// filled is a log with so many files in all, of which some are gone.
func filled(files int, gone bool, log ...string) disk {
	d := sureDisk(log...)
	for i := len(d.Files); i < files; i++ {
		name := "x" + strconv.Itoa(i)
		d.Files, d.Names = append(d.Files, aFile(name, "", 0)), append(d.Names, name)
		if gone {
			d.Moves = append(d.Moves, diskMove{Gone: true, Name: name})
		}
	}
	return d
}

func TestActBounds(t *testing.T) {
	const open = "open 1 1\nend\n"
	for _, gone := range []bool{false, true} {
		for _, files := range []int{61, 62} {
			wantActDone(t, "room for two files", filled(files, gone, "s1", "", "m1", open), rollAct)
			wantActDone(t, "room for two files, no log", filled(files, gone), mendAct)
		}
		for _, files := range []int{63, 64} {
			d := filled(files, gone, "s1", "", "m1", open)
			wantActCode(t, "too many files", d, rollAct, impl.LogFull)
			wantActDone(t, "a mend needs no file", d, mendAct)
			wantActDone(t, "an append needs no file", d, appendAct("a"))
			wantActCode(t, "too many files, no log", filled(files, gone), mendAct, impl.LogFull)
			torn := filled(files, gone, "s1", "\x00", "m1", open)
			wantActDone(t, "those that are left have room", torn, mendAct)
		}
	}
	for _, d := range []disk{sureDisk("s999999", "", "m1", "open 999999 1\nend\n"), sureDisk("s1", "", "m999999", open), sureDisk("s1", "", "m1", open, "s999999", ""), sureDisk("s1", "", "m1", open, "m999999", "x")} {
		wantActCode(t, "the greatest number", d, rollAct, impl.LogFull)
		wantActDone(t, "the greatest number", d, appendAct("a"))
		wantActDone(t, "the greatest number", d, mendAct)
	}
	wantActCode(t, "the greatest number, torn", sureDisk("s999999", "\x00", "m1", "open 999999 1\nend\n"), mendAct, impl.LogFull)
	wantActCode(t, "the greatest number, torn", sureDisk("s1", "\x00", "m999999", open), mendAct, impl.LogFull)
	wantActDone(t, "the greatest number is struck", sureDisk("s1", "\x00", "m1", open, "s999999", "", "m999999", ""), mendAct)
	wantActCode(t, "the greatest number, no log", sureDisk("s999999", ""), mendAct, impl.LogFull)
	wantActDone(t, "one less", sureDisk("s999998", ""), mendAct)
	gone := sureDisk("m999999", "x")
	gone.Moves = []diskMove{{Gone: true, Name: "m999999"}}
	wantActCode(t, "the greatest number is gone, but not for sure", gone, mendAct, impl.LogFull)
	for parts := 38; parts <= 40; parts++ {
		p := manyParts(parts)
		files := []string{"m600", toldPlanText(p), "s500", frames(rec(p.First, "a"))}
		for i := range p.Parts {
			p.Parts[i].Size = 0
			files = append(files, fmt.Sprint("s", i+1), "")
		}
		files[1] = toldPlanText(p)
		torn := slices.Clone(files)
		torn[3] += "\x00"
		if parts < 40 {
			wantActDone(t, "fewer parts", sureDisk(files...), rollAct)
			wantActDone(t, "fewer parts, torn", sureDisk(torn...), mendAct)
			continue
		}
		wantActCode(t, "all parts", sureDisk(files...), rollAct, impl.LogFull)
		wantActDone(t, "all parts", sureDisk(files...), mendAct)
		wantActDone(t, "all parts", sureDisk(files...), appendAct("b"))
		wantActDone(t, "all parts", sureDisk(files...), syncAct)
		wantActCode(t, "all parts, torn", sureDisk(torn...), mendAct, impl.LogFull)
	}
}

func TestActAppendBounds(t *testing.T) {
	d := sureDisk("s1", "", "m1", "open 1 1\nend\n")
	wantActDone(t, "no data", d, appendAct(""))
	wantActDone(t, "all data", d, appendAct(strings.Repeat("x", impl.LogMaxData)))
	wantActCode(t, "one more", d, appendAct(strings.Repeat("x", impl.LogMaxData+1)), impl.LogLarge)
	// Four records of 1995 bytes fill a segment.
	data := frames(rec(1, strings.Repeat("a", 1995)), rec(2, strings.Repeat("b", 1995)), rec(3, strings.Repeat("c", 1995)))
	d = sureDisk("s1", data, "m1", "open 1 1\nend\n")
	for _, bytes := range []int{0, 1994, 1995} {
		wantActDone(t, "room", d, appendAct(strings.Repeat("d", bytes)))
	}
	for _, bytes := range []int{1996, 2000} {
		wantActCode(t, "no room", d, appendAct(strings.Repeat("d", bytes)), impl.LogFull)
	}
	wantActCode(t, "large ahead of full", d, appendAct(strings.Repeat("d", 2001)), impl.LogLarge)
	d = sureDisk("s1", data+frames(rec(4, strings.Repeat("d", 1990))), "m1", "open 1 1\nend\n")
	wantActDone(t, "room for just a head", d, appendAct(""))
	wantActCode(t, "not for a byte more", d, appendAct("e"), impl.LogFull)
	d = sureDisk("s1", data+frames(rec(4, strings.Repeat("d", 1991))), "m1", "open 1 1\nend\n")
	wantActCode(t, "not for a head", d, appendAct(""), impl.LogFull)
	wantActDone(t, "but it is rolled", d, rollAct)
	d = sureDisk("s1", data+data[:0]+frames(rec(4, strings.Repeat("d", 1995)), rec(5, strings.Repeat("e", 1995))), "m1", "open 1 1\nend\n")
	wantActCode(t, "a segment that is longer", d, appendAct(""), impl.LogFull)
	last := plan(2, impl.LogMaxPos, part(1, 1, impl.LogMaxPos, 0))
	d = sureDisk("s1", "", "s2", "", "m1", toldPlanText(last))
	wantActDone(t, "the last position", d, appendAct("z"))
	d, _, _ = impl.LogStep(d, appendAct("z"))
	wantActCode(t, "behind the last position", d, appendAct("z"), impl.LogFull)
	wantActCode(t, "behind the last position, too large", d, appendAct(strings.Repeat("x", 2001)), impl.LogLarge)
	wantActDone(t, "behind the last position", d, rollAct)
	d, _, _ = impl.LogStep(d, rollAct)
	wantActCode(t, "in a segment of no positions", d, appendAct(""), impl.LogFull)
	wantActDone(t, "in a segment of no positions", d, rollAct)
}

// Each code, and, where two would hold, the first.
func TestActCodes(t *testing.T) {
	bad := sureDisk("s1", "", "m1", "open 1 1\nend\n")
	bad.Names = append(bad.Names, "x")
	torn := sureDisk("s1", "\x00", "m1", "open 1 1\nend\n")
	lost := sureDisk("m1", "open 1 1\nend\n")
	good := sureDisk("s1", "", "m1", "open 1 1\nend\n")
	none := sureDisk("m1", "open")
	kinds := []logAct{appendAct("a"), syncAct, rollAct, mendAct}
	others := []logAct{{Kind: 0}, {Kind: 5}, {Kind: -1}, {Kind: math.MaxInt}, {Kind: math.MinInt}, {Kind: 9, Data: strings.Repeat("x", 2001)}}
	for _, a := range append(kinds, others...) {
		wantActCode(t, "a disk that is not ok", bad, a, impl.LogBad)
		wantActCode(t, "a segment is lost", lost, a, impl.LogLost)
		if a.Kind != impl.ActMend {
			wantActCode(t, "no log", none, a, impl.LogNone)
			wantActCode(t, "nothing", disk{}, a, impl.LogNone)
		}
	}
	for _, a := range others {
		wantActCode(t, "another kind", good, a, impl.LogBad)
		wantActCode(t, "another kind, torn", torn, a, impl.LogBad)
	}
	for _, a := range kinds[:3] {
		wantActDone(t, "a good log", good, a)
		wantActCode(t, "a torn log", torn, a, impl.LogTorn)
	}
	wantActCode(t, "torn ahead of large", torn, appendAct(strings.Repeat("x", 2001)), impl.LogTorn)
	wantActCode(t, "no log ahead of large", disk{}, appendAct(strings.Repeat("x", 2001)), impl.LogNone)
	wantActCode(t, "torn ahead of full", sureDisk("s1", "\x00", "m1", "open 1 1\nend\n", "s999999", ""), rollAct, impl.LogTorn)
	for _, d := range []disk{torn, good, none, {}} {
		wantActDone(t, "a mend", d, mendAct)
	}
}

// P39, P40: power lost behind each number of writes, with moves and Keep of each sort: what is left can be mended, and nothing that was sure is lost.
func TestActCuts(t *testing.T) {
	t.Parallel()
	base := []logAct{mendAct, appendAct("ab"), syncAct, appendAct("c"), appendAct("")}
	starts := map[string]disk{"nothing": {}}
	starts["a log"], _ = impl.LogPlay(base)
	starts["a rolled one"], _ = impl.LogPlay(append(slices.Clone(base), rollAct, appendAct("d")))
	starts["a torn one"], _ = impl.LogPlay(append(slices.Clone(base), cutting(appendAct("long"), 1, 0, 99, 99), cutting(appendAct("more"), 1, 0, 4)))
	starts["one with strays"], _ = impl.LogPlay(append(slices.Clone(base), cutting(rollAct, 4, 2, 99, 99, 99, 99)))
	starts["strays and no log"], _ = impl.LogPlay([]logAct{cutting(mendAct, 3, 2, 9, 5)})
	for what, d := range starts {
		before := impl.LogOpen(d)
		sure := len(impl.LogOpen(impl.DiskCut(d, 0, nil)).Records)
		for _, a := range []logAct{appendAct("new"), appendAct(""), syncAct, rollAct, mendAct} {
			writes, _, code := impl.LogWrites(d, a)
			if code != 0 {
				continue
			}
			most := slices.Clone(before.Records)
			if a.Kind == impl.ActAppend {
				most = append(most, rec(before.Next, a.Data))
			}
			for _, after := range []int{math.MinInt, -1, 0, 1, 2, 3, 4, 5, 6, 7, 8, 9, 10, 11, 12, len(writes), len(writes) + 1, math.MaxInt} {
				if after > len(writes)+1 && after != math.MaxInt {
					continue
				}
				for moves := -1; moves <= 5; moves++ {
					for _, keep := range [][]int{nil, {99, 99, 99, 99, 99}, {1, 1, 1, 1, 1}, {7, 0, 3}, {-1, 4, 99, 2}, {math.MaxInt, math.MinInt, 12, 20}} {
						left, pos, code := wantAct(t, d, cutting(a, after, moves, keep...))
						if code != impl.LogCut || pos != 0 {
							t.Fatalf("%s: the code %d", what, code)
						}
						least := sure
						if a.Kind != impl.ActAppend && after >= len(writes) {
							least = len(before.Records)
						}
						wantWhole(t, what, left, before.Code == impl.LogNone, most, least)
					}
				}
			}
		}
	}
}

// wantWhole is P39 and P40: a disk's log has just the first ones of these records, at least so many; it can be mended, and goes on. There may be none, if none was begun.
func wantWhole(t *testing.T, what string, d disk, noneYet bool, most []logRecord, least int) int {
	t.Helper()
	s := impl.LogOpen(d)
	if s.Code != 0 && (s.Code != impl.LogNone || !noneYet) || len(s.Records) < least || len(s.Records) > len(most) || !slices.Equal(s.Records, most[:len(s.Records)]) {
		t.Errorf("%s: %.300s has %.200v, wanted of %.200v at least %d", what, diskText(d), s, most, least)
	}
	wantMended(t, what, d)
	return len(s.Records)
}

// wantMended is P40: a mend loses no record and leaves nothing torn, unless it is full; one more changes nothing; what is appended then has the next position, and, behind a sync, outlives any loss of power.
func wantMended(t *testing.T, what string, d disk) {
	t.Helper()
	before := impl.LogOpen(d)
	mended, _, code := impl.LogStep(d, mendAct)
	if code == impl.LogFull && before.Torn && len(before.Plan.Parts) == impl.LogMaxParts {
		return
	}
	s := impl.LogOpen(mended)
	if code != 0 || s.Code != 0 || s.Torn || !slices.Equal(s.Records, before.Records) {
		t.Errorf("%s: %.300s is mended (%d) to %.300v", what, diskText(d), code, s)
		return
	}
	if again, _, code := impl.LogStep(mended, mendAct); code != 0 || !sameDisk(again, mended) {
		t.Errorf("%s: mended twice: %d %.300s, once: %.300s", what, code, diskText(again), diskText(mended))
	}
	next, pos, code := impl.LogStep(mended, appendAct("then"))
	if code == impl.LogFull && s.Size+9 > impl.LogMaxSeg {
		return
	}
	if code != 0 || pos != s.Next || pos != len(s.Records)+1 {
		t.Errorf("%s: appended at %d, code %d, wanted %d", what, pos, code, s.Next)
	}
	next, _, _ = impl.LogStep(next, syncAct)
	for _, moves := range []int{0, 99} {
		for _, keep := range [][]int{nil, {99, 99, 99, 99, 99, 99}} {
			left := impl.LogOpen(impl.DiskCut(next, moves, keep))
			if !slices.Equal(left.Records, append(slices.Clone(s.Records), rec(s.Next, "then"))) {
				t.Errorf("%s: behind a sync and a loss of power %.300v", what, left)
			}
		}
	}
}

func chanceAct(r *rand.Rand, cuts bool) logAct {
	kinds := []int{1, 1, 1, 1, 1, 1, 2, 2, 3, 4}
	a := logAct{Kind: kinds[r.Intn(len(kinds))]}
	if a.Kind == impl.ActAppend {
		a.Data = strings.Repeat(string(rune('a'+r.Intn(26))), []int{0, 1, 2, 3, 9, 700, 1990}[r.Intn(7)])
	}
	if cuts && r.Intn(4) == 0 {
		a = cutting(a, r.Intn(11)-1, r.Intn(7)-1)
		for range r.Intn(8) {
			a.Keep = append(a.Keep, []int{-1, 0, 1, 2, 5, 7, 20, 99999}[r.Intn(8)])
		}
	}
	return a
}

// P39, P40, P42: many acts, with losses of power anywhere: records are never lost that were synced, and none is there in part.
func TestActManyCuts(t *testing.T) {
	t.Parallel()
	r := rand.New(rand.NewSource(44))
	cuts, tornOnes, full := 0, 0, 0
	for i := range 60 {
		var d disk
		var all []logRecord
		sure, begun := 0, false
		var acts []logAct
		var codes []int
		for range []int{10, 30, 90, 200}[i%4] {
			a := chanceAct(r, i%5 > 0)
			if len(acts) > 0 && codes[len(codes)-1] == impl.LogTorn && r.Intn(2) == 0 || r.Intn(20) == 0 {
				a = mendAct
			}
			next, pos, code := wantAct(t, d, a)
			acts, codes = append(acts, a), append(codes, code)
			most := all
			if a.Kind == impl.ActAppend && (code == 0 || code == impl.LogCut) {
				most = append(slices.Clone(all), rec(len(all)+1, a.Data))
				if code == 0 && pos != len(all)+1 {
					t.Fatalf("the position %d behind %d records", pos, len(all))
				}
			}
			switch code {
			case 0:
				all = most
				if a.Kind != impl.ActAppend {
					sure, begun = len(all), true
				}
				wantWhole(t, "an act", next, !begun, all, len(all))
			case impl.LogCut:
				cuts++
				all = most[:wantWhole(t, "a cut", next, !begun, most, sure)]
				// What a loss of power leaves outlives each further one.
				sure = len(all)
				begun = begun || impl.LogOpen(next).Code == 0
			case impl.LogTorn:
				tornOnes++
			case impl.LogFull:
				full++
			}
			d = next
			if t.Failed() {
				return
			}
		}
		if got, gotCodes := impl.LogPlay(acts); !sameDisk(got, d) || !slices.Equal(gotCodes, codes) {
			t.Fatalf("LogPlay tells other than each act by itself")
		}
	}
	if cuts < 300 || tornOnes < 50 || full < 10 {
		t.Errorf("%d cuts, %d torn, %d full", cuts, tornOnes, full)
	}
}

// P41: rolls, syncs and mends never change what was appended.
func TestActByAnyWay(t *testing.T) {
	r := rand.New(rand.NewSource(441))
	compared := 0
	for range 300 {
		acts, plain := []logAct{mendAct}, []logAct{mendAct}
		bytes := 0
		for range r.Intn(40) {
			a := chanceAct(r, false)
			if a.Kind == impl.ActAppend {
				a.Data = a.Data[:min(len(a.Data), 9)]
				if bytes += 5 + len(a.Data); bytes > impl.LogMaxSeg {
					continue
				}
				plain = append(plain, a)
			}
			acts = append(acts, a)
		}
		d, codes := impl.LogPlay(acts)
		e, plainCodes := impl.LogPlay(plain)
		if slices.Max(codes) > 0 || slices.Max(plainCodes) > 0 {
			continue
		}
		compared++
		if a, b := impl.LogOpen(d), impl.LogOpen(e); !slices.Equal(a.Records, b.Records) || a.Next != b.Next || len(a.Records) != len(plain)-1 {
			t.Errorf("%d and %d records", len(a.Records), len(b.Records))
		}
	}
	if compared < 200 {
		t.Errorf("%d compared", compared)
	}
}

// P42: any disk at all, with any act: just what the tests themselves tell.
func TestActManyDisks(t *testing.T) {
	r := rand.New(rand.NewSource(442))
	codes := map[int]int{}
	for range 4000 {
		d := chanceLog(r)
		if r.Intn(3) == 0 {
			d.Moves = append(d.Moves, diskMove{Gone: true, Name: d.Files[r.Intn(len(d.Files))].Name})
		}
		a := chanceAct(r, true)
		if r.Intn(3) == 0 {
			a.Kind = r.Intn(6)
		}
		_, _, code := wantAct(t, d, a)
		codes[code]++
	}
	for _, code := range []int{0, impl.LogNone, impl.LogLost, impl.LogTorn, impl.LogCut, impl.LogBad} {
		if codes[code] < 20 {
			t.Errorf("%v", codes)
		}
	}
}

// A log that is rolled up to its last closed segment.
func TestActFull(t *testing.T) {
	acts := []logAct{mendAct}
	var codes []int
	codes = append(codes, 0)
	for i := range 45 {
		acts = append(acts, appendAct("a"), rollAct)
		codes = append(codes, 0, map[bool]int{false: 0, true: impl.LogFull}[i >= 40])
	}
	d, got := impl.LogPlay(acts)
	if !slices.Equal(got, codes) {
		t.Errorf("%v", got)
	}
	s := impl.LogOpen(d)
	if len(s.Plan.Parts) != 40 || len(s.Records) != 45 || s.Plan.Open != 41 {
		t.Errorf("%d parts, %d records", len(s.Plan.Parts), len(s.Records))
	}
	torn, _, _ := impl.LogStep(d, cutting(appendAct("bcd"), 1, 0, slices.Repeat([]int{33}, 60)...))
	if s := impl.LogOpen(torn); !s.Torn {
		t.Fatalf("%v", s.Code)
	}
	wantActCode(t, "torn, and all parts", torn, mendAct, impl.LogFull)
	wantMended(t, "torn, and all parts", torn)
	wantMended(t, "all parts", d)
}

// How many acts are played.
func TestActCounts(t *testing.T) {
	acts := slices.Repeat([]logAct{mendAct}, 200)
	d, codes := impl.LogPlay(acts)
	if len(codes) != 200 || strings.Join(impl.DiskNames(d), " ") != "s1 m1" || slices.Max(codes) != 0 {
		t.Errorf("%d codes, %s", len(codes), diskText(d))
	}
	d, codes = impl.LogPlay(append(acts, mendAct))
	if len(codes) != 0 || !sameDisk(d, disk{}) {
		t.Errorf("%d codes, %s", len(codes), diskText(d))
	}
	if d, codes := impl.LogPlay(make([]logAct, 3000000)); len(codes) != 0 || !sameDisk(d, disk{}) {
		t.Error("very many acts are played")
	}
	for _, none := range [][]logAct{nil, {}} {
		if d, codes := impl.LogPlay(none); len(codes) != 0 || !sameDisk(d, disk{}) {
			t.Error("no acts")
		}
	}
	if d, codes := impl.LogPlay(make([]logAct, 200)); len(codes) != 200 || codes[0] != impl.LogNone || !sameDisk(d, disk{}) {
		t.Errorf("%v", codes)
	}
}

// Every function answers at every argument; the empty list and the nil list are the same value.
func TestActWithoutEnd(t *testing.T) {
	many := disk{Files: make([]diskFile, 1000000)}
	wantActCode(t, "many files", many, mendAct, impl.LogBad)
	d := sureDisk("s1", "", "m1", "open 1 1\nend\n")
	wantActCode(t, "very long data", d, appendAct(strings.Repeat("x", 30000000)), impl.LogLarge)
	wantAct(t, d, cutting(appendAct("a"), 1, 0, make([]int, 1000000)...))
	d.Moves = []diskMove{}
	wantAct(t, d, logAct{Kind: impl.ActMend, Keep: []int{}})
	wantAct(t, disk{Files: []diskFile{}, Names: []string{}, Moves: []diskMove{}}, mendAct)
}

// Nothing is written into an argument or behind its end, and every answer is new memory.
func TestActMemory(t *testing.T) {
	p := plan(2, 3, part(1, 1, 3, 18))
	plain := sureDisk("s1", strings.Clone(frames(rec(1, "aaaa"), rec(2, "bbbb"))), "s2", strings.Clone(frames(rec(3, "cccc"))), strings.Clone("stray"), "stray data", "m1", toldPlanText(p))
	texts := func(d disk) []string {
		all := slices.Clone(d.Names)
		for _, f := range d.Files {
			all = append(all, f.Name, f.Data)
		}
		for _, m := range d.Moves {
			all = append(all, m.Name)
		}
		return all
	}
	for _, a := range []logAct{appendAct(strings.Clone("some data")), syncAct, rollAct, mendAct, cutting(rollAct, 5, 1, 9, 9), cutting(mendAct, 2, 0), {Kind: 9}, appendAct(strings.Repeat("x", 2001))} {
		d := disk{Files: withSpare(plain.Files, aFile("spare", "", 0)), Names: withSpare(plain.Names, "spare"), Moves: withSpare([]diskMove{}, diskMove{Name: "spare"})}
		a.Keep = withSpare(a.Keep, 77)
		writes, _, _ := impl.LogWrites(d, a)
		toldW, _, _ := toldWrites(d, a)
		for _, w := range writes {
			wantTextsApart(t, []string{w.Name, w.Data}, append(texts(d), a.Data))
		}
		wipe(writes)
		next, _, _ := impl.LogStep(d, a)
		wantTextsApart(t, texts(next), append(texts(d), a.Data))
		wanted, _, _ := toldStep(d, a)
		wipe(next.Files)
		wipe(next.Names)
		wipe(next.Moves)
		if !sameDisk(d, plain) || !stillSpare(d.Files, aFile("spare", "", 0)) || !stillSpare(d.Names, "spare") || !stillSpare(d.Moves, diskMove{Name: "spare"}) || !stillSpare(a.Keep, 77) {
			t.Errorf("act %d: an argument was changed", a.Kind)
		}
		if again, _, _ := impl.LogStep(d, a); !sameDisk(again, wanted) {
			t.Errorf("act %d: an answer shares something", a.Kind)
		}
		if again, _, _ := impl.LogWrites(d, a); !slices.Equal(again, toldW) {
			t.Errorf("act %d: an answer shares something", a.Kind)
		}
	}
	acts := withSpare([]logAct{mendAct, appendAct(strings.Clone("data of an act")), rollAct, {Kind: 9}}, logAct{Kind: 77})
	d, codes := impl.LogPlay(acts)
	wantTextsApart(t, texts(d), []string{acts[1].Data})
	wipe(codes)
	wipe(d.Files)
	if acts[:5][4].Kind != 77 || acts[1].Data != "data of an act" {
		t.Error("acts were changed")
	}
	if d, codes := impl.LogPlay(acts); len(d.Files) != 3 || !slices.Equal(codes, []int{0, 0, 0, 7}) {
		t.Error("an answer shares something")
	}
}
