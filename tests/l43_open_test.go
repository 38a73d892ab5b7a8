package tests

import (
	"fmt"
	"math/rand"
	"regexp"
	"slices"
	"strconv"
	"strings"
	"testing"

	"loop.example/teagle/impl"
)

type logState = impl.LogState

func sameState(a, b logState) bool {
	return a.Code == b.Code && a.Num == b.Num && samePlan(a.Plan, b.Plan) && a.Size == b.Size && a.Torn == b.Torn && a.Next == b.Next && slices.Equal(a.Records, b.Records)
}

// sureDisk is a disk of files, all of which is sure: names and data in turn.
func sureDisk(pairs ...string) disk {
	var d disk
	for i := 0; i < len(pairs); i += 2 {
		d.Files = append(d.Files, aFile(pairs[i], pairs[i+1], len(pairs[i+1])))
		d.Names = append(d.Names, pairs[i])
	}
	return d
}

// frames are the bytes of records.
func frames(records ...logRecord) string {
	all := ""
	for _, r := range records {
		all += toldFrame(r)
	}
	return all
}

var numbered = regexp.MustCompile(`\A([sm])([1-9][0-9]{0,5})\z`)

// toldNumber is by itself the number of a file of a segment or a plan; 0, if it is none.
func toldNumber(letter, name string) int {
	found := numbered.FindStringSubmatch(name)
	if found == nil || letter != "" && found[1] != letter {
		return 0
	}
	num, _ := strconv.Atoi(found[2])
	return num
}

// toldOpen is by itself what a disk's log says.
func toldOpen(d disk) logState {
	if !toldDiskOk(d) {
		return logState{Code: 7}
	}
	dir, _ := behindMoves(d, len(d.Moves))
	var s logState
	for _, name := range dir {
		p, ok := toldPlanRead(d.Files[fileAt(d, name)].Data)
		if num := toldNumber("m", name); ok && num > s.Num {
			s.Num, s.Plan = num, p
		}
	}
	if s.Num == 0 {
		return logState{Code: 1}
	}
	for _, x := range append(slices.Clone(s.Plan.Parts), part(s.Plan.Open, s.Plan.First, 0, -1)) {
		name := "s" + strconv.Itoa(x.Num)
		if !slices.Contains(dir, name) {
			return logState{Code: 2}
		}
		data := d.Files[fileAt(d, name)].Data
		if x.Size < 0 {
			records, size := toldFrames(data)
			s.Next = x.First
			for _, r := range records {
				if r.Pos != s.Next {
					return logState{Code: 2}
				}
				s.Next++
			}
			s.Size, s.Torn = size, size != len(data)
			s.Records = append(s.Records, records...)
			continue
		}
		if len(data) < x.Size {
			return logState{Code: 2}
		}
		records, size := toldFrames(data[:x.Size])
		if size != x.Size {
			return logState{Code: 2}
		}
		for i, r := range records {
			if r.Pos < x.First || r.Pos >= x.Next || i > 0 && records[i-1].Pos >= r.Pos {
				return logState{Code: 2}
			}
		}
		s.Records = append(s.Records, records...)
	}
	return s
}

// wantOpened: a disk's log says just this; P48 holds: its positions rise, and stand below Next, and its plan is ok.
func wantOpened(t *testing.T, what string, d disk, wanted logState) {
	t.Helper()
	got := impl.LogOpen(d)
	if !sameState(got, wanted) {
		t.Errorf("%s: %.400v, wanted %.400v", what, got, wanted)
	}
	if told := toldOpen(d); !sameState(told, wanted) {
		t.Errorf("%s: the tests themselves tell %.400v, wanted %.400v", what, told, wanted)
	}
	if got.Code != 0 {
		if !sameState(got, logState{Code: got.Code}) {
			t.Errorf("%s: beside a code %.400v", what, got)
		}
		return
	}
	last := 0
	for _, r := range got.Records {
		if r.Pos <= last {
			t.Errorf("%s: the position %d behind %d", what, r.Pos, last)
		}
		last = r.Pos
	}
	if last >= got.Next || !impl.LogPlanOk(got.Plan) {
		t.Errorf("%s: the last position is %d, Next %d; the plan is ok: %v", what, last, got.Next, impl.LogPlanOk(got.Plan))
	}
}

func wantOpenCode(t *testing.T, what string, d disk, code int) {
	t.Helper()
	wantOpened(t, what, d, logState{Code: code})
}

// P48: disks with a plan and its segments, whose logs are known.
func TestOpenOrdinary(t *testing.T) {
	open := plan(1, 1)
	wantOpened(t, "no records", sureDisk("m1", "open 1 1\nend\n", "s1", ""), logState{Num: 1, Plan: open, Next: 1})
	two := []logRecord{rec(1, "ab"), rec(2, "")}
	wantOpened(t, "two records", sureDisk("s1", frames(two...), "m1", "open 1 1\nend\n"), logState{Num: 1, Plan: open, Size: 12, Next: 3, Records: two})
	wantOpened(t, "a torn one", sureDisk("s1", frames(two...)+"\x00", "m1", "open 1 1\nend\n"), logState{Num: 1, Plan: open, Size: 12, Torn: true, Next: 3, Records: two})
	parts := plan(5, 9, part(7, 1, 4, 11), part(2, 4, 9, 6))
	d := sureDisk("s5", frames(rec(9, "nine"), rec(10, "")), "x", "junk", "m3", toldPlanText(parts), "s2", frames(rec(8, "h"))+"more", "s7", frames(rec(1, "a"), rec(3, "")))
	wantOpened(t, "closed ones", d, logState{Num: 3, Plan: parts, Size: 14, Next: 11, Records: []logRecord{rec(1, "a"), rec(3, ""), rec(8, "h"), rec(9, "nine"), rec(10, "")}})
	// What is not sure yet is read all the same.
	wantOpened(t, "nothing is sure", disk{Files: []diskFile{aFile("s1", frames(two...), 3), aFile("m1", "open 1 1\nend\n", 0)}, Moves: []diskMove{{Name: "s1"}, {Name: "m1"}}}, logState{Num: 1, Plan: open, Size: 12, Next: 3, Records: two})
}

// Which plan is that of a disk.
func TestOpenPlans(t *testing.T) {
	one, two, three := "open 1 1\nend\n", "open 2 1\nend\n", "open 3 1\nend\n"
	segments := []string{"s1", frames(rec(1, "one")), "s2", frames(rec(1, "two")), "s3", frames(rec(1, "three"))}
	with := func(files ...string) disk { return sureDisk(append(files, segments...)...) }
	says := func(what string, d disk, num, open int) {
		t.Helper()
		data := []string{"", "one", "two", "three"}[open]
		wantOpened(t, what, d, logState{Num: num, Plan: plan(open, 1), Size: 5 + len(data), Next: 2, Records: []logRecord{rec(1, data)}})
	}
	says("the greatest last", with("m1", one, "m2", two, "m3", three), 3, 3)
	says("the greatest first", with("m3", one, "m2", two, "m1", three), 3, 1)
	says("in the middle", with("m3", one, "m10", two, "m9", three), 10, 2)
	says("by numbers, not by letters", with("m9", one, "m10", two), 10, 2)
	says("the greatest number", with("m999999", one, "m7", two), 999999, 1)
	says("beyond the greatest number", with("m1000000", one, "m7", two), 7, 2)
	for cut := range two {
		says("a torn one", with("m1", one, "m2", two[:cut]), 1, 1)
	}
	says("a torn one ahead", with("m2", two[:9], "m1", one), 1, 1)
	says("two torn ones", with("m5", two[:9], "m4", "", "m1", one), 1, 1)
	says("junk", with("m5", "junk", "m1", one), 1, 1)
	for _, name := range []string{"m01", "m0", "m", "m1x", "mx", "mm1", "n2", "m007", "m00", "m2m", "s9", "p9"} {
		says(name, with("m1", one, name, two), 1, 1)
		wantOpenCode(t, name+" alone", with(name, two), impl.LogNone)
	}
	gone := with("m1", one, "m2", two)
	gone.Moves = []diskMove{{Gone: true, Name: "m2"}}
	says("a greater one that is gone", gone, 1, 1)
	gone.Moves = append(gone.Moves, diskMove{Gone: true, Name: "m1"})
	wantOpenCode(t, "both are gone", gone, impl.LogNone)
	made := with("m1", one)
	made.Files, made.Moves = append(made.Files, aFile("m4", two, 0)), []diskMove{{Name: "m4"}}
	says("one that is made, but not sure", made, 4, 2)
	// The plan with the greatest number counts, also if a segment of it is lost.
	wantOpenCode(t, "a greater one whose segment is lost", sureDisk("m1", one, "s1", "", "m2", two), impl.LogLost)
	wantOpenCode(t, "a smaller one does not count", sureDisk("m1", one, "s1", "", "m2", "seal 1 1 2 6\nopen 2 2\nend\n", "s2", ""), impl.LogLost)
}

// Which file is that of a segment.
func TestOpenSegments(t *testing.T) {
	for _, name := range []string{"s01", "s", "s10", "t1", "m01", "s1x", "ss1"} {
		wantOpenCode(t, name, sureDisk("m1", "open 1 1\nend\n", name, ""), impl.LogLost)
	}
	wantOpened(t, "the greatest number", sureDisk("m1", "open 999999 1\nend\n", "s999999", ""), logState{Num: 1, Plan: plan(999999, 1), Next: 1})
	d := sureDisk("m1", "open 1 1\nend\n", "s1", "")
	d.Moves = []diskMove{{Gone: true, Name: "s1"}}
	wantOpenCode(t, "it is gone", d, impl.LogLost)
	d = sureDisk("m1", "open 1 1\nend\n")
	d.Files, d.Moves = append(d.Files, aFile("s1", "", 0)), []diskMove{{Name: "s1"}}
	wantOpened(t, "it is made", d, logState{Num: 1, Plan: plan(1, 1), Next: 1})
	parts := manyParts(40)
	files := []string{"m900", toldPlanText(manyParts(40)), "s500", frames(rec(121, "z"))}
	for i := range parts.Parts {
		parts.Parts[i].Size = 6 * (i % 4)
		data := ""
		for pos := range i % 4 {
			data += toldFrame(rec(parts.Parts[i].First+pos, string(rune('a'+pos))))
		}
		files = append(files, fmt.Sprint("s", i+1), data)
	}
	files[1] = toldPlanText(parts)
	all := toldOpen(sureDisk(files...))
	if len(all.Records) != 61 {
		t.Fatalf("%d records", len(all.Records))
	}
	wantOpened(t, "forty closed ones", sureDisk(files...), all)
	for i := 4; i < len(files); i += 2 {
		lost := slices.Concat(files[:i], files[i+2:])
		wantOpenCode(t, "without "+files[i], sureDisk(lost...), impl.LogLost)
	}
}

// A closed segment.
func TestOpenClosed(t *testing.T) {
	data := frames(rec(2, "b"), rec(4, "dd"))
	with := func(first, next, size int, data string) disk {
		p := plan(9, next, part(3, 1, first, 0), part(4, first, next, size))
		return sureDisk("s9", "", "s4", data, "s3", "", "m5", toldPlanText(p))
	}
	says := func(what string, first, next, size int, data string, records ...logRecord) {
		t.Helper()
		p := plan(9, next, part(3, 1, first, 0), part(4, first, next, size))
		wantOpened(t, what, with(first, next, size, data), logState{Num: 5, Plan: p, Next: next, Records: records})
	}
	says("with gaps", 1, 9, 13, data, rec(2, "b"), rec(4, "dd"))
	says("just First to Next-1", 2, 5, 13, data, rec(2, "b"), rec(4, "dd"))
	says("more bytes", 2, 5, 13, data+"more", rec(2, "b"), rec(4, "dd"))
	says("a whole record behind", 2, 5, 13, data+frames(rec(5, "e")), rec(2, "b"), rec(4, "dd"))
	says("the first one alone", 2, 5, 6, data, rec(2, "b"))
	says("a size of 0", 2, 5, 0, data)
	says("an empty file", 2, 5, 0, "")
	says("no positions", 2, 2, 0, data)
	says("all positions", 2, 5, 18, frames(rec(2, "b"), rec(3, "c"), rec(4, "d")), rec(2, "b"), rec(3, "c"), rec(4, "d"))
	for what, d := range map[string]disk{
		"fewer bytes":                  with(2, 5, 13, data[:12]),
		"no bytes":                     with(2, 5, 13, ""),
		"more than are there":          with(2, 5, 14, data),
		"not whole":                    with(2, 5, 12, data),
		"not whole at all":             with(2, 5, 3, data),
		"just the head":                with(2, 5, 5, data),
		"more than a record":           with(2, 5, 7, data),
		"a byte behind":                with(2, 5, 14, data+"x"),
		"below First":                  with(3, 5, 13, data),
		"at Next":                      with(2, 4, 13, data),
		"beyond Next":                  with(2, 3, 13, data),
		"no position may be":           with(2, 2, 13, data),
		"not rising":                   with(1, 9, 13, frames(rec(4, "b"), rec(2, "dd"))),
		"the same twice":               with(1, 9, 12, frames(rec(4, "b"), rec(4, "d"))),
		"the last one beyond":          with(1, 5, 18, frames(rec(2, "b"), rec(3, "d"), rec(5, "x"))),
		"a position that there is not": with(1, 9, 6, "\x00\x01\x00\x00\x00x"),
	} {
		wantOpenCode(t, what, d, impl.LogLost)
	}
}

// Each reason for which a log is lost, at the first and at the last closed segment.
func TestOpenLostAt(t *testing.T) {
	p := plan(8, 7, part(1, 1, 3, 12), part(2, 3, 5, 12), part(3, 5, 7, 12))
	files := func() []string {
		return []string{"m4", toldPlanText(p), "s1", frames(rec(1, "a"), rec(2, "b")), "s2", frames(rec(3, "c"), rec(4, "d")), "s3", frames(rec(5, "e"), rec(6, "f")), "s8", frames(rec(7, "g"), rec(8, "h"))}
	}
	wantOpened(t, "a good one", sureDisk(files()...), logState{Num: 4, Plan: p, Size: 12, Next: 9, Records: []logRecord{rec(1, "a"), rec(2, "b"), rec(3, "c"), rec(4, "d"), rec(5, "e"), rec(6, "f"), rec(7, "g"), rec(8, "h")}})
	for at := 3; at < 9; at += 2 {
		name := files()[at-1]
		first := at - 2
		for what, data := range map[string]string{
			"is short":         files()[at][:11],
			"is empty":         "",
			"is torn":          files()[at][:6] + "\x00\x02" + files()[at][8:],
			"has a Pos of 0":   files()[at][:10] + "\x00" + files()[at][11:],
			"begins below":     frames(rec(first-1, "a"), rec(first, "b")),
			"ends beyond":      frames(rec(first+1, "a"), rec(first+2, "b")),
			"does not rise":    frames(rec(first+1, "a"), rec(first, "b")),
			"has one twice":    frames(rec(first, "a"), rec(first, "b")),
			"has one far away": frames(rec(first, "a"), rec(999999, "b")),
		} {
			with := files()
			with[at] = data
			wantOpenCode(t, name+" "+what, sureDisk(with...), impl.LogLost)
		}
		wantOpenCode(t, name+" is not there", sureDisk(slices.Delete(files(), at-1, at+1)...), impl.LogLost)
		gone := sureDisk(files()...)
		gone.Moves = []diskMove{{Gone: true, Name: name}}
		wantOpenCode(t, name+" is gone", gone, impl.LogLost)
	}
	for what, data := range map[string]string{
		"a gap":            frames(rec(7, "g"), rec(9, "h")),
		"begins below":     frames(rec(6, "g"), rec(7, "h")),
		"begins beyond":    frames(rec(8, "g")),
		"the same twice":   frames(rec(7, "g"), rec(7, "h")),
		"does not rise":    frames(rec(7, "g"), rec(6, "h")),
		"a gap at the end": frames(rec(7, "g"), rec(8, "h"), rec(999999, "i")),
		"and torn":         frames(rec(8, "g")) + "x",
	} {
		with := files()
		with[9] = data
		wantOpenCode(t, "the open one: "+what, sureDisk(with...), impl.LogLost)
	}
	wantOpenCode(t, "the open one is not there", sureDisk(files()[:8]...), impl.LogLost)
}

// The open segment, cut off at each byte.
func TestOpenTorn(t *testing.T) {
	records := []logRecord{rec(4, "ab"), rec(5, ""), rec(6, strings.Repeat("x", 40)), rec(7, "c")}
	data := frames(records...)
	p := plan(2, 4, part(1, 1, 4, 0))
	for cut := range len(data) + 1 {
		whole, size := toldFrames(data[:cut])
		wantOpened(t, fmt.Sprint("cut off at ", cut), sureDisk("s1", "x", "s2", data[:cut], "m1", toldPlanText(p)), logState{Num: 1, Plan: p, Size: size, Torn: size < cut, Next: 4 + len(whole), Records: records[:len(whole)]})
	}
	// What is torn may be anything.
	for _, behind := range []string{"\x00", "\x00\x00\x00\x00\x00", "\xff\xff\xff\xff\xff", "\x00\x05\x00\x00\x08abcd", strings.Repeat("y", 900)} {
		wantOpened(t, "junk behind", sureDisk("s1", "", "s2", data+behind, "m1", toldPlanText(p)), logState{Num: 1, Plan: p, Size: len(data), Torn: true, Next: 8, Records: records})
		wantOpened(t, "junk alone", sureDisk("s1", "", "s2", behind, "m1", toldPlanText(p)), logState{Num: 1, Plan: p, Torn: true, Next: 4})
	}
}

// At the last positions.
func TestOpenLastPositions(t *testing.T) {
	last := plan(2, impl.LogMaxPos, part(1, 1, impl.LogMaxPos, 0))
	wantOpened(t, "the last record", sureDisk("s1", "", "s2", frames(rec(impl.LogMaxPos, "z")), "m1", toldPlanText(last)), logState{Num: 1, Plan: last, Size: 6, Next: impl.LogMaxPos + 1, Records: []logRecord{rec(impl.LogMaxPos, "z")}})
	wantOpened(t, "behind the last record", sureDisk("s1", "", "s2", frames(rec(impl.LogMaxPos, "z"))+"\x00\x00\x0f\x42\x40", "m1", toldPlanText(last)), logState{Num: 1, Plan: last, Size: 6, Torn: true, Next: impl.LogMaxPos + 1, Records: []logRecord{rec(impl.LogMaxPos, "z")}})
	behind := plan(2, impl.LogMaxPos+1, part(1, 1, impl.LogMaxPos+1, 6))
	wantOpened(t, "no more positions", sureDisk("s1", frames(rec(impl.LogMaxPos, "z")), "s2", "", "m1", toldPlanText(behind)), logState{Num: 1, Plan: behind, Next: impl.LogMaxPos + 1, Records: []logRecord{rec(impl.LogMaxPos, "z")}})
	wantOpenCode(t, "a record where there is no position", sureDisk("s1", frames(rec(impl.LogMaxPos, "z")), "s2", frames(rec(impl.LogMaxPos, "z")), "m1", toldPlanText(behind)), impl.LogLost)
	full := plan(2, 8, part(1, 1, 8, impl.DiskMaxData))
	data := ""
	for pos := 1; len(data)+2000 <= impl.DiskMaxData; pos++ {
		data += toldFrame(rec(pos, strings.Repeat("q", 1995)))
	}
	full.Parts[0].Next, full.First = 11, 11
	wantOpened(t, "a full file", sureDisk("s1", data, "s2", "", "m1", toldPlanText(full)), toldOpen(sureDisk("s1", data, "s2", "", "m1", toldPlanText(full))))
	if s := impl.LogOpen(sureDisk("s1", data, "s2", "", "m1", toldPlanText(full))); len(data) != 20000 || len(s.Records) != 10 {
		t.Errorf("%d bytes, %d records", len(data), len(s.Records))
	}
}

func TestOpenCodes(t *testing.T) {
	wantOpenCode(t, "no file", disk{}, impl.LogNone)
	wantOpenCode(t, "a segment alone", sureDisk("s1", ""), impl.LogNone)
	wantOpenCode(t, "a plan that is not read", sureDisk("m1", "open 1 1\n", "s1", ""), impl.LogNone)
	wantOpenCode(t, "an empty plan", sureDisk("m1", "", "s1", ""), impl.LogNone)
	wantOpenCode(t, "a plan that is not ok", sureDisk("m1", "open 1 2\nend\n", "s1", ""), impl.LogNone)
	wantOpenCode(t, "other files", sureDisk("a", "open 1 1\nend\n", "s1", ""), impl.LogNone)
	wantOpenCode(t, "a plan alone", sureDisk("m1", "open 1 1\nend\n"), impl.LogLost)
	good := func() disk { return sureDisk("m1", "open 1 1\nend\n", "s1", "") }
	for what, change := range map[string]func(d *disk){
		"a name too many":     func(d *disk) { d.Names = append(d.Names, "s2") },
		"a file too many":     func(d *disk) { d.Files = append(d.Files, aFile("s2", "", 0)) },
		"kept below 0":        func(d *disk) { d.Files[0].Kept = -1 },
		"kept beyond":         func(d *disk) { d.Files[1].Kept = 1 },
		"gone, but not there": func(d *disk) { d.Moves = []diskMove{{Gone: true, Name: "s2"}} },
		"no name":             func(d *disk) { d.Files[1].Name, d.Names[1] = "S1", "S1" },
		"too long":            func(d *disk) { d.Files[1].Data = strings.Repeat("x", 20001) },
	} {
		d := good()
		change(&d)
		wantOpenCode(t, what, d, impl.LogBad)
		empty := disk{}
		if what == "a name too many" || what == "a file too many" || what == "gone, but not there" {
			change(&empty)
			wantOpenCode(t, what, empty, impl.LogBad)
		}
	}
}

// chanceLog is a disk with a log and other files, some of which may be wrong.
func chanceLog(r *rand.Rand) disk {
	p := plan(20+r.Intn(3), 1)
	files := [][2]string{}
	for i := range r.Intn(4) {
		next := p.First + r.Intn(4)
		data := ""
		for pos := p.First; pos < next; pos++ {
			if r.Intn(4) > 0 {
				data += toldFrame(rec(pos, strings.Repeat("d", r.Intn(3))))
			}
		}
		p.Parts = append(p.Parts, part(1+i*3+r.Intn(3), p.First, next, len(data)))
		files = append(files, [2]string{fmt.Sprint("s", p.Parts[i].Num), data + strings.Repeat("j", r.Intn(3)*r.Intn(2))})
		p.First = next
	}
	data := ""
	for i := range r.Intn(4) {
		data += toldFrame(rec(p.First+i, strings.Repeat("o", r.Intn(3))))
	}
	files = append(files, [2]string{fmt.Sprint("s", p.Open), data[:len(data)-min(len(data), r.Intn(2)*r.Intn(8))]})
	files = append(files, [2]string{fmt.Sprint("m", 1+r.Intn(30)), toldPlanText(p)})
	for range r.Intn(3) {
		text := []string{"", "open 1 1\nend\n", toldPlanText(p), toldPlanText(p)[:5]}[r.Intn(4)]
		files = append(files, [2]string{[]string{"m", "m0", "s", "x"}[r.Intn(4)] + fmt.Sprint(31+r.Intn(9)), text})
	}
	r.Shuffle(len(files), func(i, j int) { files[i], files[j] = files[j], files[i] })
	var d disk
	seen := map[string]bool{}
	for _, f := range files {
		if seen[f[0]] {
			continue
		}
		seen[f[0]] = true
		if r.Intn(4) == 0 || len(d.Moves) > 0 {
			d.Moves = append(d.Moves, diskMove{Name: f[0]})
		} else {
			d.Names = append(d.Names, f[0])
		}
		d.Files = append(d.Files, aFile(f[0], f[1], r.Intn(len(f[1])+1)))
	}
	return d
}

// P48: many disks by chance, some of them wrong in one place.
func TestOpenMany(t *testing.T) {
	r := rand.New(rand.NewSource(43))
	codes := map[int]int{}
	torn := 0
	for range 6000 {
		d := chanceLog(r)
		switch at := r.Intn(len(d.Files)); r.Intn(6) {
		case 0:
			d.Moves = append(d.Moves, diskMove{Gone: true, Name: d.Files[at].Name})
		case 1:
			if data := []byte(d.Files[at].Data); len(data) > 0 {
				data[r.Intn(len(data))] += byte(1 + r.Intn(2))
				d.Files[at].Data = string(data)
			}
		case 2:
			d.Files[at].Data += "x"
		}
		told := toldOpen(d)
		wantOpened(t, diskText(d), d, told)
		codes[told.Code]++
		if told.Torn {
			torn++
		}
	}
	if codes[0] < 1000 || codes[impl.LogLost] < 500 || codes[impl.LogNone] < 100 || torn < 300 {
		t.Errorf("%v, torn %d", codes, torn)
	}
}

// Every function answers at every argument; the empty list and the nil list are the same value.
func TestOpenWithoutEnd(t *testing.T) {
	wantOpenCode(t, "many files", disk{Files: make([]diskFile, 1000000)}, impl.LogBad)
	wantOpenCode(t, "empty lists", disk{Files: []diskFile{}, Names: []string{}, Moves: []diskMove{}}, impl.LogNone)
	d := sureDisk("m1", "open 1 1\nend\n", "s1", "")
	d.Moves = []diskMove{}
	wantOpened(t, "no moves", d, logState{Num: 1, Plan: plan(1, 1), Next: 1})
}

// Nothing is written into an argument or behind its end, and every answer is new memory.
func TestOpenMemory(t *testing.T) {
	p := plan(2, 3, part(1, 1, 3, 18))
	plain := sureDisk("s1", strings.Clone(frames(rec(1, "aaaa"), rec(2, "bbbb"))), "s2", strings.Clone(frames(rec(3, "cccc"))), "m1", toldPlanText(p))
	d := disk{Files: withSpare(plain.Files, aFile("spare", "", 0)), Names: withSpare(plain.Names, "spare"), Moves: withSpare([]diskMove{}, diskMove{Name: "spare"})}
	got := impl.LogOpen(d)
	for _, r := range got.Records {
		wantTextsApart(t, []string{r.Data}, []string{d.Files[0].Data, d.Files[1].Data, d.Files[2].Data})
	}
	wanted := toldOpen(d)
	if !sameState(got, wanted) {
		t.Errorf("%v", got)
	}
	wipe(got.Records)
	wipe(got.Plan.Parts)
	if !sameDisk(d, plain) || !stillSpare(d.Files, aFile("spare", "", 0)) || !stillSpare(d.Names, "spare") || !stillSpare(d.Moves, diskMove{Name: "spare"}) {
		t.Error("the disk was changed")
	}
	if again := impl.LogOpen(d); !sameState(again, wanted) {
		t.Error("an answer shares something")
	}
}
