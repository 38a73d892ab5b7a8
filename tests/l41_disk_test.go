package tests

import (
	"fmt"
	"math"
	"math/rand"
	"slices"
	"strings"
	"testing"

	"loop.example/teagle/impl"
)

type disk = impl.Disk

type diskFile = impl.DiskFile

type diskMove = impl.DiskMove

type diskWrite = impl.DiskWrite

func aFile(name, data string, kept int) diskFile {
	return diskFile{Name: name, Data: data, Kept: kept}
}

func aWrite(kind int, name, data string) diskWrite {
	return diskWrite{Kind: kind, Name: name, Data: data}
}

// diskText tells a disk: files with a bar where what is kept ends, the names, the moves.
func diskText(d disk) string {
	var files, moves []string
	for _, f := range d.Files {
		kept := max(0, min(f.Kept, len(f.Data)))
		files = append(files, fmt.Sprintf("%s=%s/%s", f.Name, f.Data[:kept], f.Data[kept:]))
		if f.Kept != kept {
			files = append(files, fmt.Sprint("kept ", f.Kept))
		}
	}
	for _, m := range d.Moves {
		moves = append(moves, map[bool]string{true: "-", false: "+"}[m.Gone]+m.Name)
	}
	return strings.TrimSpace(strings.Join(files, " ") + " | " + strings.Join(d.Names, " ") + " | " + strings.Join(moves, " "))
}

// diskOf is the disk of a text such as diskText tells.
func diskOf(t *testing.T, s string) disk {
	t.Helper()
	parts := strings.Split(s+" ", "|")
	if len(parts) != 3 {
		t.Fatalf("%q is no disk", s)
	}
	d := disk{Names: strings.Fields(parts[1])}
	for _, word := range strings.Fields(parts[0]) {
		name, rest, _ := strings.Cut(word, "=")
		kept, more, _ := strings.Cut(rest, "/")
		d.Files = append(d.Files, aFile(name, kept+more, len(kept)))
	}
	for _, word := range strings.Fields(parts[2]) {
		d.Moves = append(d.Moves, diskMove{Gone: word[0] == '-', Name: word[1:]})
	}
	return d
}

func copyDisk(d disk) disk {
	return disk{Files: slices.Clone(d.Files), Names: slices.Clone(d.Names), Moves: slices.Clone(d.Moves)}
}

func sameDisk(a, b disk) bool {
	return slices.Equal(a.Files, b.Files) && slices.Equal(a.Names, b.Names) && slices.Equal(a.Moves, b.Moves)
}

// behindMoves is by itself the directory behind so many moves, and whether each one that is gone was there.
func behindMoves(d disk, moves int) ([]string, bool) {
	dir := strings.Fields(strings.Join(d.Names, " "))
	fine := true
	for _, m := range d.Moves[:moves] {
		if !m.Gone {
			dir = append(dir, m.Name)
			continue
		}
		at := slices.Index(dir, m.Name)
		if at < 0 {
			fine = false
			continue
		}
		dir = slices.Concat(dir[:at], dir[at+1:])
	}
	return dir, fine
}

// toldDiskOk is by itself whether a disk is ok.
func toldDiskOk(d disk) bool {
	if len(d.Files) > 64 || len(d.Moves) > 128 {
		return false
	}
	names := slices.Clone(d.Names)
	for _, m := range d.Moves {
		if !m.Gone {
			names = append(names, m.Name)
		}
	}
	if len(names) != len(d.Files) {
		return false
	}
	seen := map[string]bool{}
	for i, f := range d.Files {
		if f.Name != names[i] || seen[f.Name] || !okNames([]string{f.Name}) || len(f.Data) > 20000 || f.Kept < 0 || f.Kept > len(f.Data) {
			return false
		}
		seen[f.Name] = true
	}
	_, fine := behindMoves(d, len(d.Moves))
	return fine
}

func fileAt(d disk, name string) int {
	return slices.IndexFunc(d.Files, func(f diskFile) bool { return f.Name == name })
}

// toldWrite is by itself the disk behind a write, and its code.
func toldWrite(d disk, w diskWrite) (disk, int) {
	if !toldDiskOk(d) {
		return disk{}, 1
	}
	dir, _ := behindMoves(d, len(d.Moves))
	at := fileAt(d, w.Name)
	next := copyDisk(d)
	there := slices.Contains(dir, w.Name)
	switch w.Kind {
	case 1:
		if at >= 0 || !okNames([]string{w.Name}) {
			return d, 3
		}
		if len(d.Files) == 64 || len(d.Moves) == 128 {
			return d, 4
		}
		next.Files, next.Moves = append(next.Files, aFile(w.Name, "", 0)), append(next.Moves, diskMove{Name: w.Name})
	case 2:
		if !there {
			return d, 2
		}
		if len(d.Files[at].Data)+len(w.Data) > 20000 {
			return d, 4
		}
		next.Files[at].Data += w.Data
	case 3:
		if !there {
			return d, 2
		}
		next.Files[at].Kept = len(d.Files[at].Data)
	case 4:
		if !there {
			return d, 2
		}
		if len(d.Moves) == 128 {
			return d, 4
		}
		next.Moves = append(next.Moves, diskMove{Gone: true, Name: w.Name})
	case 5:
		next = disk{Names: dir}
		for _, name := range dir {
			next.Files = append(next.Files, d.Files[fileAt(d, name)])
		}
	default:
		return d, 5
	}
	return next, 0
}

// toldCut is by itself what is left behind a loss of power.
func toldCut(d disk, moves int, keep []int) disk {
	if !toldDiskOk(d) {
		return disk{}
	}
	dir, _ := behindMoves(d, max(0, min(moves, len(d.Moves))))
	left := disk{Names: dir}
	for _, name := range dir {
		at := fileAt(d, name)
		f := d.Files[at]
		more := 0
		if at < len(keep) && keep[at] > 0 {
			more = min(keep[at], len(f.Data)-f.Kept)
		}
		left.Files = append(left.Files, aFile(name, f.Data[:f.Kept+more], f.Kept+more))
	}
	return left
}

// wantDisk: a disk is ok, or not; what is there, and what is left of it, is as the tests themselves tell.
func wantDisk(t *testing.T, what string, d disk, ok bool) {
	t.Helper()
	if impl.DiskOk(d) != ok || toldDiskOk(d) != ok {
		t.Errorf("%s is ok: %v, the tests themselves tell %v, wanted %v", what, impl.DiskOk(d), toldDiskOk(d), ok)
		return
	}
	names := impl.DiskNames(d)
	if !ok {
		_, look := impl.DiskLook(d, "a")
		if len(names) != 0 || look || !sameDisk(impl.DiskCut(d, 0, nil), disk{}) || !sameDisk(impl.DiskCut(d, 99, []int{9}), disk{}) {
			t.Errorf("%s: %v is there", what, names)
		}
		for kind := -1; kind <= 7; kind++ {
			if next, code := impl.DiskDo(d, aWrite(kind, "a", "x")); code != impl.DiskBad || !sameDisk(next, disk{}) {
				t.Errorf("%s: the write %d: %d", what, kind, code)
			}
		}
		return
	}
	dir, _ := behindMoves(d, len(d.Moves))
	if !slices.Equal(names, dir) {
		t.Errorf("%s: %v is there, wanted %v", what, names, dir)
	}
	for _, f := range append(slices.Clone(d.Files), aFile("nobody", "", 0), aFile("", "", 0)) {
		wanted := ""
		if slices.Contains(dir, f.Name) {
			wanted = f.Data
		}
		if data, is := impl.DiskLook(d, f.Name); is != slices.Contains(dir, f.Name) || data != wanted {
			t.Errorf("%s: %s is %.100q %v", what, f.Name, data, is)
		}
	}
}

// wantWrite: the disk behind a write, and its code; P43 holds. It is that disk.
func wantWrite(t *testing.T, d disk, w diskWrite, wanted int) disk {
	t.Helper()
	next, code := impl.DiskDo(d, w)
	told, toldCode := toldWrite(d, w)
	if code != wanted || toldCode != wanted || !sameDisk(next, told) {
		t.Errorf("%.100s: %d %q: %d %.300s, the tests themselves tell %d %.300s, wanted %d", diskText(d), w.Kind, w.Name, code, diskText(next), toldCode, diskText(told), wanted)
	}
	wantJustItsFile(t, d, w, next, code)
	return next
}

// wantJustItsFile is P43.
func wantJustItsFile(t *testing.T, d disk, w diskWrite, next disk, code int) {
	t.Helper()
	if !impl.DiskOk(d) {
		return
	}
	if !impl.DiskOk(next) || code != 0 && !sameDisk(next, d) {
		t.Errorf("%.100s: behind the write %d it is ok %v, with %d", diskText(d), w.Kind, impl.DiskOk(next), code)
	}
	for _, f := range append(slices.Clone(d.Files), aFile(w.Name, "", 0)) {
		data, is := impl.DiskLook(d, f.Name)
		after, there := impl.DiskLook(next, f.Name)
		if code == 0 && f.Name == w.Name {
			switch w.Kind {
			case impl.DiskMake:
				data, is = "", true
			case impl.DiskAdd:
				data += w.Data
			case impl.DiskGone:
				data, is = "", false
			}
		}
		if after != data || there != is {
			t.Errorf("%.100s: the write %d changes %s", diskText(d), w.Kind, f.Name)
		}
	}
}

// wantCut: what is left behind a loss of power; P44 holds. It is that disk.
func wantCut(t *testing.T, d disk, moves int, keep []int) disk {
	t.Helper()
	left := impl.DiskCut(d, moves, keep)
	if told := toldCut(d, moves, keep); !sameDisk(left, told) {
		t.Errorf("%.200s cut at %d with %v: %.200s, the tests themselves tell %.200s", diskText(d), moves, keep, diskText(left), diskText(told))
	}
	if !impl.DiskOk(left) {
		t.Errorf("%.200s is not ok", diskText(left))
	}
	for _, f := range left.Files {
		was := d.Files[fileAt(d, f.Name)]
		if !strings.HasPrefix(was.Data, f.Data) || len(f.Data) < was.Kept || f.Kept != len(f.Data) {
			t.Errorf("%.200s cut: %s is %.100q of %.100q", diskText(d), f.Name, f.Data, was.Data)
		}
	}
	// It outlives each further one.
	for _, again := range []disk{impl.DiskCut(left, 0, nil), impl.DiskCut(left, -1, []int{-1, 5}), impl.DiskCut(left, 99, []int{9, 9, 9})} {
		if !sameDisk(again, left) {
			t.Errorf("%.200s does not outlive: %.200s", diskText(left), diskText(again))
		}
	}
	return left
}

// P43: an ordinary disk, made by writes from the empty one, whose files, names and moves are known behind each write.
func TestDiskOrdinary(t *testing.T) {
	d := disk{}
	wantDisk(t, "the empty disk", d, true)
	for _, row := range []struct {
		kind       int
		name, data string
		code       int
		wanted     string
		there      string
	}{
		{impl.DiskMake, "a", "", 0, "a=/ |  | +a", "a"}, {impl.DiskMake, "a", "", impl.DiskTaken, "a=/ |  | +a", "a"}, {impl.DiskMake, "A", "", impl.DiskTaken, "a=/ |  | +a", "a"}, {impl.DiskMake, "", "", impl.DiskTaken, "a=/ |  | +a", "a"},
		{impl.DiskAdd, "a", "xyz", 0, "a=/xyz |  | +a", "a"}, {impl.DiskAdd, "b", "xyz", impl.DiskNoFile, "a=/xyz |  | +a", "a"}, {impl.DiskAdd, "a", "", 0, "a=/xyz |  | +a", "a"}, {impl.DiskSync, "a", "", 0, "a=xyz/ |  | +a", "a"}, {impl.DiskSync, "b", "", impl.DiskNoFile, "a=xyz/ |  | +a", "a"}, {impl.DiskAdd, "a", "w", 0, "a=xyz/w |  | +a", "a"},
		{impl.DiskMake, "b", "ignored", 0, "a=xyz/w b=/ |  | +a +b", "a b"}, {impl.DiskDirs, "ignored", "ignored", 0, "a=xyz/w b=/ | a b |", "a b"}, {impl.DiskDirs, "", "", 0, "a=xyz/w b=/ | a b |", "a b"},
		{impl.DiskGone, "a", "", 0, "a=xyz/w b=/ | a b | -a", "b"}, {impl.DiskGone, "a", "", impl.DiskNoFile, "a=xyz/w b=/ | a b | -a", "b"}, {impl.DiskAdd, "a", "q", impl.DiskNoFile, "a=xyz/w b=/ | a b | -a", "b"}, {impl.DiskSync, "a", "", impl.DiskNoFile, "a=xyz/w b=/ | a b | -a", "b"}, {impl.DiskMake, "a", "", impl.DiskTaken, "a=xyz/w b=/ | a b | -a", "b"},
		{impl.DiskMake, "c", "", 0, "a=xyz/w b=/ c=/ | a b | -a +c", "b c"}, {impl.DiskAdd, "c", "12", 0, "a=xyz/w b=/ c=/12 | a b | -a +c", "b c"}, {impl.DiskGone, "c", "", 0, "a=xyz/w b=/ c=/12 | a b | -a +c -c", "b"}, {impl.DiskMake, "c", "", impl.DiskTaken, "a=xyz/w b=/ c=/12 | a b | -a +c -c", "b"}, {impl.DiskMake, "d", "", 0, "a=xyz/w b=/ c=/12 d=/ | a b | -a +c -c +d", "b d"},
		{0, "b", "", impl.DiskNoKind, "a=xyz/w b=/ c=/12 d=/ | a b | -a +c -c +d", "b d"}, {6, "b", "", impl.DiskNoKind, "a=xyz/w b=/ c=/12 d=/ | a b | -a +c -c +d", "b d"}, {-1, "No", "", impl.DiskNoKind, "a=xyz/w b=/ c=/12 d=/ | a b | -a +c -c +d", "b d"},
		{impl.DiskDirs, "", "", 0, "b=/ d=/ | b d |", "b d"}, {impl.DiskMake, "a", "", 0, "b=/ d=/ a=/ | b d | +a", "b d a"}, {impl.DiskMake, "c", "", 0, "b=/ d=/ a=/ c=/ | b d | +a +c", "b d a c"}, {impl.DiskGone, "d", "", 0, "b=/ d=/ a=/ c=/ | b d | +a +c -d", "b a c"}, {impl.DiskDirs, "", "", 0, "b=/ a=/ c=/ | b a c |", "b a c"},
	} {
		d = wantWrite(t, d, aWrite(row.kind, row.name, row.data), row.code)
		if diskText(d) != strings.TrimSpace(row.wanted) || strings.Join(impl.DiskNames(d), " ") != row.there {
			t.Errorf("%d %s: %s, there is %v, wanted %s", row.kind, row.name, diskText(d), impl.DiskNames(d), row.wanted)
		}
		wantDisk(t, row.wanted, d, true)
		if back := diskOf(t, row.wanted); !sameDisk(back, d) {
			t.Errorf("%q is %q", row.wanted, diskText(back))
		}
	}
}

// P44: what a loss of power leaves, at each move, with each sort of keep.
func TestDiskCut(t *testing.T) {
	d := diskOf(t, "a=xyz/w b=/ c=/12 d=q/rst | a b | -a +c -c +d")
	for _, row := range []struct {
		moves  int
		keep   []int
		wanted string
	}{
		{0, nil, "a=xyz/ b=/ | a b |"}, {-1, nil, "a=xyz/ b=/ | a b |"}, {math.MinInt, nil, "a=xyz/ b=/ | a b |"}, {1, nil, "b=/ | b |"}, {2, nil, "b=/ c=/ | b c |"}, {3, nil, "b=/ | b |"}, {4, nil, "b=/ d=q/ | b d |"}, {5, nil, "b=/ d=q/ | b d |"}, {math.MaxInt, nil, "b=/ d=q/ | b d |"},
		// The place is that among d's Files, whichever of them are gone.
		{0, []int{0}, "a=xyz/ b=/ | a b |"}, {0, []int{1}, "a=xyzw/ b=/ | a b |"}, {0, []int{2}, "a=xyzw/ b=/ | a b |"}, {0, []int{-1, 5}, "a=xyz/ b=/ | a b |"}, {0, []int{math.MaxInt}, "a=xyzw/ b=/ | a b |"}, {0, []int{math.MinInt}, "a=xyz/ b=/ | a b |"},
		{2, []int{9, 9, 1}, "b=/ c=1/ | b c |"}, {2, []int{9, 9, 2}, "b=/ c=12/ | b c |"}, {2, []int{9, 9, 3}, "b=/ c=12/ | b c |"}, {2, []int{9, 9}, "b=/ c=/ | b c |"}, {2, []int{1}, "b=/ c=/ | b c |"}, {2, []int{0, 0, -1}, "b=/ c=/ | b c |"},
		{4, []int{9, 9, 9, 0}, "b=/ d=q/ | b d |"}, {4, []int{0, 0, 0, 1}, "b=/ d=qr/ | b d |"}, {4, []int{0, 0, 0, 2}, "b=/ d=qrs/ | b d |"}, {4, []int{0, 0, 0, 3}, "b=/ d=qrst/ | b d |"}, {4, []int{0, 0, 0, 4, 5, 6, 7}, "b=/ d=qrst/ | b d |"}, {4, []int{3}, "b=/ d=q/ | b d |"}, {4, []int{0, 3}, "b=/ d=q/ | b d |"}, {4, []int{0, 0, 0, math.MaxInt}, "b=/ d=qrst/ | b d |"},
	} {
		left := wantCut(t, d, row.moves, row.keep)
		if diskText(left) != strings.TrimSpace(row.wanted) {
			t.Errorf("cut at %d with %v: %s, wanted %s", row.moves, row.keep, diskText(left), row.wanted)
		}
	}
	if left := wantCut(t, disk{}, 3, []int{1}); !sameDisk(left, disk{}) {
		t.Errorf("%s", diskText(left))
	}
	// A file that is gone, but is one of Names, comes back; one that is made and not sure is lost.
	for _, row := range []struct{ d, kept, gone string }{{"a=x/ | a | -a", "a=x/ | a |", "|  |"}, {"a=x/ |  | +a", "|  |", "a=x/ | a |"}, {"a=x/ |  | +a -a", "|  |", "|  |"}} {
		d := diskOf(t, row.d)
		if none, all := diskText(wantCut(t, d, 0, nil)), diskText(wantCut(t, d, 99, nil)); none != strings.TrimSpace(row.kept) || all != strings.TrimSpace(row.gone) {
			t.Errorf("%s: %s and %s", row.d, none, all)
		}
	}
}

// manyFiles is a disk of so many files, the first ones of Names, the others made by moves, and so many more moves that take files away.
func manyFiles(names, made, gone int) disk {
	d := disk{}
	for i := range names + made {
		name := fmt.Sprintf("f%d", i)
		d.Files = append(d.Files, aFile(name, "ab", 1))
		if i < names {
			d.Names = append(d.Names, name)
		} else {
			d.Moves = append(d.Moves, diskMove{Name: name})
		}
	}
	for i := range gone {
		d.Moves = append(d.Moves, diskMove{Gone: true, Name: fmt.Sprintf("f%d", i)})
	}
	return d
}

// P43: the bounds of disks, just met and passed by one.
func TestDiskBounds(t *testing.T) {
	for _, row := range []struct {
		names, made, gone int
		ok                bool
		makes, takes      int
	}{
		{0, 0, 0, true, 0, impl.DiskNoFile}, {63, 0, 0, true, 0, 0}, {64, 0, 0, true, impl.DiskFull, 0}, {65, 0, 0, false, impl.DiskBad, impl.DiskBad}, {0, 64, 0, true, impl.DiskFull, 0}, {0, 65, 0, false, impl.DiskBad, impl.DiskBad}, {32, 32, 0, true, impl.DiskFull, 0}, {0, 63, 63, true, 0, impl.DiskNoFile}, {0, 64, 63, true, impl.DiskFull, 0}, {0, 64, 64, true, impl.DiskFull, impl.DiskNoFile}, {64, 0, 64, true, impl.DiskFull, impl.DiskNoFile}, {63, 0, 63, true, 0, impl.DiskNoFile}, {1, 63, 63, true, impl.DiskFull, 0}, {1, 63, 64, true, impl.DiskFull, impl.DiskNoFile},
	} {
		d := manyFiles(row.names, row.made, row.gone)
		what := fmt.Sprintf("%d names, %d made, %d gone", row.names, row.made, row.gone)
		wantDisk(t, what, d, row.ok)
		wantWrite(t, d, aWrite(impl.DiskMake, "new", ""), row.makes)
		last := fmt.Sprintf("f%d", row.names+row.made-1)
		wantWrite(t, d, aWrite(impl.DiskGone, last, ""), row.takes)
		if row.ok {
			wantWrite(t, d, aWrite(impl.DiskDirs, "", ""), 0)
			for _, moves := range []int{0, 1, len(d.Moves) / 2, len(d.Moves) - 1, len(d.Moves)} {
				wantCut(t, d, moves, []int{1, 0, 1})
			}
		}
	}
	// As many moves as there may be need as many files that are made and gone; with one more it is not ok.
	full := manyFiles(0, 64, 64)
	if len(full.Moves) != 128 {
		t.Fatal(len(full.Moves))
	}
	over := copyDisk(full)
	over.Moves = append(over.Moves, diskMove{Gone: true, Name: "f0"})
	wantDisk(t, "129 moves", over, false)
	// By writes: files are made and gone until there is no room for one more.
	d := disk{}
	for i := range 64 {
		name := fmt.Sprintf("g%d", i)
		d = wantWrite(t, d, aWrite(impl.DiskMake, name, ""), 0)
		if i < 63 {
			d = wantWrite(t, d, aWrite(impl.DiskGone, name, ""), 0)
		}
	}
	wantWrite(t, d, aWrite(impl.DiskMake, "more", ""), impl.DiskFull)
	d = wantWrite(t, d, aWrite(impl.DiskGone, "g63", ""), 0)
	wantWrite(t, d, aWrite(impl.DiskMake, "more", ""), impl.DiskFull)
	// A name that is taken, or is none, comes ahead of a disk that is full.
	for _, name := range []string{"g0", "g63", "", "A", "ninebytes"} {
		wantWrite(t, d, aWrite(impl.DiskMake, name, ""), impl.DiskTaken)
	}
	for _, kind := range []int{impl.DiskAdd, impl.DiskSync, impl.DiskGone} {
		wantWrite(t, d, aWrite(kind, "g63", "x"), impl.DiskNoFile)
	}
	if d = wantWrite(t, d, aWrite(impl.DiskDirs, "", ""), 0); !sameDisk(d, disk{}) {
		t.Errorf("%s", diskText(d))
	}
	wantWrite(t, d, aWrite(impl.DiskMake, "g0", ""), 0)
	// Bytes of files.
	for _, size := range []int{0, 1, 19999, 20000, 20001, 30000} {
		d := disk{Files: []diskFile{aFile("a", strings.Repeat("x", size), 0)}, Names: []string{"a"}}
		wantDisk(t, fmt.Sprint(size, " bytes"), d, size <= 20000)
		for _, more := range []int{0, 1, 20000 - size, 20001 - size, 20000} {
			if more < 0 || size > 20000 {
				continue
			}
			code := 0
			if size+more > 20000 {
				code = impl.DiskFull
			}
			wantWrite(t, d, aWrite(impl.DiskAdd, "a", strings.Repeat("y", more)), code)
			wantWrite(t, d, aWrite(impl.DiskAdd, "b", strings.Repeat("y", more)), impl.DiskNoFile)
			wantWrite(t, d, aWrite(impl.DiskSync, "a", strings.Repeat("y", 30000)), 0)
		}
		for _, kept := range []int{math.MinInt, -1, 0, 1, size - 1, size, size + 1, math.MaxInt} {
			d.Files[0].Kept = kept
			wantDisk(t, fmt.Sprint(kept, " kept of ", size), d, size <= 20000 && kept >= 0 && kept <= size)
			if kept >= 0 && kept <= size && size <= 20000 {
				wantCut(t, d, 0, []int{size - kept - 1})
				wantCut(t, d, 0, []int{size - kept})
				wantCut(t, d, 0, []int{size - kept + 1})
			}
		}
	}
	// One that is gone and too long: that it is not there comes first.
	gone := disk{Files: []diskFile{aFile("a", strings.Repeat("x", 20000), 0)}, Names: []string{"a"}, Moves: []diskMove{{Gone: true, Name: "a"}}}
	wantWrite(t, gone, aWrite(impl.DiskAdd, "a", "y"), impl.DiskNoFile)
	if impl.DiskMaxFiles != 64 || impl.DiskMaxData != 20000 {
		t.Error("the bounds")
	}
}

// Each reason for which a disk is not ok, by itself.
func TestDiskNotOk(t *testing.T) {
	for _, s := range []string{"| |", "a=/ | a |", "a=/ | | +a", "a=/ b=/ | a | +b", "a=/ b=/ | a | +b -a -b", "b=/z a=x/y | b a | -b", "a=/ | | +a -a"} {
		wantDisk(t, s, diskOf(t, s), true)
	}
	for _, s := range []string{
		// Files are not just those of Names, and behind them those that are made, in order.
		"| a |", "a=/ | |", "a=/ | a | +b", "| | +a", "a=/ b=/ | a |", "b=/ a=/ | a b |", "b=/ a=/ | a | +b", "a=/ b=/ | | +b +a", "a=/ b=/ | b | +a", "a=/ b=/ | a b | +c", "a=/ b=/ c=/ | a b | -a", "b=/ | a b | -a", "| a | -a", "| | +a -a", "a=/ | b |", "a=/ | | +b",
		// A name twice.
		"a=/ a=/ | a a |", "a=/ a=/ | a | +a", "a=/ a=/ | | +a +a", "a=/ a=/ | a | -a +a", "a=/ a=/ | | +a -a +a", "a=/ b=/ a=/ | a b | +a",
		// No names.
		"A=/ | A |", "1a=/ | 1a |", "ninebytes=/ | ninebytes |", "A=/ | | +A", "a-=/ | a- |",
		// Gone, but not there.
		"| | -a", "a=/ | a | -b", "a=/ | a | -a -a", "a=/ | | -a +a", "a=/ b=/ | a | -b +b", "a=/ | | +a -a -a", "a=/ | a | -A",
	} {
		wantDisk(t, s, diskOf(t, s), false)
	}
	for what, d := range map[string]disk{
		"no name": {Files: []diskFile{{}}, Names: []string{""}}, "no name made": {Files: []diskFile{{}}, Moves: []diskMove{{}}}, "kept below 0": {Files: []diskFile{aFile("a", "x", -1)}, Names: []string{"a"}}, "kept beyond": {Files: []diskFile{aFile("a", "x", 2)}, Names: []string{"a"}}, "kept of nothing": {Files: []diskFile{aFile("a", "", 1)}, Names: []string{"a"}}, "too long": {Files: []diskFile{aFile("a", strings.Repeat("x", 20001), 0)}, Names: []string{"a"}}, "the last one is not ok": {Files: []diskFile{aFile("a", "x", 0), aFile("b", "x", 2)}, Names: []string{"a"}, Moves: []diskMove{{Name: "b"}}}, "a space": {Files: []diskFile{aFile("a b", "", 0)}, Names: []string{"a b"}},
	} {
		wantDisk(t, what, d, false)
	}
}

// Each code of each write, and the first where two would hold.
func TestDiskCodes(t *testing.T) {
	d := diskOf(t, "a=x/y b=/ c=/z | a b | -b +c")
	for _, row := range []struct {
		kind int
		name string
		code int
	}{
		{impl.DiskMake, "d", 0}, {impl.DiskMake, "a", impl.DiskTaken}, {impl.DiskMake, "b", impl.DiskTaken}, {impl.DiskMake, "c", impl.DiskTaken}, {impl.DiskMake, "", impl.DiskTaken}, {impl.DiskMake, "D", impl.DiskTaken}, {impl.DiskMake, "ninebytes", impl.DiskTaken}, {impl.DiskMake, "d\n", impl.DiskTaken},
		{impl.DiskAdd, "a", 0}, {impl.DiskAdd, "b", impl.DiskNoFile}, {impl.DiskAdd, "c", 0}, {impl.DiskAdd, "d", impl.DiskNoFile}, {impl.DiskAdd, "", impl.DiskNoFile}, {impl.DiskAdd, "A", impl.DiskNoFile}, {impl.DiskSync, "a", 0}, {impl.DiskSync, "b", impl.DiskNoFile}, {impl.DiskSync, "c", 0}, {impl.DiskSync, "d", impl.DiskNoFile}, {impl.DiskSync, "", impl.DiskNoFile}, {impl.DiskGone, "a", 0}, {impl.DiskGone, "b", impl.DiskNoFile}, {impl.DiskGone, "c", 0}, {impl.DiskGone, "d", impl.DiskNoFile}, {impl.DiskGone, "", impl.DiskNoFile},
		{impl.DiskDirs, "", 0}, {impl.DiskDirs, "a", 0}, {impl.DiskDirs, "D", 0},
		{0, "a", impl.DiskNoKind}, {6, "a", impl.DiskNoKind}, {-1, "", impl.DiskNoKind}, {256 + 1, "d", impl.DiskNoKind}, {math.MaxInt, "a", impl.DiskNoKind}, {math.MinInt, "a", impl.DiskNoKind},
	} {
		wantWrite(t, d, aWrite(row.kind, row.name, "more"), row.code)
	}
	bad := diskOf(t, "a=/ | b |")
	for kind := -1; kind <= 7; kind++ {
		for _, name := range []string{"a", "b", "c", ""} {
			wantWrite(t, bad, aWrite(kind, name, ""), impl.DiskBad)
		}
	}
	full := manyFiles(0, 64, 64)
	for kind, code := range map[int]int{impl.DiskMake: impl.DiskFull, impl.DiskAdd: impl.DiskNoFile, impl.DiskGone: impl.DiskNoFile, impl.DiskDirs: 0, 9: impl.DiskNoKind} {
		wantWrite(t, full, aWrite(kind, "x", ""), code)
	}
	if impl.DiskBad != 1 || impl.DiskNoFile != 2 || impl.DiskTaken != 3 || impl.DiskFull != 4 || impl.DiskNoKind != 5 {
		t.Error("the codes")
	}
}

// chanceWrite is a write by chance, often one that is not refused.
func chanceWrite(r *rand.Rand, names int) diskWrite {
	name := string(rune('a' + r.Intn(names)))
	if r.Intn(30) == 0 {
		name = []string{"", "A", "ninebytes"}[r.Intn(3)]
	}
	kind := []int{1, 1, 1, 2, 2, 2, 2, 3, 3, 4, 5, 1 + r.Intn(6)}[r.Intn(12)]
	return aWrite(kind, name, strings.Repeat(string(rune('A'+r.Intn(26))), r.Intn(6)))
}

// P43, P44, P45: many disks by chance.
func TestDiskMany(t *testing.T) {
	r := rand.New(rand.NewSource(43))
	codes, lost, synced := map[int]int{}, 0, 0
	for range 1500 {
		d := disk{}
		for range 1 + r.Intn(30) {
			w := chanceWrite(r, 2+r.Intn(8))
			next, code := impl.DiskDo(d, w)
			if told, toldCode := toldWrite(d, w); code != toldCode || !sameDisk(next, told) {
				t.Fatalf("%s: %v: %d %s, but the tests tell %d %s", diskText(d), w, code, diskText(next), toldCode, diskText(told))
			}
			wantJustItsFile(t, d, w, next, code)
			codes[code]++
			d = next
		}
		wantDisk(t, diskText(d), d, true)
		for range 4 {
			keep := make([]int, r.Intn(len(d.Files)+3))
			for i := range keep {
				keep[i] = r.Intn(9) - 2
			}
			left := wantCut(t, d, r.Intn(len(d.Moves)+4)-2, keep)
			if len(left.Files) != len(impl.DiskNames(d)) {
				lost++
			}
		}
		// P45: a file that is synced, and then the directory, is left whole by any loss of power, also behind further writes to others.
		for _, name := range impl.DiskNames(d) {
			data, _ := impl.DiskLook(d, name)
			sure, code := impl.DiskDo(d, aWrite(impl.DiskSync, name, ""))
			sure, code2 := impl.DiskDo(sure, aWrite(impl.DiskDirs, "", ""))
			if code != 0 || code2 != 0 {
				t.Fatalf("%s: %d %d", diskText(d), code, code2)
			}
			for step := range 6 {
				if step > 0 {
					if w := chanceWrite(r, 8); w.Name != name {
						sure, _ = impl.DiskDo(sure, w)
					}
				}
				for _, moves := range []int{-1, 0, 1, r.Intn(10), 99} {
					left := impl.DiskCut(sure, moves, []int{r.Intn(5) - 2, r.Intn(5)})
					if kept, is := impl.DiskLook(left, name); !is || kept != data {
						t.Fatalf("%s: %s is %q %v, and was %q", diskText(sure), name, kept, is, data)
					}
					synced++
				}
			}
		}
		if t.Failed() {
			t.FailNow()
		}
	}
	for _, code := range []int{0, 2, 3, 5} {
		if codes[code] < 200 {
			t.Errorf("%v", codes)
		}
	}
	if lost < 500 || synced < 5000 {
		t.Errorf("%d lost something, %d are sure", lost, synced)
	}
}

// Disks that are nearly ok, by chance.
func TestDiskSpoiled(t *testing.T) {
	r := rand.New(rand.NewSource(44))
	fine, not := 0, 0
	for range 6000 {
		d := disk{}
		for range 1 + r.Intn(12) {
			d, _ = impl.DiskDo(d, chanceWrite(r, 4))
		}
		names := []string{"a", "b", "c", "d", "A", ""}
		switch at := r.Intn(4); {
		case at == 0 && len(d.Files) > 0:
			f := &d.Files[r.Intn(len(d.Files))]
			*f = []diskFile{aFile(names[r.Intn(6)], f.Data, f.Kept), aFile(f.Name, f.Data, f.Kept+r.Intn(3)-1), aFile(f.Name, f.Data+"x", f.Kept)}[r.Intn(3)]
		case at == 1 && len(d.Names) > 0:
			d.Names[r.Intn(len(d.Names))] = names[r.Intn(6)]
		case at == 2 && len(d.Moves) > 0:
			m := &d.Moves[r.Intn(len(d.Moves))]
			*m = []diskMove{{Gone: !m.Gone, Name: m.Name}, {Gone: m.Gone, Name: names[r.Intn(6)]}}[r.Intn(2)]
		case at == 3:
			d.Moves = append(d.Moves, diskMove{Gone: true, Name: names[r.Intn(6)]})
		}
		ok := toldDiskOk(d)
		wantDisk(t, diskText(d), d, ok)
		if ok {
			fine++
			wantCut(t, d, r.Intn(5), []int{1, 2})
		} else {
			not++
		}
		w := chanceWrite(r, 5)
		if next, code := impl.DiskDo(d, w); true {
			if told, toldCode := toldWrite(d, w); code != toldCode || !sameDisk(next, told) {
				t.Fatalf("%s: %v: %d %s, but the tests tell %d %s", diskText(d), w, code, diskText(next), toldCode, diskText(told))
			}
		}
	}
	if fine < 1000 || not < 1000 {
		t.Errorf("%d are fine, %d not", fine, not)
	}
}

// Every function answers at every argument; the empty list and the nil list are the same value.
func TestDiskWithoutEnd(t *testing.T) {
	wantDisk(t, "many files", disk{Files: make([]diskFile, 1000000)}, false)
	wantDisk(t, "many names", disk{Names: make([]string, 1000000)}, false)
	wantDisk(t, "many moves", disk{Moves: make([]diskMove, 1000000)}, false)
	wantDisk(t, "a long name", disk{Files: []diskFile{aFile(strings.Repeat("a", 1000000), "", 0)}, Names: []string{strings.Repeat("a", 1000000)}}, false)
	for _, d := range []disk{{}, {Files: []diskFile{}, Names: []string{}, Moves: []diskMove{}}} {
		wantDisk(t, "empty lists", d, true)
		wantWrite(t, d, aWrite(impl.DiskMake, "a", ""), 0)
		wantWrite(t, d, aWrite(impl.DiskDirs, "", ""), 0)
		wantWrite(t, d, aWrite(impl.DiskAdd, "a", strings.Repeat("x", 1000000)), impl.DiskNoFile)
		wantCut(t, d, 0, []int{})
		wantCut(t, d, 0, make([]int, 1000000))
	}
}

// Nothing is written into an argument or behind its end, and every answer is new memory.
func TestDiskMemory(t *testing.T) {
	const s = "aa=long/text bb=/ cc=/others dd=q/rst | aa bb | -aa +cc -bb +dd"
	plain := diskOf(t, s)
	spare := func() disk {
		d := copyDisk(plain)
		for i := range d.Files {
			d.Files[i].Name, d.Files[i].Data = strings.Clone(d.Files[i].Name), strings.Clone(d.Files[i].Data)
		}
		d.Files = append(append(make([]diskFile, 0, 9), d.Files...), aFile("spare", "", 0))[:len(d.Files)]
		d.Names = append(append(make([]string, 0, 9), d.Names...), "spare")[:len(d.Names)]
		d.Moves = append(append(make([]diskMove, 0, 9), d.Moves...), diskMove{Name: "spare"})[:len(d.Moves)]
		return d
	}
	texts := func(d disk) []string {
		all := slices.Clone(d.Names)
		for _, f := range d.Files {
			all = append(all, f.Name, f.Data)
		}
		for _, m := range d.Moves {
			all = append(all, m.Name)
		}
		return all
	}
	stays := func(what string, d disk) {
		t.Helper()
		if !sameDisk(d, plain) || d.Files[:len(d.Files)+1][len(d.Files)].Name != "spare" || d.Names[:len(d.Names)+1][len(d.Names)] != "spare" || d.Moves[:len(d.Moves)+1][len(d.Moves)].Name != "spare" {
			t.Errorf("%s: the disk was changed: %s", what, diskText(d))
		}
	}
	spoil := func(d disk) {
		for i := range d.Files[:cap(d.Files)] {
			d.Files[:cap(d.Files)][i] = diskFile{}
		}
		for i := range d.Names[:cap(d.Names)] {
			d.Names[:cap(d.Names)][i] = "spoilt"
		}
		for i := range d.Moves[:cap(d.Moves)] {
			d.Moves[:cap(d.Moves)][i] = diskMove{}
		}
	}
	for _, w := range []diskWrite{aWrite(impl.DiskMake, strings.Clone("newfile"), ""), aWrite(impl.DiskMake, "aa", ""), aWrite(impl.DiskAdd, "cc", strings.Clone("more bytes")), aWrite(impl.DiskAdd, "bb", "x"), aWrite(impl.DiskSync, "dd", ""), aWrite(impl.DiskGone, strings.Clone("dd"), ""), aWrite(impl.DiskDirs, "", ""), aWrite(9, "", "")} {
		d := spare()
		next, _ := impl.DiskDo(d, w)
		wantTextsApart(t, texts(next), append(texts(d), w.Name, w.Data))
		wanted, _ := toldWrite(plain, w)
		if spoil(next); true {
			stays(fmt.Sprint("the write ", w.Kind), d)
		}
		if again, _ := impl.DiskDo(d, w); !sameDisk(again, wanted) {
			t.Errorf("the write %d: an answer shares something", w.Kind)
		}
	}
	d := spare()
	empty, _ := impl.DiskDo(disk{}, aWrite(impl.DiskMake, "a", ""))
	data := strings.Clone("to a file that is empty")
	next, _ := impl.DiskDo(empty, aWrite(impl.DiskAdd, "a", data))
	wantTextsApart(t, texts(next), []string{data})
	for moves := range 6 {
		left := impl.DiskCut(d, moves, []int{9, 9, 9, 9})
		wantTextsApart(t, texts(left), texts(d))
		spoil(left)
		stays("DiskCut", d)
	}
	names := impl.DiskNames(d)
	look, _ := impl.DiskLook(d, "cc")
	wantTextsApart(t, append(names, look), texts(d))
	for i := range names[:cap(names)] {
		names[:cap(names)][i] = "spoilt"
	}
	impl.DiskOk(d)
	stays("DiskNames", d)
	keep := append(make([]int, 0, 9), 1, 2, 77)[:2]
	impl.DiskCut(d, 4, keep)
	if keep[0] != 1 || keep[1] != 2 || keep[:3][2] != 77 {
		t.Error("keep was changed")
	}
}
