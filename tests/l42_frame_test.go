package tests

import (
	"fmt"
	"math"
	"math/rand"
	"regexp"
	"slices"
	"strconv"
	"strings"
	"testing"

	"loop.example/teagle/impl"
)

type logRecord = impl.LogRecord

type logPart = impl.LogPart

type logPlan = impl.LogPlan

// withSpare is a list with room behind its end, in which a mark stands.
func withSpare[E any](list []E, mark E) []E {
	return append(append(make([]E, 0, len(list)+3), list...), mark)[:len(list)]
}

// stillSpare says whether the mark behind a list's end is as it was.
func stillSpare[E comparable](list []E, mark E) bool {
	return list[:len(list)+1][len(list)] == mark
}

// wipe overwrites a list, spare room included.
func wipe[E any](list []E) {
	clear(list[:cap(list)])
}

func rec(pos int, data string) logRecord {
	return logRecord{Pos: pos, Data: data}
}

func part(num, first, next, size int) logPart {
	return logPart{Num: num, First: first, Next: next, Size: size}
}

func plan(open, first int, parts ...logPart) logPlan {
	return logPlan{Parts: parts, Open: open, First: first}
}

func samePlan(a, b logPlan) bool {
	return slices.Equal(a.Parts, b.Parts) && a.Open == b.Open && a.First == b.First
}

func copyPlan(p logPlan) logPlan {
	return logPlan{Parts: slices.Clone(p.Parts), Open: p.Open, First: p.First}
}

// toldFrame is by itself the bytes of a record.
func toldFrame(r logRecord) string {
	if r.Pos < 1 || r.Pos > 999999 || len(r.Data) > 2000 {
		return ""
	}
	size := len(r.Data)
	return string([]byte{byte(size / 256), byte(size % 256), byte(r.Pos / 65536), byte(r.Pos / 256 % 256), byte(r.Pos % 256)}) + r.Data
}

// toldFrames is by itself what records are whole, and how many bytes they have.
func toldFrames(data string) (records []logRecord, bytes int) {
	for {
		rest := data[bytes:]
		if len(rest) < 5 {
			return records, bytes
		}
		size := int(rest[0])*256 + int(rest[1])
		pos := int(rest[2])*65536 + int(rest[3])*256 + int(rest[4])
		if size > 2000 || len(rest)-5 < size || pos == 0 || pos > 999999 {
			return records, bytes
		}
		records = append(records, rec(pos, rest[5:5+size]))
		bytes += 5 + size
	}
}

// wantFrame: the bytes of a record are just these, and are read back as it, but not a beginning of them.
func wantFrame(t *testing.T, r logRecord, wanted string) {
	t.Helper()
	got := impl.LogFrame(r)
	if got != wanted || toldFrame(r) != wanted {
		t.Errorf("%d, %d bytes: %.60q, the tests themselves tell %.60q, wanted %.60q", r.Pos, len(r.Data), got, toldFrame(r), wanted)
		return
	}
	if wanted == "" {
		return
	}
	wantFrames(t, got, []logRecord{r}, len(got))
	for _, cut := range []int{0, 1, 4, 5, len(got) - 1} {
		if cut < len(got) {
			wantFrames(t, got[:cut], nil, 0)
		}
	}
}

// wantFrames: just these records are whole.
func wantFrames(t *testing.T, data string, wanted []logRecord, bytes int) {
	t.Helper()
	got, size := impl.LogFrames(data)
	told, toldSize := toldFrames(data)
	if !slices.Equal(got, wanted) || size != bytes {
		t.Errorf("%.60q: %.100v %d, wanted %.100v %d", data, got, size, wanted, bytes)
	}
	if !slices.Equal(told, wanted) || toldSize != bytes {
		t.Errorf("%.60q: the tests themselves tell %.100v %d, wanted %.100v %d", data, told, toldSize, wanted, bytes)
	}
}

func TestFrameOrdinary(t *testing.T) {
	wantFrame(t, rec(1, "ab"), "\x00\x02\x00\x00\x01ab")
	wantFrame(t, rec(258, "c"), "\x00\x01\x00\x01\x02c")
	wantFrame(t, rec(66051, ""), "\x00\x00\x01\x02\x03")
	wantFrame(t, rec(7, "\x00\xff\n"), "\x00\x03\x00\x00\x07\x00\xff\n")
	wantFrame(t, rec(3, strings.Repeat("z", 300)), "\x01\x2c\x00\x00\x03"+strings.Repeat("z", 300))
	wantFrames(t, "\x00\x02\x00\x00\x01ab\x00\x01\x00\x00\x02c", []logRecord{rec(1, "ab"), rec(2, "c")}, 13)
	// Positions need not rise here.
	wantFrames(t, "\x00\x00\x00\x00\x09\x00\x00\x00\x00\x01", []logRecord{rec(9, ""), rec(1, "")}, 10)
}

func TestFrameBounds(t *testing.T) {
	wantFrame(t, rec(1, ""), "\x00\x00\x00\x00\x01")
	wantFrame(t, rec(impl.LogMaxPos, ""), "\x00\x00\x0f\x42\x3f")
	long := strings.Repeat("x", impl.LogMaxData)
	wantFrame(t, rec(5, long), "\x07\xd0\x00\x00\x05"+long)
	wantFrame(t, rec(5, long+"x"), "")
	wantFrame(t, rec(5, long+long), "")
	for _, pos := range []int{0, -1, impl.LogMaxPos + 1, math.MaxInt, math.MinInt, 1 << 24, 1<<24 + 1, 1<<32 + 1} {
		wantFrame(t, rec(pos, "a"), "")
	}
	wantFrame(t, rec(0, long+"x"), "")
	wantFrame(t, rec(3, strings.Repeat("x", 65536)), "")
	wantFrame(t, rec(3, strings.Repeat("x", 65538)), "")
}

// Where no whole record stands.
func TestFramesEnd(t *testing.T) {
	a := toldFrame(rec(1, "ab"))
	one := []logRecord{rec(1, "ab")}
	wantFrames(t, "", nil, 0)
	for what, behind := range map[string]string{
		"a byte":                  "\x00",
		"four bytes":              "\x00\x00\x00\x00",
		"a size beyond":           "\x00\x02\x00\x00\x02a",
		"a great size":            "\x07\xd1\x00\x00\x02" + strings.Repeat("x", 2001),
		"the greatest size":       "\xff\xff\x00\x00\x02" + strings.Repeat("x", 65535),
		"no position":             "\x00\x01\x00\x00\x00a",
		"a great position":        "\x00\x01\x0f\x42\x40a",
		"the greatest number":     "\x00\x01\xff\xff\xffa",
		"no position and no data": "\x00\x00\x00\x00\x00",
	} {
		// Behind such a place nothing is read, also if a whole record stands there.
		for _, more := range []string{"", a, a + a} {
			if what == "a size beyond" && more != "" || what == "a byte" && more != "" || what == "four bytes" && more != "" {
				continue
			}
			wantFrames(t, a+behind+more, one, len(a))
			wantFrames(t, behind+more, nil, 0)
		}
	}
	// A byte that was lost moves all behind it.
	wantFrames(t, a+a[1:]+a, one, len(a))
	long := toldFrame(rec(4, strings.Repeat("x", 2000)))
	wantFrames(t, long+a, []logRecord{rec(4, strings.Repeat("x", 2000)), rec(1, "ab")}, 2012)
	wantFrames(t, a+long[:2004], one, len(a))
}

// P46: records one behind the other, cut off at each byte: just those are read that are whole.
func TestFramesCut(t *testing.T) {
	for _, list := range [][]logRecord{
		{rec(1, "ab"), rec(2, ""), rec(3, "cde"), rec(999999, "f")},
		{rec(7, ""), rec(7, ""), rec(7, "")},
		{rec(5, strings.Repeat("q", 2000)), rec(6, strings.Repeat("\x00", 300))},
		{rec(9, toldFrame(rec(1, "inside"))), rec(10, toldFrame(rec(2, "")))},
	} {
		data, ends := "", []int{0}
		for _, r := range list {
			data += impl.LogFrame(r)
			ends = append(ends, len(data))
		}
		for cut := range len(data) + 1 {
			whole := 0
			for whole+1 < len(ends) && ends[whole+1] <= cut {
				whole++
			}
			wantFrames(t, data[:cut], list[:whole], ends[whole])
		}
	}
}

func chanceRecord(r *rand.Rand) logRecord {
	data := make([]byte, []int{0, 1, 2, 5, 9, 250, 300, 2000}[r.Intn(8)])
	for i := range data {
		data[i] = byte(r.Intn(4))
	}
	return rec([]int{1, 2, 255, 256, 65535, 65536, 999999, 1 + r.Intn(999999)}[r.Intn(8)], string(data))
}

// P46: many records by chance, and bytes of which some are others.
func TestFramesMany(t *testing.T) {
	r := rand.New(rand.NewSource(42))
	for range 3000 {
		data := ""
		var list []logRecord
		for range r.Intn(6) {
			one := chanceRecord(r)
			wantFrame(t, one, toldFrame(one))
			list = append(list, one)
			data += toldFrame(one)
		}
		wantFrames(t, data, list, len(data))
		// Any bytes at all are read as the tests tell.
		row := []byte(data + "\x00\x01")
		for range 1 + r.Intn(3) {
			row[r.Intn(len(row))] = byte(r.Intn(256) >> r.Intn(8))
		}
		told, size := toldFrames(string(row))
		wantFrames(t, string(row), told, size)
	}
}

// toldPlanOk is by itself whether a plan is ok.
func toldPlanOk(p logPlan) bool {
	if len(p.Parts) > 40 {
		return false
	}
	numbers := map[int]bool{p.Open: true}
	next := 1
	for _, x := range p.Parts {
		if numbers[x.Num] || x.Num < 1 || x.Num > 999999 || x.Size < 0 || x.Size > 20000 {
			return false
		}
		if x.First != next || x.Next < x.First || x.Next > 1000000 {
			return false
		}
		numbers[x.Num] = true
		next = x.Next
	}
	return p.Open >= 1 && p.Open <= 999999 && p.First == next
}

// toldPlanText is by itself the text of a plan.
func toldPlanText(p logPlan) string {
	if !toldPlanOk(p) {
		return ""
	}
	text := ""
	for _, x := range p.Parts {
		text += fmt.Sprintf("seal %d %d %d %d\n", x.Num, x.First, x.Next, x.Size)
	}
	return text + fmt.Sprintf("open %d %d\nend\n", p.Open, p.First)
}

var (
	planForm = regexp.MustCompile(`\A(?:seal(?: (?:0|[1-9][0-9]*)){4}\n)*open(?: (?:0|[1-9][0-9]*)){2}\nend\n\z`)
	planNums = regexp.MustCompile(`[0-9]+`)
)

// toldPlanRead is by itself the plan that a text is.
func toldPlanRead(text string) (logPlan, bool) {
	if !planForm.MatchString(text) {
		return logPlan{}, false
	}
	var nums []int
	for _, digits := range planNums.FindAllString(text, -1) {
		num, err := strconv.Atoi(digits)
		if err != nil {
			return logPlan{}, false
		}
		nums = append(nums, num)
	}
	var p logPlan
	for ; len(nums) > 2; nums = nums[4:] {
		p.Parts = append(p.Parts, part(nums[0], nums[1], nums[2], nums[3]))
	}
	p.Open, p.First = nums[0], nums[1]
	if !toldPlanOk(p) {
		return logPlan{}, false
	}
	return p, true
}

// wantPlan is P47: a plan that is ok has this text, which is read back as it; no shorter beginning of it is read.
func wantPlan(t *testing.T, p logPlan, text string) {
	t.Helper()
	if !impl.LogPlanOk(p) || !toldPlanOk(p) {
		t.Errorf("%.200v is ok: %v, the tests themselves tell %v", p, impl.LogPlanOk(p), toldPlanOk(p))
		return
	}
	if got := impl.LogPlanWrite(p); got != text || toldPlanText(p) != text {
		t.Errorf("%.200q, the tests themselves tell %.200q, wanted %.200q", got, toldPlanText(p), text)
	}
	if got, ok := impl.LogPlanRead(text); !ok || !samePlan(got, p) {
		t.Errorf("%.200q is read as %.200v %v", text, got, ok)
	}
	for cut := range len(text) {
		if got, ok := impl.LogPlanRead(text[:cut]); ok || !samePlan(got, logPlan{}) {
			t.Errorf("%.200q, cut off at %d, is read as %.200v", text, cut, got)
		}
	}
}

// wantNoPlan: a plan that is not ok has no text.
func wantNoPlan(t *testing.T, what string, p logPlan) {
	t.Helper()
	if impl.LogPlanOk(p) || impl.LogPlanWrite(p) != "" || toldPlanOk(p) {
		t.Errorf("%s: %v %.200q; the tests tell %v", what, impl.LogPlanOk(p), impl.LogPlanWrite(p), toldPlanOk(p))
	}
}

// wantPlanRead: a text is read just as the tests themselves tell.
func wantPlanRead(t *testing.T, text string) bool {
	t.Helper()
	got, ok := impl.LogPlanRead(text)
	told, toldOk := toldPlanRead(text)
	if ok != toldOk || !samePlan(got, told) {
		t.Errorf("%.200q is read as %.200v %v, but the tests tell %.200v %v", text, got, ok, told, toldOk)
	}
	if ok && impl.LogPlanWrite(got) != text {
		t.Errorf("%.200q is read, but written as %.200q", text, impl.LogPlanWrite(got))
	}
	return ok
}

// wantPlanUnread: a text is no plan.
func wantPlanUnread(t *testing.T, texts ...string) {
	t.Helper()
	for _, text := range texts {
		if wantPlanRead(t, text) {
			t.Errorf("%.200q is read", text)
		}
	}
}

// P47: plans whose texts are known.
func TestPlanOrdinary(t *testing.T) {
	wantPlan(t, plan(1, 1), "open 1 1\nend\n")
	wantPlan(t, plan(2, 4, part(1, 1, 4, 120)), "seal 1 1 4 120\nopen 2 4\nend\n")
	wantPlan(t, plan(4, 5, part(3, 1, 5, 120), part(1, 5, 5, 0)), "seal 3 1 5 120\nseal 1 5 5 0\nopen 4 5\nend\n")
	wantPlan(t, plan(7, 1000000, part(9, 1, 1000000, 20000)), "seal 9 1 1000000 20000\nopen 7 1000000\nend\n")
}

// manyParts is a plan of so many parts.
func manyParts(parts int) logPlan {
	p := plan(500, 1)
	for i := range parts {
		p.Parts = append(p.Parts, part(i+1, p.First, p.First+3, 10*i))
		p.First += 3
	}
	return p
}

func TestPlanBounds(t *testing.T) {
	for _, parts := range []int{0, 1, 2, 39, impl.LogMaxParts} {
		p := manyParts(parts)
		wantPlan(t, p, toldPlanText(p))
	}
	many := manyParts(impl.LogMaxParts + 1)
	wantNoPlan(t, "too many parts", many)
	text := ""
	for _, x := range many.Parts {
		text += fmt.Sprintf("seal %d %d %d %d\n", x.Num, x.First, x.Next, x.Size)
	}
	wantPlanUnread(t, text+fmt.Sprintf("open 500 %d\nend\n", many.First))
	for _, num := range []int{1, 2, impl.LogMaxNum - 1, impl.LogMaxNum} {
		wantPlan(t, plan(num, 1), fmt.Sprintf("open %d 1\nend\n", num))
		wantPlan(t, plan(3, 2, part(num, 1, 2, 6)), fmt.Sprintf("seal %d 1 2 6\nopen 3 2\nend\n", num))
	}
	for _, size := range []int{0, 1, impl.DiskMaxData - 1, impl.DiskMaxData} {
		wantPlan(t, plan(2, 2, part(1, 1, 2, size)), fmt.Sprintf("seal 1 1 2 %d\nopen 2 2\nend\n", size))
	}
	for _, next := range []int{1, 2, impl.LogMaxPos, impl.LogMaxPos + 1} {
		wantPlan(t, plan(2, next, part(1, 1, next, 0)), fmt.Sprintf("seal 1 1 %d 0\nopen 2 %d\nend\n", next, next))
	}
	// Behind the last position segments may still be closed, with nothing in them.
	end := impl.LogMaxPos + 1
	wantPlan(t, plan(3, end, part(1, 1, end, 0), part(2, end, end, 0)), fmt.Sprintf("seal 1 1 %d 0\nseal 2 %d %d 0\nopen 3 %d\nend\n", end, end, end, end))
}

// Each reason for which a plan is not ok, by itself, at the first and at the last part.
func TestPlanNotOk(t *testing.T) {
	good := plan(9, 20, part(4, 1, 5, 100), part(2, 5, 5, 0), part(7, 5, 20, 300))
	wantPlan(t, good, "seal 4 1 5 100\nseal 2 5 5 0\nseal 7 5 20 300\nopen 9 20\nend\n")
	spoilt := func(what string, change func(p *logPlan)) {
		t.Helper()
		p := copyPlan(good)
		change(&p)
		wantNoPlan(t, what, p)
		text := ""
		for _, x := range p.Parts {
			text += fmt.Sprintf("seal %d %d %d %d\n", x.Num, x.First, x.Next, x.Size)
		}
		wantPlanUnread(t, text+fmt.Sprintf("open %d %d\nend\n", p.Open, p.First))
	}
	for _, at := range []int{0, 1, 2} {
		for _, num := range []int{0, -1, impl.LogMaxNum + 1, math.MaxInt, math.MinInt} {
			spoilt("a number", func(p *logPlan) { p.Parts[at].Num = num })
		}
		for _, size := range []int{-1, impl.DiskMaxData + 1, math.MaxInt, math.MinInt} {
			spoilt("a size", func(p *logPlan) { p.Parts[at].Size = size })
		}
		spoilt("the number of the open one", func(p *logPlan) { p.Parts[at].Num = p.Open })
		spoilt("the number of another one", func(p *logPlan) { p.Parts[at].Num = p.Parts[(at+1)%3].Num })
		for _, by := range []int{-1, 1} {
			spoilt("a first position", func(p *logPlan) { p.Parts[at].First += by })
			spoilt("a next position", func(p *logPlan) { p.Parts[at].Next += by })
		}
		spoilt("a first position far off", func(p *logPlan) { p.Parts[at].First = math.MinInt })
		spoilt("a next position far off", func(p *logPlan) { p.Parts[at].Next = math.MaxInt })
	}
	for _, num := range []int{0, -1, impl.LogMaxNum + 1, math.MaxInt, math.MinInt} {
		spoilt("the open number", func(p *logPlan) { p.Open = num })
	}
	for _, first := range []int{0, 1, 19, 21, -20, math.MaxInt} {
		spoilt("the first position of the open one", func(p *logPlan) { p.First = first })
	}
	spoilt("a next below its first", func(p *logPlan) { p.Parts[1].Next, p.Parts[2].First = 4, 4 })
	spoilt("the last next below its first", func(p *logPlan) { p.Parts[2].Next, p.First = 4, 4 })
	spoilt("the first next below its first", func(p *logPlan) { *p = plan(9, 0, part(1, 1, 0, 0)) })
	spoilt("all at 0", func(p *logPlan) { *p = plan(9, 0, part(1, 0, 0, 0)) })
	spoilt("from 2 on", func(p *logPlan) { *p = plan(9, 3, part(1, 2, 3, 0)) })
	spoilt("beyond the last position", func(p *logPlan) {
		p.Parts[2].Next, p.First = impl.LogMaxPos+2, impl.LogMaxPos+2
	})
	for _, first := range []int{0, 2, -1, 1000000} {
		wantNoPlan(t, "no parts", plan(1, first))
	}
	wantNoPlan(t, "nothing", logPlan{})
}

func TestPlanUnread(t *testing.T) {
	wantPlanUnread(t, "", "\n", "end\n", "open 1 1\n", "open 1 1\nend", "open 1 1\nend\n\n", "\nopen 1 1\nend\n", "open 1 1\n\nend\n",
		"open 1 1\nend\nend\n", "open 1 1\nend\nopen 1 1\nend\n", "open 1 1\nopen 1 1\nend\n", "open 2 1\nopen 1 1\nend\n", "end\nopen 1 1\n", "end\nopen 1 1\nend\n",
		"open 01 1\nend\n", "open 1 01\nend\n", "open 001 1\nend\n", "open +1 1\nend\n", "open 1 +1\nend\n", "open -1 1\nend\n", "open 1 -1\nend\n",
		"open  1 1\nend\n", "open 1  1\nend\n", " open 1 1\nend\n", "open 1 1 \nend\n", "open 1 1\nend \n", "open 1 1\n end\n", "open 1 1\r\nend\r\n", "open\t1 1\nend\n",
		"open 1\nend\n", "open\nend\n", "open 1 1 1\nend\n", "open one 1\nend\n", "open 1 1x\nend\n", "open x1 1\nend\n", "open 1 0x1\nend\n", "open 1 1_\nend\n", "open 1 1.0\nend\n", "open 1 1e0\nend\n",
		"Open 1 1\nend\n", "opens 1 1\nend\n", "open 1 1\nEnd\n", "open 1 1\nends\n", "open 1 1\nend 1\n", "open 1 1\nend 1 1\n", "open 1 1end\n", "open 1 1 end\n",
		"open 1 1\x00\nend\n", "open 1 1\nend\n\x00", "\ufeffopen 1 1\nend\n", "open 1 1\nend\nx")
	const good = "seal 3 1 5 120\nseal 1 5 5 0\nopen 4 5\nend\n"
	if !wantPlanRead(t, good) {
		t.Error("a good one is not read")
	}
	wantPlanUnread(t, "seal 1 5 5 0\nseal 3 1 5 120\nopen 4 5\nend\n", "open 4 5\nseal 3 1 5 120\nseal 1 5 5 0\nend\n", "seal 3 1 5 120\nopen 4 5\nseal 1 5 5 0\nend\n",
		"seal 3 1 5 120\nseal 1 5 5 0\nend\nopen 4 5\n", "seal 3 1 5\nopen 4 5\nend\n", "seal 3 1 5 120 7\nopen 4 5\nend\n", "seal 3 1 5 x\nopen 4 5\nend\n", "seal 3 1 5 0120\nopen 4 5\nend\n",
		"seal 3 1 5 120\nopen 4 5\nend\nseal 1 5 5 0\n", "seal\nopen 4 5\nend\n", "seal 3 1 5 120", "seal 3 1 5 120\n", "seal 3 1 5 120\nend\n",
		"seal 3 1 5 99999999999999999999\nopen 4 5\nend\n", "seal 3 1 18446744073709551621 120\nopen 4 5\nend\n", "open 18446744073709551617 1\nend\n", "open 4294967297 1\nend\n")
	// Each byte missing, doubled, or another one.
	for at := range good {
		wantPlanRead(t, good[:at]+good[at+1:])
		wantPlanRead(t, good[:at]+good[at:at+1]+good[at:])
		for _, b := range []byte(" 0159\nx-+") {
			wantPlanRead(t, good[:at]+string(b)+good[at+1:])
			wantPlanRead(t, good[:at]+string(b)+good[at:])
		}
	}
}

func chancePlan(r *rand.Rand) logPlan {
	p := plan(1+r.Intn(60), 1)
	for range []int{0, 1, 2, 5, 38, 40}[r.Intn(6)] {
		next := p.First + []int{0, 1, 30, 9000}[r.Intn(4)]
		p.Parts = append(p.Parts, part(61+len(p.Parts)*7+r.Intn(7), p.First, next, r.Intn(20001)))
		p.First = next
	}
	return p
}

// P47: many plans by chance, and such as are wrong in one place.
func TestPlanMany(t *testing.T) {
	r := rand.New(rand.NewSource(421))
	for i := range 2000 {
		p := chancePlan(r)
		text := toldPlanText(p)
		if i < 150 {
			wantPlan(t, p, text)
		}
		// A plan of which one number is another.
		for range 3 {
			x := copyPlan(p)
			by := []int{-1, 1, -1000000, 1000000, 61}[r.Intn(5)]
			numbers := []*int{&x.Open, &x.First}
			if n := len(x.Parts); n > 0 {
				one := &x.Parts[r.Intn(n)]
				numbers = append(numbers, &one.Num, &one.First, &one.Next, &one.Size)
			}
			*numbers[r.Intn(len(numbers))] += by
			if ok := toldPlanOk(x); impl.LogPlanOk(x) != ok || impl.LogPlanWrite(x) != toldPlanText(x) {
				t.Fatalf("%.300v is ok: %v; the tests tell %v", x, impl.LogPlanOk(x), ok)
			}
		}
		row := []byte(text)
		row[r.Intn(len(row))] = " 0123456789\nsealopnd"[r.Intn(19)]
		wantPlanRead(t, string(row))
	}
}

// Every function answers at every argument.
func TestFrameWithoutEnd(t *testing.T) {
	million := strings.Repeat("x", 30000000)
	wantFrame(t, rec(1, million), "")
	wantFrames(t, "\xff"+million, nil, 0)
	if list, size := impl.LogFrames(strings.Repeat("\x00\x00\x00\x00\x01", 100000)); len(list) != 100000 || size != 500000 {
		t.Errorf("%d records of %d bytes", len(list), size)
	}
	wantNoPlan(t, "very many parts", logPlan{Parts: make([]logPart, 3000000), Open: 1, First: 1})
	for _, text := range []string{million, strings.Repeat(" ", 30000000), strings.Repeat("\n", 30000000), strings.Repeat("seal 1 1 1 1\n", 1000000), strings.Repeat("end\n", 3000000), strings.Repeat("open 1 1\n", 1000000), "open " + strings.Repeat("1", 30000000) + " 1\nend\n", "open 1 1\nend\n" + million, "open 1 1" + strings.Repeat(" 1", 10000000) + "\nend\n"} {
		if got, ok := impl.LogPlanRead(text); ok || !samePlan(got, logPlan{}) {
			t.Errorf("%.60q is read", text)
		}
	}
	empty := logPlan{Parts: []logPart{}, Open: 1, First: 1}
	wantPlan(t, empty, "open 1 1\nend\n")
}

// Nothing is written into an argument or behind its end, and every answer is new memory.
func TestFrameMemory(t *testing.T) {
	data := strings.Clone("some bytes of a record")
	frame := impl.LogFrame(rec(3, data))
	wantTextsApart(t, []string{frame}, []string{data})
	none := impl.LogFrame(rec(3, ""))
	records, _ := impl.LogFrames(frame + none + frame)
	row := frame + frame
	own, _ := impl.LogFrames(row)
	wantTextsApart(t, []string{own[0].Data, own[1].Data}, []string{row})
	wantTextsApart(t, []string{own[0].Data}, []string{own[1].Data})
	wipe(records)
	if again, _ := impl.LogFrames(frame + none + frame); len(again) != 3 || again[2].Data != data {
		t.Error("an answer shares something")
	}
	mark := part(77, 77, 77, 77)
	p := plan(4, 5, part(3, 1, 5, 120), part(1, 5, 5, 0))
	p.Parts = withSpare(p.Parts, mark)
	text := impl.LogPlanWrite(p)
	impl.LogPlanOk(p)
	if !stillSpare(p.Parts, mark) || !samePlan(p, plan(4, 5, part(3, 1, 5, 120), part(1, 5, 5, 0))) {
		t.Error("a plan was changed")
	}
	a, _ := impl.LogPlanRead(text)
	wipe(a.Parts)
	if b, ok := impl.LogPlanRead(text); !ok || !samePlan(b, p) {
		t.Error("an answer shares something")
	}
}
