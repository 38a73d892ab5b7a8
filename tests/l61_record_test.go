package tests

import (
	"fmt"
	"math"
	"math/rand"
	"slices"
	"strings"
	"testing"

	"loop.example/teagle/impl"
)

type record = impl.Record

// eventOf is the event of a text.
func eventOf(t *testing.T, s string) event {
	t.Helper()
	e, ok := impl.EventRead(s)
	if !ok {
		t.Fatalf("%q is no event", s)
	}
	return e
}

// recordAt is the record of texts of events.
func recordAt(t *testing.T, pos int, key string, texts ...string) record {
	t.Helper()
	r := record{Pos: pos, Key: key}
	for _, s := range texts {
		r.Events = append(r.Events, eventOf(t, s))
	}
	return r
}

func sameRecord(a, b record) bool {
	return a.Pos == b.Pos && a.Key == b.Key && slices.EqualFunc(a.Events, b.Events, sameEvent)
}

// recordText tells a record.
func recordText(r record) string {
	words := []string{fmt.Sprint(r.Pos), r.Key}
	for _, e := range r.Events {
		words = append(words, textOfEvent(e))
	}
	return strings.Join(words, " ")
}

// recordBytes is by itself the bytes of a record whose events are ok.
func recordBytes(r record) string {
	b := append(bytesOfText(r.Key), byte(len(r.Events)))
	for _, e := range r.Events {
		packed := bytesOf(e)
		b = append(append(b, byte(len(packed)/256), byte(len(packed)%256)), packed...)
	}
	return string(b)
}

// okRecord is by itself whether a record is ok.
func okRecord(r record) bool {
	if r.Pos < 1 || r.Pos > 999999 || !okNames([]string{r.Key}) || len(r.Events) < 1 || len(r.Events) > 40 {
		return false
	}
	for _, e := range r.Events {
		if !okEvent(e) {
			return false
		}
	}
	return len(recordBytes(r)) <= 2000
}

// wantRecord is P57: a record is ok, has these bytes, and is read back from them at its position.
func wantRecord(t *testing.T, r record, packed string) {
	t.Helper()
	if got := impl.RecPack(r); !impl.RecOk(r) || got != packed || !okRecord(r) {
		t.Errorf("%.200s: ok %v, bytes %.200q, wanted %.200q", recordText(r), impl.RecOk(r), got, packed)
	}
	if len(packed) == 0 || len(packed) > impl.RecMaxData {
		t.Errorf("%.200s has %d bytes", recordText(r), len(packed))
	}
	if back, ok := impl.RecUnpack(r.Pos, packed); !ok || !sameRecord(back, r) {
		t.Errorf("%.200q is read back as %.200s %v", packed, recordText(back), ok)
	}
	for _, pos := range []int{0, -1, impl.RecMaxPos + 1, math.MaxInt, math.MinInt} {
		if back, ok := impl.RecUnpack(pos, packed); ok || !sameRecord(back, record{}) {
			t.Errorf("%.200q is read at %d", packed, pos)
		}
	}
}

func wantNoRecord(t *testing.T, what string, r record) {
	t.Helper()
	if impl.RecOk(r) || impl.RecPack(r) != "" {
		t.Errorf("%s: ok %v, %d bytes", what, impl.RecOk(r), len(impl.RecPack(r)))
	}
}

// wantRecordRow is P58: what is read is a record that is ok, at the position, and these are its bytes; what is not read is nothing. It says whether it is read.
func wantRecordRow(t *testing.T, pos int, row string) bool {
	t.Helper()
	r, ok := impl.RecUnpack(pos, row)
	if !ok && !sameRecord(r, record{}) {
		t.Errorf("%.200q is not read, but beside that there is %.200s", row, recordText(r))
	}
	if ok && (r.Pos != pos || !okRecord(r) || !impl.RecOk(r) || recordBytes(r) != row || impl.RecPack(r) != row) {
		t.Errorf("%.200q is read as %.200s, which is packed as %.200q", row, recordText(r), impl.RecPack(r))
	}
	return ok
}

func wantNoRow(t *testing.T, what string, row string) {
	t.Helper()
	if wantRecordRow(t, 7, row) {
		t.Errorf("%s: %.200q is read", what, row)
	}
}

// P57: records whose bytes are known.
func TestRecordOrdinary(t *testing.T) {
	wantRecord(t, recordAt(t, 7, "ab", "x@1{}"), "\x02ab\x01\x00\x05\x01x\x01\x05\x00")
	wantRecord(t, recordAt(t, 1, "k", "order@2{n:7}"), "\x01k\x01\x00\x0e\x05order\x02\x05\x01\x01n\x01\x00\x07")
	wantRecord(t, recordAt(t, 999999, "k9", "x@1{}", "order@2{n:7}", "x@1{}"), "\x02k9\x03\x00\x05\x01x\x01\x05\x00\x00\x0e\x05order\x02\x05\x01\x01n\x01\x00\x07\x00\x05\x01x\x01\x05\x00")
	wantRecord(t, recordAt(t, 3, "longname", `a@12{t:"`+strings.Repeat("z", 60)+`",u:"`+strings.Repeat("y", 60)+`",v:"`+strings.Repeat("x", 60)+`",w:"`+strings.Repeat("w", 60)+`"}`),
		"\x08longname\x01\x01\x05\x01a\x0c\x05\x04\x01t\x02\x3c"+strings.Repeat("z", 60)+"\x01u\x02\x3c"+strings.Repeat("y", 60)+"\x01v\x02\x3c"+strings.Repeat("x", 60)+"\x01w\x02\x3c"+strings.Repeat("w", 60))
}

// textsEvent is an event whose body is a list of so many texts, the last with so many bytes, the others full.
func textsEvent(texts, last int) event {
	kids := make([]tree, 0, texts)
	for i := range texts {
		size := 60
		if i == texts-1 {
			size = last
		}
		kids = append(kids, text(strings.Repeat("q", size)))
	}
	return ev("a", 1, form("t", list(kids...)))
}

// recordOfBytes is a record of just so many bytes.
func recordOfBytes(t *testing.T, bytes int) record {
	t.Helper()
	for _, key := range []string{"key", "keys"} {
		r := record{Pos: 5, Key: key, Events: []event{textsEvent(20, 60), textsEvent(1, 0)}}
		more := bytes - len(recordBytes(r))
		if more%62 <= 60 {
			r.Events[1] = textsEvent(1+more/62, more%62)
			return r
		}
	}
	t.Fatalf("no record of %d bytes", bytes)
	return record{}
}

func TestRecordBounds(t *testing.T) {
	one := func(pos int, key string) record { return recordAt(t, pos, key, "x@1{}") }
	for _, pos := range []int{1, 2, impl.RecMaxPos - 1, impl.RecMaxPos} {
		wantRecord(t, one(pos, "k"), "\x01k\x01\x00\x05\x01x\x01\x05\x00")
	}
	for _, pos := range []int{0, -1, impl.RecMaxPos + 1, math.MaxInt, math.MinInt} {
		wantNoRecord(t, "a position", one(pos, "k"))
	}
	for _, key := range []string{"a", "z9", "abcdefgh", "a1234567"} {
		wantRecord(t, one(7, key), recordBytes(one(7, key)))
	}
	for _, key := range []string{"", "abcdefghi", "9a", "A", "a b", "a\n", "ä", "a\x00", "a-b", "_", strings.Repeat("a", 256), strings.Repeat("a", 257), strings.Repeat("a", 1000000)} {
		wantNoRecord(t, "a key", one(7, key))
	}
	for _, count := range []int{1, 2, 39, impl.RecMaxEvents} {
		r := record{Pos: 7, Key: "k", Events: slices.Repeat([]event{eventOf(t, "x@1{}")}, count)}
		wantRecord(t, r, "\x01k"+string([]byte{byte(count)})+strings.Repeat("\x00\x05\x01x\x01\x05\x00", count))
	}
	for _, count := range []int{0, 41, 42, 255, 256, 257, 296, 1000000} {
		wantNoRecord(t, "so many events", record{Pos: 7, Key: "k", Events: slices.Repeat([]event{eventOf(t, "x@1{}")}, count)})
		wantNoRow(t, "so many events", "\x01k"+string([]byte{byte(count)})+strings.Repeat("\x00\x05\x01x\x01\x05\x00", min(count, 400)))
	}
	for bytes := 1950; bytes <= impl.RecMaxData; bytes++ {
		r := recordOfBytes(t, bytes)
		wantRecord(t, r, recordBytes(r))
	}
	for bytes := impl.RecMaxData + 1; bytes <= impl.RecMaxData+70; bytes++ {
		r := recordOfBytes(t, bytes)
		wantNoRecord(t, fmt.Sprint(bytes, " bytes"), r)
		wantNoRow(t, fmt.Sprint(bytes, " bytes"), recordBytes(r))
	}
	// Too many bytes by one event alone, by many, and by the last.
	big := record{Pos: 7, Key: "k", Events: []event{ev("a", 1, form("t u", textsEvent(20, 60).Body.Kids[0], textsEvent(20, 60).Body.Kids[0]))}}
	wantNoRecord(t, "one great event", big)
	wantNoRow(t, "one great event", recordBytes(big))
	many := record{Pos: 7, Key: "k", Events: slices.Repeat([]event{textsEvent(1, 40)}, 40)}
	wantNoRecord(t, "many events", many)
	wantNoRow(t, "many events", recordBytes(many))
}

func TestRecordNotOk(t *testing.T) {
	good := recordAt(t, 7, "k", "x@1{}", "y@2{n:1}", "z@3{t:\"a\"}")
	wantRecord(t, good, recordBytes(good))
	for what, e := range map[string]event{
		"no type":         ev("", 1, form("")),
		"a wrong type":    ev("X", 1, form("")),
		"a long type":     ev("abcdefghi", 1, form("")),
		"the version 0":   ev("x", 0, form("")),
		"the version 13":  ev("x", 13, form("")),
		"a body of num":   ev("x", 1, num(1)),
		"no body":         ev("x", 1, tree{}),
		"a wrong body":    ev("x", 1, form("n", num(1000000000))),
		"nothing":         {},
		"a long text":     ev("x", 1, form("n", text(strings.Repeat("a", 61)))),
		"names twice":     ev("x", 1, form("n n", num(1), num(2))),
		"too many levels": ev("x", 1, form("a", form("a", form("a", form("a", form("a", form("a", num(1)))))))),
	} {
		if okEvent(e) {
			t.Fatalf("%s is ok", what)
		}
		for at := range 3 {
			r := record{Pos: 7, Key: "k", Events: slices.Clone(good.Events)}
			r.Events[at] = e
			wantNoRecord(t, fmt.Sprint(what, " at ", at), r)
		}
		wantNoRecord(t, what+" alone", record{Pos: 7, Key: "k", Events: []event{e}})
	}
	wantNoRecord(t, "nothing", record{})
	wantNoRecord(t, "no events", record{Pos: 7, Key: "k"})
	wantNoRecord(t, "an empty list of events", record{Pos: 7, Key: "k", Events: []event{}})
}

func TestRecordNotUnpacked(t *testing.T) {
	const x = "\x00\x05\x01x\x01\x05\x00"
	for what, row := range map[string]string{
		"nothing":                         "",
		"no events":                       "\x01k\x00",
		"no events, but bytes":            "\x01k\x00" + x,
		"a key alone":                     "\x01k",
		"half a key":                      "\x02k",
		"no key":                          "\x00\x01" + x,
		"a key that is no name":           "\x01K\x01" + x,
		"a key with a digit ahead":        "\x021k\x01" + x,
		"a key that is too long":          "\x09abcdefghi\x01" + x,
		"more events than there are":      "\x01k\x02" + x,
		"fewer":                           "\x01k\x01" + x + x,
		"a byte behind":                   "\x01k\x01" + x + "\x00",
		"a size that is too great":        "\x01k\x01\x00\x06\x01x\x01\x05\x00",
		"a size of one more, and one":     "\x01k\x01\x00\x06\x01x\x01\x05\x00\x00",
		"a size that is too small":        "\x01k\x01\x00\x04\x01x\x01\x05\x00",
		"a size of 0":                     "\x01k\x01\x00\x00\x01x\x01\x05\x00",
		"a size of 0 and nothing":         "\x01k\x01\x00\x00",
		"a size that is far too great":    "\x01k\x01\xff\xff\x01x\x01\x05\x00",
		"a size the other way round":      "\x01k\x01\x05\x00\x01x\x01\x05\x00",
		"half a size":                     "\x01k\x01\x00",
		"two sizes that are shifted":      "\x01k\x02\x00\x06\x01x\x01\x05\x00\x00\x05\x01x\x01\x05\x00",
		"an event that is not ok":         "\x01k\x01\x00\x05\x01x\x0d\x05\x00",
		"an event that is not ok, behind": "\x01k\x02" + x + "\x00\x05\x01x\x00\x05\x00",
		"an event that is not ok, ahead":  "\x01k\x02\x00\x05\x01X\x01\x05\x00" + x,
		"41 events":                       "\x01k\x29" + strings.Repeat(x, 41),
		"255 events":                      "\x01k\xff" + strings.Repeat(x, 255),
		"very many bytes":                 "\x01k\x01" + strings.Repeat(x, 1000000),
	} {
		wantNoRow(t, what, row)
	}
	if !wantRecordRow(t, 7, "\x01k\x01"+x) || !wantRecordRow(t, 7, "\x01k\x02"+x+x) {
		t.Error("good ones are not read")
	}
}

// P58: each byte of a record's bytes missing, another one, or one more.
func TestRecordBeside(t *testing.T) {
	read := 0
	for _, r := range []record{recordAt(t, 7, "ab", "x@1{}"), recordAt(t, 7, "k", "x@1{n:300}", "y@2{a:[yes,~]}", `z@3{t:"u"}`), recordAt(t, 7, "a", "a@1{}", "a@1{}")} {
		packed := recordBytes(r)
		wantRecord(t, r, packed)
		beside(packed, func(near string) {
			if wantRecordRow(t, 7, near) {
				read++
			}
		})
		for end := range len(packed) {
			wantNoRow(t, "a beginning", packed[:end])
		}
		for b := range 256 {
			wantNoRow(t, "a byte behind", packed+string([]byte{byte(b)}))
		}
	}
	if read < 500 {
		t.Errorf("%d are read: too few to tell anything", read)
	}
}

// P57, P58: many records by chance; no two have the same bytes.
func TestRecordMany(t *testing.T) {
	r := rand.New(rand.NewSource(61))
	fine, not := 0, 0
	rows := map[string]record{}
	for range 6000 {
		one := record{Pos: 1 + r.Intn(999999), Key: []string{"a", "key", "abcdefgh", "k9"}[r.Intn(4)]}
		for range 1 + r.Intn(4) {
			e := anyEvent(r)
			for !okEvent(e) && r.Intn(8) > 0 {
				e = anyEvent(r)
			}
			one.Events = append(one.Events, e)
		}
		switch r.Intn(40) {
		case 0:
			one.Pos = r.Intn(3) - 1
		case 1:
			one.Key += []string{"A", "", "-", "abcdefgh"}[r.Intn(4)]
		case 2:
			one.Events = slices.Repeat(one.Events, r.Intn(30))
		}
		if !okRecord(one) {
			not++
			wantNoRecord(t, recordText(one), one)
			continue
		}
		fine++
		packed := recordBytes(one)
		wantRecord(t, one, packed)
		one.Pos = 1
		if other, is := rows[packed]; is && !sameRecord(one, other) {
			t.Errorf("%.200q are the bytes of two records", packed)
		}
		rows[packed] = one
		row := []byte(packed)
		row[r.Intn(len(row))] = byte(r.Intn(256) >> r.Intn(8))
		wantRecordRow(t, 5, string(row))
	}
	if fine < 2000 || not < 300 {
		t.Errorf("%d fine, %d not", fine, not)
	}
}

// Every function answers at every argument: also at events that hold themselves, or are far too wide.
func TestRecordWithoutEnd(t *testing.T) {
	kids := make([]tree, 1)
	kids[0] = tree{Sort: impl.TreeForm, Names: []string{"a"}, Kids: kids}
	wantNoRecord(t, "holds itself", record{Pos: 1, Key: "k", Events: []event{ev("a", 1, kids[0])}})
	wide := num(1)
	for range 12 {
		wide = list(repeat(wide, 20)...)
	}
	wantNoRecord(t, "20 times 20 ..", record{Pos: 1, Key: "k", Events: []event{eventOf(t, "x@1{}"), evOf(wide)}})
	wantNoRecord(t, "a million events", record{Pos: 1, Key: "k", Events: make([]event, 1000000)})
	wantNoRow(t, "a million bytes", strings.Repeat("\x01", 30000000))
}

// spareRecord is a record with room behind the ends of its lists.
func spareRecord(r record) record {
	one := record{Pos: r.Pos, Key: strings.Clone(r.Key)}
	for _, e := range r.Events {
		one.Events = append(one.Events, ev(strings.Clone(e.Type), e.Version, spareTree(e.Body)))
	}
	one.Events = withSpare(one.Events, ev("spare", 99, tree{}))
	return one
}

// wantSpareRecord: a record is as it was, also behind the end of its events.
func wantSpareRecord(t *testing.T, r, plain record) {
	t.Helper()
	if !sameRecord(r, plain) || r.Events[:len(r.Events)+1][len(r.Events)].Type != "spare" {
		t.Errorf("a record was changed: %.200s, it was %.200s", recordText(r), recordText(plain))
	}
}

func textsOfRecord(r record) []string {
	all := []string{r.Key}
	for _, e := range r.Events {
		all = append(append(all, e.Type), textsOf(e.Body)...)
	}
	return all
}

// wipeRecord overwrites all of a record, spare room included.
func wipeRecord(r record) {
	for _, e := range r.Events {
		spoilAll(e.Body)
	}
	wipe(r.Events)
}

// Nothing is written into an argument or behind its end, and every answer is new memory.
func TestRecordMemory(t *testing.T) {
	plain := recordAt(t, 7, "somekey", `order@2{a:[1,2,[3,[],4]],b:{c:?"longer text",d:~},t:"t"}`, "x@1{}", `order@3{a:[yes],b:"others"}`)
	r := spareRecord(plain)
	impl.RecOk(r)
	packed := impl.RecPack(r)
	wantSpareRecord(t, r, plain)
	wantTextsApart(t, []string{packed}, textsOfRecord(r))
	one, ok := impl.RecUnpack(7, packed)
	if !ok {
		t.Fatal("it is not read back")
	}
	wantTextsApart(t, textsOfRecord(one), []string{packed})
	for _, e := range one.Events {
		spoilSpare(e.Body)
	}
	wipe(one.Events[len(one.Events):])
	if !sameRecord(one, plain) {
		t.Error("lists of an answer share their memory")
	}
	wipeRecord(one)
	if again, _ := impl.RecUnpack(7, packed); !sameRecord(again, plain) {
		t.Error("two answers share their memory")
	}
}
