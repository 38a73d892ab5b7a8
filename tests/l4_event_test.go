package tests

import (
	"bytes"
	"encoding/binary"
	"fmt"
	"math"
	"math/rand"
	"slices"
	"strings"
	"testing"

	"loop.example/teagle/impl"
)

type event = impl.Event

func ev(kind string, version int, body tree) event {
	return event{Type: kind, Version: version, Body: body}
}

// evOf is an event whose body has just one kid.
func evOf(kid tree) event {
	return ev("a", 1, form("n", kid))
}

func sameEvent(a, b event) bool {
	return a.Type == b.Type && a.Version == b.Version && sameTree(a.Body, b.Body)
}

// okEvent says by itself what the document says of events.
func okEvent(e event) bool {
	return okNames([]string{e.Type}) && e.Version >= 1 && e.Version <= 12 && e.Body.Sort == 5 && okTree(e.Body)
}

// bytesOf says by itself what the bytes of an ok event are.
func bytesOf(e event) []byte {
	return slices.Concat(bytesOfText(e.Type), []byte{byte(e.Version)}, bytesOfTree(e.Body))
}

func bytesOfText(s string) []byte {
	return append([]byte{byte(len(s))}, s...)
}

func bytesOfTree(t tree) []byte {
	b := []byte{byte(t.Sort)}
	switch t.Sort {
	case 1:
		return append(b, bytesOfNum(t.Num)...)
	case 2:
		return append(b, bytesOfText(t.Text)...)
	case 3:
		return append(b, byte(t.Num))
	}
	b = append(b, byte(len(t.Kids)))
	for i, kid := range t.Kids {
		if t.Sort == 5 {
			b = append(b, bytesOfText(t.Names[i])...)
		}
		b = append(b, bytesOfTree(kid)...)
	}
	return b
}

// bytesOfNum leans on the library: by seven bits each is how it puts a number without a sign, too.
func bytesOfNum(n int) []byte {
	if n < 0 {
		return binary.AppendUvarint([]byte{1}, uint64(-n))
	}
	return binary.AppendUvarint([]byte{0}, uint64(n))
}

func textOfEvent(e event) string {
	return fmt.Sprintf("%s@%d%s", e.Type, e.Version, impl.TreeWrite(e.Body))
}

// wantEvent: the event is ok, has these bytes and this text, and is read back from both.
func wantEvent(t *testing.T, e event, packed string, written string) {
	t.Helper()
	b, s := impl.EventPack(e), impl.EventWrite(e)
	if !impl.EventOk(e) || string(b) != packed || s != written {
		t.Errorf("%q: ok %v, bytes %q, text %q", written, impl.EventOk(e), b, s)
	}
	if len(b) == 0 || len(b) > impl.EventMaxBytes || s == "" || len(s) > impl.TreeMaxWrite {
		t.Errorf("%q: %d bytes, %d bytes of text", written, len(b), len(s))
	}
	if back, ok := impl.EventUnpack([]byte(packed)); !ok || !sameEvent(back, e) {
		t.Errorf("%q is read back as %v %v", packed, back, ok)
	}
	if back, ok := impl.EventRead(written); !ok || !sameEvent(back, e) {
		t.Errorf("%q is read back as %v %v", written, back, ok)
	}
}

// wantAsTold is wantEvent with the bytes and the text that are told here.
func wantAsTold(t *testing.T, e event) {
	t.Helper()
	wantEvent(t, e, string(bytesOf(e)), textOfEvent(e))
}

func wantNoEvent(t *testing.T, what string, e event) {
	t.Helper()
	if impl.EventOk(e) || len(impl.EventPack(e)) != 0 || impl.EventWrite(e) != "" {
		t.Errorf("%s: ok %v, bytes %q, text %q", what, impl.EventOk(e), impl.EventPack(e), impl.EventWrite(e))
	}
}

func wantNotUnpacked(t *testing.T, what string, b string) {
	t.Helper()
	if e, ok := impl.EventUnpack([]byte(b)); ok || !sameEvent(e, event{}) {
		t.Errorf("%s: %q is read as %v %v", what, b, e, ok)
	}
}

func wantEventUnread(t *testing.T, s string) {
	t.Helper()
	if e, ok := impl.EventRead(s); ok || !sameEvent(e, event{}) {
		t.Errorf("%q is read as %v %v", s, e, ok)
	}
}

// P9: ordinary events, with bodies of all six sorts.
func TestEventOfEachSort(t *testing.T) {
	for _, c := range []struct {
		event           event
		packed, written string
	}{
		{ev("order", 2, form("n", num(7))), "\x05order\x02\x05\x01\x01n\x01\x00\x07", "order@2{n:7}"},
		{ev("a", 1, form("")), "\x01a\x01\x05\x00", "a@1{}"},
		{evOf(num(-7)), "\x01a\x01\x05\x01\x01n\x01\x01\x07", "a@1{n:-7}"},
		{evOf(text("x y")), "\x01a\x01\x05\x01\x01n\x02\x03x y", `a@1{n:"x y"}`},
		{evOf(text("@1{}")), "\x01a\x01\x05\x01\x01n\x02\x04@1{}", `a@1{n:"@1{}"}`},
		{evOf(flag(1)), "\x01a\x01\x05\x01\x01n\x03\x01", "a@1{n:yes}"},
		{evOf(flag(0)), "\x01a\x01\x05\x01\x01n\x03\x00", "a@1{n:no}"},
		{evOf(list()), "\x01a\x01\x05\x01\x01n\x04\x00", "a@1{n:[]}"},
		{evOf(list(num(1), flag(1))), "\x01a\x01\x05\x01\x01n\x04\x02\x01\x00\x01\x03\x01", "a@1{n:[1,yes]}"},
		{evOf(form("")), "\x01a\x01\x05\x01\x01n\x05\x00", "a@1{n:{}}"},
		{evOf(form("b c", num(2), text(""))), "\x01a\x01\x05\x01\x01n\x05\x02\x01b\x01\x00\x02\x01c\x02\x00", `a@1{n:{b:2,c:""}}`},
		{evOf(maybe()), "\x01a\x01\x05\x01\x01n\x06\x00", "a@1{n:~}"},
		{evOf(maybe(maybe(num(3)))), "\x01a\x01\x05\x01\x01n\x06\x01\x06\x01\x01\x00\x03", "a@1{n:??3}"},
		{ev("a9z", 3, form("id tags to", num(-200), list(text("x"), maybe()), maybe(form("city", flag(0))))),
			"\x03a9z\x03\x05\x03\x02id\x01\x01\xc8\x01\x04tags\x04\x02\x02\x01x\x06\x00\x02to\x06\x01\x05\x01\x04city\x03\x00",
			`a9z@3{id:-200,tags:["x",~],to:?{city:no}}`},
	} {
		if string(bytesOf(c.event)) != c.packed {
			t.Fatalf("%q: the tests themselves tell %q", c.packed, bytesOf(c.event))
		}
		wantEvent(t, c.event, c.packed, c.written)
	}
}

// P9: types and versions at their limits.
func TestEventHeads(t *testing.T) {
	for _, kind := range []string{"a", "z", "a0", "z9", "yes", "end", "abcdefgh", "zzzzzzzz", "a0123456"} {
		for version := 1; version <= 12; version++ {
			e := ev(kind, version, form("a", num(1)))
			wantEvent(t, e, string(bytesOf(e)), fmt.Sprint(kind, "@", version, "{a:1}"))
		}
	}
	wantEvent(t, ev("abcdefgh", 12, form("")), "\x08abcdefgh\x0c\x05\x00", "abcdefgh@12{}")
	for _, version := range []int{0, 13, -1, 14, 255, 256, 257, 268, 1 << 32, 1<<32 + 1, math.MaxInt, math.MinInt, math.MinInt + 1} {
		wantNoEvent(t, fmt.Sprint("version ", version), ev("a", version, form("")))
	}
	for _, kind := range []string{"", "A", "a-b", "a b", " a", "a ", "9a", "0", "_", "a_", "ä", "a\x00", "a\n", "Ab", "aB", "a@", "@", "a@1", "`", "{", "\xff", "a\xff", "ａ", "abcdefghi", "abcdefgh9", "abcdefg\xc3", strings.Repeat("a", 256), strings.Repeat("a", 257), strings.Repeat("a", 100000)} {
		wantNoEvent(t, fmt.Sprintf("type %q", kind), ev(kind, 1, form("")))
	}
}

// P9: each number at which one more byte begins, and those beside it.
func TestEventNumbers(t *testing.T) {
	for n, sevens := range map[int]string{
		0: "\x00", 1: "\x01", 2: "\x02", 63: "\x3f", 64: "\x40", 126: "\x7e", 127: "\x7f",
		128: "\x80\x01", 129: "\x81\x01", 200: "\xc8\x01", 255: "\xff\x01", 256: "\x80\x02", 16382: "\xfe\x7f", 16383: "\xff\x7f",
		16384: "\x80\x80\x01", 16385: "\x81\x80\x01", 16511: "\xff\x80\x01", 16512: "\x80\x81\x01", 2097151: "\xff\xff\x7f",
		2097152: "\x80\x80\x80\x01", 2097153: "\x81\x80\x80\x01", 268435455: "\xff\xff\xff\x7f",
		268435456: "\x80\x80\x80\x80\x01", 268435457: "\x81\x80\x80\x80\x01", 536870912: "\x80\x80\x80\x80\x02",
		999999998: "\xfe\x93\xeb\xdc\x03", 999999999: "\xff\x93\xeb\xdc\x03",
	} {
		wantEvent(t, evOf(num(n)), "\x01a\x01\x05\x01\x01n\x01\x00"+sevens, fmt.Sprintf("a@1{n:%d}", n))
		if n > 0 {
			wantEvent(t, evOf(num(-n)), "\x01a\x01\x05\x01\x01n\x01\x01"+sevens, fmt.Sprintf("a@1{n:-%d}", n))
		}
		wantNotUnpacked(t, "one more byte", "\x01a\x01\x05\x01\x01n\x01\x00"+longer(sevens))
		wantNotUnpacked(t, "one more byte below 0", "\x01a\x01\x05\x01\x01n\x01\x01"+longer(sevens))
		wantNotUnpacked(t, "two more bytes", "\x01a\x01\x05\x01\x01n\x01\x00"+longer(longer(sevens)))
	}
	for n := -20000; n <= 20000; n++ {
		wantAsTold(t, evOf(num(n)))
	}
}

// longer says the same number in one byte more than it needs.
func longer(sevens string) string {
	last := len(sevens) - 1
	return sevens[:last] + string([]byte{sevens[last] + 128, 0})
}

// P9, P10: numbers that no tree has, as bytes; one that wrapped round would be a tree's.
func TestEventNumbersUnread(t *testing.T) {
	const ahead = "\x01a\x01\x05\x01\x01n\x01"
	for what, b := range map[string]string{
		"0 with a sign":      "\x01\x00",
		"a sign of 2":        "\x02\x01",
		"a sign of 255":      "\xff\x01",
		"a sign of 128":      "\x80\x01",
		"no size":            "\x00",
		"no sign":            "",
		"a size cut":         "\x00\x80",
		"a size cut twice":   "\x00\xff\xff",
		"1000000000":         "\x00\x80\x94\xeb\xdc\x03",
		"-1000000000":        "\x01\x80\x94\xeb\xdc\x03",
		"2^30":               "\x00\x80\x80\x80\x80\x04",
		"2^31":               "\x00\x80\x80\x80\x80\x08",
		"2^32":               "\x00\x80\x80\x80\x80\x10",
		"2^32 + 1":           "\x00\x81\x80\x80\x80\x10",
		"2^35 - 1":           "\x00\xff\xff\xff\xff\x7f",
		"2^35":               "\x00\x80\x80\x80\x80\x80\x01",
		"2^42 + 5":           "\x00\x85\x80\x80\x80\x80\x80\x01",
		"2^63":               "\x00\x80\x80\x80\x80\x80\x80\x80\x80\x80\x01",
		"2^64":               "\x00\x80\x80\x80\x80\x80\x80\x80\x80\x80\x02",
		"2^64 + 1":           "\x00\x81\x80\x80\x80\x80\x80\x80\x80\x80\x02",
		"2^64 + 1 below 0":   "\x01\x81\x80\x80\x80\x80\x80\x80\x80\x80\x02",
		"2^70 + 1":           "\x00\x81\x80\x80\x80\x80\x80\x80\x80\x80\x80\x01",
		"1 and many noughts": "\x00\x81" + strings.Repeat("\x80", 50) + "\x01",
		"noughts to the end": "\x00" + strings.Repeat("\x80", 8980),
	} {
		wantNotUnpacked(t, what, ahead+b)
	}
}

// P9: texts and lists and forms at their limits.
func TestEventSizes(t *testing.T) {
	sixty := strings.Repeat("x", 60)
	wantEvent(t, evOf(text("")), "\x01a\x01\x05\x01\x01n\x02\x00", `a@1{n:""}`)
	wantEvent(t, evOf(text(sixty)), "\x01a\x01\x05\x01\x01n\x02\x3c"+sixty, `a@1{n:"`+sixty+`"}`)
	wantNoEvent(t, "a text of 61", evOf(text(sixty+"x")))
	wantNotUnpacked(t, "a text of 61", "\x01a\x01\x05\x01\x01n\x02\x3d"+sixty+"x")
	wantEventUnread(t, `a@1{n:"`+sixty+`x"}`)
	for b := range 256 {
		one := string([]byte{byte(b)})
		if b >= 32 && b <= 126 && b != '"' {
			wantAsTold(t, evOf(text(one)))
		} else {
			wantNotUnpacked(t, "a byte that no text has", "\x01a\x01\x05\x01\x01n\x02\x01"+one)
		}
	}
	for n := 0; n <= 20; n++ {
		e := evOf(list(repeat(flag(1), n)...))
		wantEvent(t, e, "\x01a\x01\x05\x01\x01n\x04"+string([]byte{byte(n)})+strings.Repeat("\x03\x01", n), textOfEvent(e))
	}
	for n := 21; n <= 255; n++ {
		wantNotUnpacked(t, "a list of more than 20", "\x01a\x01\x05\x01\x01n\x04"+string([]byte{byte(n)})+strings.Repeat("\x03\x01", n))
	}
	for n := range 120 {
		wantAsTold(t, ev("a", 1, fields(n, flag(0))))
	}
	for n := 120; n <= 255; n++ {
		e := ev("a", 1, fields(n, flag(0)))
		wantNoEvent(t, "a form of more than 119", e)
		wantNotUnpacked(t, "a form of more than 119", string(bytesOf(e)))
	}
	wantAsTold(t, ev("a", 1, form("a abcdefgh", num(1), num(2))))
	wantNotUnpacked(t, "a name of 9", "\x01a\x01\x05\x01\x09abcdefghi\x03\x01")
	wantAsTold(t, evOf(within(num(1), 4)))
	wantNotUnpacked(t, "7 levels", string(bytesOf(evOf(within(num(1), 5)))))
	wantNotUnpacked(t, "as many levels as there is room for", "\x01a\x01\x05\x01\x01n"+strings.Repeat("\x06\x01", 4490))
	spread := list(repeat(list(num(1), num(1), num(1), num(1)), 20)...)
	wantAsTold(t, ev("a", 1, form("a b", spread, list(repeat(num(1), 17)...))))
	wantNotUnpacked(t, "121 parts", string(bytesOf(ev("a", 1, form("a b", spread, list(repeat(num(1), 18)...))))))
}

// P9: the events with the most bytes and the longest text there are.
func TestEventLongest(t *testing.T) {
	sixty := strings.Repeat("x", 60)
	e := ev("abcdefgh", 12, fields(119, text(sixty)))
	wantAsTold(t, e)
	if n := len(impl.EventPack(e)); n != 8461 {
		t.Errorf("the longest event has %d bytes", n)
	}
	if n := len(impl.EventWrite(e)); n != 8580 {
		t.Errorf("the longest text has %d bytes", n)
	}
}

// P9: as many bytes as there may be, and one more. No event has so many, so all that these rows have is well formed but their number of parts.
func TestEventLongRows(t *testing.T) {
	for n := 8995; n <= 9005; n++ {
		body := fields(127, text(strings.Repeat("x", 60)))
		last := &body.Kids[126]
		last.Text = last.Text[:60-(len(bytesOf(ev("abcdefgh", 12, body)))-n)]
		b := string(bytesOf(ev("abcdefgh", 12, body)))
		if len(b) != n {
			t.Fatalf("%d bytes of %d", len(b), n)
		}
		wantNotUnpacked(t, "too many bytes", b)
	}
	fine := string(bytesOf(evOf(num(1))))
	for _, n := range []int{1, 8461, 8999, 9000, 9001, 1000000} {
		wantNotUnpacked(t, "bytes left over", (fine + strings.Repeat("\x00", n))[:max(n, len(fine)+1)])
		wantNotUnpacked(t, "one byte again and again", strings.Repeat("\x01", n))
	}
	// A reader that went down so far would run out of its stack, which nothing can recover from.
	wantNotUnpacked(t, "no end of levels", "\x01a\x01\x05\x01\x01n"+strings.Repeat("\x06\x01", 20000000))
}

// P9: as long a text as there may be, and one byte more; no event has so long a one.
func TestEventLongTexts(t *testing.T) {
	for n := 9995; n <= 10005; n++ {
		var s strings.Builder
		s.WriteString("abcdefgh@12{")
		for i := 0; s.Len()+72+18 < n; i++ {
			fmt.Fprintf(&s, "name%04d:\"%s\",", i, strings.Repeat("x", 60))
		}
		fmt.Fprintf(&s, "z:\"%s\"}", strings.Repeat("x", n-s.Len()-5))
		if s.Len() != n {
			t.Fatalf("%d bytes of %d", s.Len(), n)
		}
		wantEventUnread(t, s.String())
		wantEventUnread(t, "a@1{}"+strings.Repeat(" ", n-5))
		wantEventUnread(t, strings.Repeat("a", n-4)+"@1{}")
		wantEventUnread(t, "a@"+strings.Repeat("0", n-5)+"1{}")
		wantEventUnread(t, "a@1{n:"+strings.Repeat("?", n-7)+"~}")
	}
	wantEventUnread(t, "a@1{n:"+strings.Repeat("[", 30000000))
	wantEventUnread(t, strings.Repeat("a", 30000000))
}

// P9: bodies that are no forms, or are not ok.
func TestEventBodies(t *testing.T) {
	for what, x := range badTrees() {
		wantNoEvent(t, what, ev("a", 1, x))
		wantNoEvent(t, what+" in a form", ev("a", 1, form("a b", num(1), x)))
		wantNoEvent(t, what+" far below", evOf(list(maybe(x))))
	}
	for _, x := range []tree{num(0), num(1), text(""), flag(1), list(), list(form("")), maybe(), maybe(form(""))} {
		wantNoEvent(t, "a body that is no form", ev("a", 1, x))
		wantNotUnpacked(t, "a body that is no form", "\x01a\x01"+string(bytesOfTree(x)))
		wantEventUnread(t, "a@1"+impl.TreeWrite(x))
	}
	wantNoEvent(t, "nothing", event{})
	wantNoEvent(t, "no body", event{Type: "a", Version: 1})
	wantNoEvent(t, "no type", ev("", 1, form("")))
	wantNoEvent(t, "no version", ev("a", 0, form("")))
	wantNoEvent(t, "7 levels", evOf(within(num(1), 5)))
	wantNoEvent(t, "a list of 21", evOf(list(repeat(num(1), 21)...)))
	wantNoEvent(t, "a number too great", evOf(num(1000000000)))
	wantNoEvent(t, "a number too small", evOf(num(-1000000000)))
	wantNoEvent(t, "the least number of all", evOf(num(math.MinInt)))
	wantNoEvent(t, "the greatest number of all", evOf(num(math.MaxInt)))
}

// P10: rows of bytes that are no event's.
func TestEventNotUnpacked(t *testing.T) {
	for what, b := range map[string]string{
		"nothing":                        "",
		"a type without a length":        "a\x01\x05\x00",
		"an empty type":                  "\x00\x01\x05\x00",
		"a type of 9":                    "\x09abcdefghi\x01\x05\x00",
		"a type with a digit ahead":      "\x019\x01\x05\x00",
		"a type in capitals":             "\x01A\x01\x05\x00",
		"a type with a blank":            "\x02a \x01\x05\x00",
		"a type with a rune of two":      "\x02\xc3\xa4\x01\x05\x00",
		"a type with a rune above 256":   "\x02\xc5\xa1\x01\x05\x00",
		"a type with no rune":            "\x02a\xff\x01\x05\x00",
		"a type with 0":                  "\x02a\x00\x01\x05\x00",
		"a type with @":                  "\x02a@\x01\x05\x00",
		"a type cut":                     "\x05a",
		"a type alone":                   "\x01a",
		"a length alone":                 "\x01",
		"a length of 255":                "\xffa",
		"the version 0":                  "\x01a\x00\x05\x00",
		"the version 13":                 "\x01a\x0d\x05\x00",
		"the version 255":                "\x01a\xff\x05\x00",
		"no body":                        "\x01a\x01",
		"no count":                       "\x01a\x01\x05",
		"bytes left over":                "\x01a\x01\x05\x00\x00",
		"an event behind it":             "\x01a\x01\x05\x00\x01a\x01\x05\x00",
		"a body of sort 0":               "\x01a\x01\x00\x00",
		"a body of sort 7":               "\x01a\x01\x07\x00",
		"a kid of sort 0":                "\x01a\x01\x05\x01\x01n\x00",
		"a kid of sort 0, with a count":  "\x01a\x01\x05\x01\x01n\x00\x00",
		"a kid of sort 7":                "\x01a\x01\x05\x01\x01n\x07\x00",
		"a kid of sort 7, with a kid":    "\x01a\x01\x05\x01\x01n\x07\x01\x03\x01",
		"a kid of sort 129":              "\x01a\x01\x05\x01\x01n\x81\x00\x01",
		"a kid of sort 255":              "\x01a\x01\x05\x01\x01n\xff\x00",
		"a kid without a sort":           "\x01a\x01\x05\x01\x01n",
		"a kid without a name":           "\x01a\x01\x05\x01",
		"a name cut":                     "\x01a\x01\x05\x01\x02n",
		"an empty name":                  "\x01a\x01\x05\x01\x00\x03\x01",
		"a name that is none":            "\x01a\x01\x05\x01\x01N\x03\x01",
		"a name with a digit ahead":      "\x01a\x01\x05\x01\x021n\x03\x01",
		"more kids than come":            "\x01a\x01\x05\x02\x01n\x03\x01",
		"less kids than come":            "\x01a\x01\x05\x01\x01n\x03\x01\x01o\x03\x01",
		"no kids, but one comes":         "\x01a\x01\x05\x00\x01n\x03\x01",
		"names alike":                    "\x01a\x01\x05\x02\x01n\x03\x01\x01n\x03\x01",
		"names that fall":                "\x01a\x01\x05\x02\x01o\x03\x01\x01n\x03\x01",
		"the longer name first":          "\x01a\x01\x05\x02\x02nn\x03\x01\x01n\x03\x01",
		"names that fall below":          "\x01a\x01\x05\x01\x01n\x05\x02\x01o\x03\x01\x01n\x03\x01",
		"a flag of 2":                    "\x01a\x01\x05\x01\x01n\x03\x02",
		"a flag of 255":                  "\x01a\x01\x05\x01\x01n\x03\xff",
		"a flag that is not there":       "\x01a\x01\x05\x01\x01n\x03",
		"a text without a length":        "\x01a\x01\x05\x01\x01n\x02",
		"a text cut":                     "\x01a\x01\x05\x01\x01n\x02\x02x",
		"a text that is not there":       "\x01a\x01\x05\x01\x01n\x02\x01",
		"a text with a quote":            "\x01a\x01\x05\x01\x01n\x02\x01\"",
		"a list without a count":         "\x01a\x01\x05\x01\x01n\x04",
		"a list cut":                     "\x01a\x01\x05\x01\x01n\x04\x02\x03\x01",
		"a list whose kids are not":      "\x01a\x01\x05\x01\x01n\x04\x01",
		"a list with names":              "\x01a\x01\x05\x01\x01n\x04\x01\x01a\x03\x01",
		"a form without a count":         "\x01a\x01\x05\x01\x01n\x05",
		"a form without names":           "\x01a\x01\x05\x01\x01n\x05\x01\x03\x01",
		"a maybe without a count":        "\x01a\x01\x05\x01\x01n\x06",
		"a maybe of two":                 "\x01a\x01\x05\x01\x01n\x06\x02\x03\x01\x03\x01",
		"a maybe whose kid is not there": "\x01a\x01\x05\x01\x01n\x06\x01",
	} {
		wantNotUnpacked(t, what, b)
	}
}

// P10: texts that are no event's.
func TestEventUnread(t *testing.T) {
	for _, s := range []string{
		"", "a", "@", "a@", "a@1", "@1{}", "a1{}", "a{}", "1{}", "{}", "@{}", "a@{}", "a@@1{}", "a@1@{}", "a@1@1{}", "1", "a@12", "a@1{",
		"a@0{}", "a@13{}", "a@-1{}", "a@-0{}", "a@+1{}", "a@00{}", "a@01{}", "a@001{}", "a@012{}", "a@100{}", "a@1.0{}", "a@0x1{}", "a@1_1{}", "a@1e0{}", "a@one{}", "a@257{}", "a@4294967297{}", "a@18446744073709551617{}", "a@99999999999999999999{}",
		" a@1{}", "a @1{}", "a@ 1{}", "a@1 {}", "a@1{ }", "a@1{} ", "a@1{}\n", "\ta@1{}", "a@1{}\x00", "\x00a@1{}", "a@1{n: 1}", "a@1{n:1 }", "a@1{n :1}",
		"a@1{}{}", "a@1{}a@1{}", "a@1{}x", "a@1{}1", "a@1{},", "a@1{}}", "a@1{{}", "a@1{}]",
		"A@1{}", "9@1{}", "9a@1{}", "a_@1{}", "a-b@1{}", "ä@1{}", "aä@1{}", "š@1{}", "aš@1{}", "a\xff@1{}", "ａ@1{}", "abcdefghi@1{}", "abcdefgh9@1{}", "a,@1{}", "\"a\"@1{}", "a:@1{}",
		"a@1[]", "a@1~", "a@1?{}", "a@11", "a@1yes", "a@1no", `a@1""`, `a@1"{}"`, "a@1[{}]", "a@1n:1", "a@1(n:1)", "a@1{n}", "a@1{n:}", "a@1{:1}", "a@1{n:1,}", "a@1{,n:1}", "a@1{n=1}",
		"a@1{n:01}", "a@1{n:-0}", "a@1{n:1000000000}", "a@1{n:-1000000000}", "a@1{n:1,n:1}", "a@1{o:1,n:1}", "a@1{nn:1,n:1}", "a@1{N:1}", "a@1{n:maybe}", "a@1{n:[1,]}", "a@1{n:?}", "a@1{n:\"}", "a@1{n:??????1}", "a@1{n:?????1}", "a@1{n:[[[[[1]]]]]}",
		"a@1{n:[1" + strings.Repeat(",1", 20) + "]}", "order@2{n:7", "order@2n:7}", "order 2{n:7}", "order@2{n:7}7", "order@2{n:7};",
	} {
		wantEventUnread(t, s)
	}
}

// wantOneRow: what is read is an event that is ok, and these are its bytes; what is not read is nothing. It says whether it is read.
func wantOneRow(t *testing.T, b string) bool {
	t.Helper()
	e, ok := impl.EventUnpack([]byte(b))
	if !ok && !sameEvent(e, event{}) {
		t.Errorf("%q is not read, but beside that there is %v", b, e)
	}
	if ok && (!okEvent(e) || !impl.EventOk(e) || string(bytesOf(e)) != b || string(impl.EventPack(e)) != b) {
		t.Errorf("%q is read as %v, which is packed as %q", b, e, impl.EventPack(e))
	}
	return ok
}

// wantOneEventText is the same for a text.
func wantOneEventText(t *testing.T, s string) bool {
	t.Helper()
	e, ok := impl.EventRead(s)
	if !ok && !sameEvent(e, event{}) {
		t.Errorf("%q is not read, but beside that there is %v", s, e)
	}
	if ok && (!okEvent(e) || !impl.EventOk(e) || textOfEvent(e) != s || impl.EventWrite(e) != s) {
		t.Errorf("%q is read as %v, which is written %q", s, e, impl.EventWrite(e))
	}
	return ok
}

// beside are all rows that lie a byte beside one: cut, with a byte less, a byte more, or another byte.
func beside(row string, tell func(string)) {
	for i := range len(row) + 1 {
		tell(row[:i])
		tell(row[i:])
		for b := range 256 {
			one := string([]byte{byte(b)})
			tell(row[:i] + one + row[i:])
			if i < len(row) {
				tell(row[:i] + one + row[i+1:])
			}
		}
		if i < len(row) {
			tell(row[:i] + row[i+1:])
		}
	}
}

// P10: all that lies a byte beside an event's bytes, or its text.
func TestEventBeside(t *testing.T) {
	rows, texts := 0, 0
	for _, s := range []string{"a@1{}", "ab@12{n:0}", "abcdefgh@9{n:-200}", "a@1{n:16384}", "a@1{n:999999999}", `a@2{n:"a b",t:""}`, "a@3{a:yes,b:no}", "a@1{n:[],o:[1,2],p:[[]]}", "a@1{n:~,o:?~,p:??1}", "a@1{n:{},o:{a:1,ab:2}}", `o9@11{id:7,tags:["a",yes],to:?{city:~,zip:[-128]}}`, "a@1{a:{a:{a:{a:{a:1}}}}}"} {
		e, ok := impl.EventRead(s)
		if !ok {
			t.Fatalf("%q is not read", s)
		}
		wantAsTold(t, e)
		beside(s, func(near string) {
			if wantOneEventText(t, near) {
				texts++
			}
		})
		beside(string(bytesOf(e)), func(near string) {
			if wantOneRow(t, near) {
				rows++
			}
		})
		for end := range len(bytesOf(e)) {
			wantNotUnpacked(t, "a beginning", string(bytesOf(e)[:end]))
		}
		for end := range len(s) {
			wantEventUnread(t, s[:end])
		}
	}
	if rows < 1000 || texts < 1000 {
		t.Errorf("%d rows, %d texts: too few to tell anything", rows, texts)
	}
}

// P10: all rows of a few bytes of which events are made.
func TestEventShortRows(t *testing.T) {
	read := map[string]int{}
	var all func(row string, letters string, left int)
	all = func(row string, letters string, left int) {
		if wantOneRow(t, row) {
			read[row]++
		}
		if left == 0 {
			return
		}
		for i := range len(letters) {
			all(row+letters[i:i+1], letters, left-1)
		}
	}
	all("", "\x00\x01\x02\x05a9A", 6)
	all("\x01a\x01\x05\x01\x01n", "\x00\x01\x02\x03\x04\x05\x06\x07\x7f\x80\x81\xffn", 4)
	all("\x01a\x01\x05\x02\x01a", "\x00\x01\x03ab", 7)
	for _, row := range []string{
		"\x01a\x01\x05\x00", "\x02a9\x02\x05\x00", "\x01a\x01\x05\x01\x01n\x03\x01", "\x01a\x01\x05\x01\x01n\x06\x01\x06\x00", "\x01a\x01\x05\x01\x01n\x01\x00\x80\x01", "\x01a\x01\x05\x01\x01n\x01\x01\xff\x7f",
		"\x01a\x01\x05\x01\x01n\x02\x02nn", "\x01a\x01\x05\x02\x01a\x03\x01\x01b\x03\x00",
	} {
		if read[row] == 0 {
			t.Errorf("%q is not read", row)
		}
	}
}

// P10: all texts of a few of the words of which events are made.
func TestEventShortTexts(t *testing.T) {
	t.Parallel()
	words := []string{"a", "9", "@", "0", "1", "2", "13", "{", "}", "n:", "1", "~", "-", " ", ",", "@1{", "yes", "A"}
	read := map[string]int{}
	var all func(s string, left int)
	all = func(s string, left int) {
		if wantOneEventText(t, s) {
			read[s]++
		}
		if left == 0 {
			return
		}
		for _, word := range words {
			all(s+word, left-1)
		}
	}
	all("", 4)
	all("a@1", 4)
	for _, s := range []string{"a@1{}", "a9@1{}", "aa@1{}", "a@12{}", "a@1{n:1}", "a@1{n:~}", "a@1{n:yes}"} {
		if read[s] == 0 {
			t.Errorf("%q is not read", s)
		}
	}
}

// anyEvent makes an event, often an ok one.
func anyEvent(r *rand.Rand) event {
	e := ev([]string{"a", "order", "abcdefgh", "z0", "b12"}[r.Intn(5)], 1+r.Intn(12), anyTree(r, 2+r.Intn(5)))
	for e.Body.Sort != 5 && r.Intn(20) > 0 {
		e.Body = anyTree(r, 2+r.Intn(5))
	}
	switch r.Intn(60) {
	case 0:
		e.Version = r.Intn(40) - 10
	case 1:
		e.Type += []string{"A", " ", "@", "ä", "aaaaaaaa"}[r.Intn(5)]
	}
	return e
}

// P9, P10: many events, held against what the document says as it is told here; no two have the same bytes, or the same text.
func TestEventMany(t *testing.T) {
	r := rand.New(rand.NewSource(7))
	fine, spoilt := 0, 0
	rows, texts := map[string]event{}, map[string]event{}
	for range 30000 {
		e := anyEvent(r)
		if !okEvent(e) {
			spoilt++
			wantNoEvent(t, fmt.Sprint(e), e)
			continue
		}
		fine++
		wantAsTold(t, e)
		row, s := string(impl.EventPack(e)), impl.EventWrite(e)
		if other, is := rows[row]; is && !sameEvent(e, other) {
			t.Errorf("%q are the bytes of %v and of %v", row, e, other)
		}
		if other, is := texts[s]; is && !sameEvent(e, other) {
			t.Errorf("%q is the text of %v and of %v", s, e, other)
		}
		rows[row], texts[s] = e, e
		b := []byte(row)
		b[r.Intn(len(b))] = byte(r.Intn(256))
		wantOneRow(t, string(b))
	}
	if fine < 5000 || spoilt < 1000 {
		t.Errorf("%d fine, %d spoilt: too few to tell anything", fine, spoilt)
	}
}

// Every function answers at every argument: also at a body that holds itself, or is far too wide to be walked.
func TestEventWithoutEnd(t *testing.T) {
	kids := make([]tree, 1)
	kids[0] = tree{Sort: impl.TreeForm, Names: []string{"a"}, Kids: kids}
	wantNoEvent(t, "holds itself", ev("a", 1, kids[0]))
	wide := num(1)
	for range 12 {
		wide = list(repeat(wide, 20)...)
	}
	wantNoEvent(t, "20 times 20 ..", evOf(wide))
	wantNoEvent(t, "a million kids", ev("a", 1, tree{Sort: impl.TreeForm, Kids: make([]tree, 1000000)}))
	wantNoEvent(t, "a million of both", ev("a", 1, tree{Sort: impl.TreeForm, Names: make([]string, 1000000), Kids: make([]tree, 1000000)}))
	wantNotUnpacked(t, "a million bytes", strings.Repeat("\x05", 1000000))
	if e, ok := impl.EventUnpack(nil); ok || !sameEvent(e, event{}) {
		t.Errorf("nil is read as %v %v", e, ok)
	}
}

// The empty list and the nil list are the same value.
func TestEventEmptyAndNil(t *testing.T) {
	for _, body := range []tree{{Sort: impl.TreeForm}, {Sort: impl.TreeForm, Names: []string{}, Kids: []tree{}}, {Sort: impl.TreeForm, Names: []string{}}} {
		wantEvent(t, ev("a", 1, body), "\x01a\x01\x05\x00", "a@1{}")
	}
	for sort, packed := range map[int]string{1: "\x01\x00\x00", 2: "\x02\x00", 3: "\x03\x00", 4: "\x04\x00", 5: "\x05\x00", 6: "\x06\x00"} {
		kid := tree{Sort: sort, Names: []string{}, Kids: []tree{}}
		wantEvent(t, evOf(kid), "\x01a\x01\x05\x01\x01n"+packed, textOfEvent(evOf(tree{Sort: sort})))
	}
}

// Nothing is written into an argument, or behind its end.
func TestEventArgumentsStay(t *testing.T) {
	names := []string{"a", "b", "behind"}
	kids := []tree{list(num(1), text("x")), maybe(flag(1)), num(99)}
	all := tree{Names: names, Kids: kids}
	before := copyTree(all)
	for _, e := range []event{
		ev("a", 1, tree{Sort: impl.TreeForm, Names: names[:2], Kids: kids[:2]}),
		ev("a", 1, tree{Sort: impl.TreeForm, Names: names[:1], Kids: kids[:2]}),
	} {
		impl.EventOk(e)
		impl.EventWrite(e)
		b := impl.EventPack(e)
		for i := range b[:cap(b)] {
			b[:cap(b)][i] = 77
		}
	}
	if !sameTree(all, before) {
		t.Errorf("%v has become %v", before, all)
	}

	fine := bytesOf(ev("order", 2, form("a b", list(num(1), text("x")), maybe(flag(1)))))
	row := append(slices.Clone(fine), "behind"...)
	for end := range row {
		if _, ok := impl.EventUnpack(row[:end]); ok != (end == len(fine)) {
			t.Errorf("the first %d of %d bytes are read: %v", end, len(fine), ok)
		}
	}
	e, ok := impl.EventUnpack(row[:len(fine)])
	spoilAll(e.Body)
	if !ok || string(row) != string(fine)+"behind" {
		t.Errorf("%v: %q has become %q", ok, string(fine)+"behind", row)
	}
}

// Every answer is new memory: no two lists of one share any, and its texts are its own.
func TestEventAnswersAreNew(t *testing.T) {
	s := strings.Clone(`order@2{a:[1,2,[3,[],4]],b:{c:?"longer text",d:~,e:?[yes]},f:[{},{g:1,h:2,i:3}],j:"t"}`)
	e, ok := impl.EventRead(s)
	if !ok {
		t.Fatal("not read")
	}
	wantOwnTexts(t, e.Body, s)
	if lies(e.Type, s) {
		t.Error("the type shares memory with what was read")
	}
	wantOwnLists(t, e, s)

	b := impl.EventPack(e)
	packed := slices.Clone(b)
	back, ok := impl.EventUnpack(b)
	if !ok {
		t.Fatal("not unpacked")
	}
	for i := range b[:cap(b)] {
		b[:cap(b)][i] = 77
	}
	if impl.EventWrite(back) != s || impl.EventWrite(e) != s || !bytes.Equal(impl.EventPack(e), packed) {
		t.Errorf("an answer shares memory with bytes: %q %q", impl.EventWrite(back), impl.EventWrite(e))
	}
	wantOwnLists(t, back, s)

	short, _ := impl.EventRead("a@1{}")
	if w := impl.EventWrite(short); lies(w, short.Type) || lies(impl.EventWrite(e), e.Type) {
		t.Error("a text shares memory with its event")
	}
}

// wantOwnLists: what is written into the spare room of a list is seen nowhere, and what is written into an event not in another one.
func wantOwnLists(t *testing.T, e event, s string) {
	t.Helper()
	other, _ := impl.EventUnpack(bytesOf(e))
	spoilSpare(e.Body)
	if impl.EventWrite(e) != s {
		t.Errorf("lists of an answer share their memory: %q", impl.EventWrite(e))
	}
	spoilAll(other.Body)
	if impl.EventWrite(e) != s {
		t.Errorf("two answers share their memory: %q", impl.EventWrite(e))
	}
}
