package tests

import (
	"fmt"
	"math/rand"
	"slices"
	"strings"
	"testing"

	"loop.example/teagle/impl"
)

// toldRecLift is by itself what comes of a record.
func toldRecLift(book []chainType, r record) chainDone {
	if toldBook(book).Code != 0 || !okRecord(r) {
		return chainDone{Code: 6}
	}
	all := chainDone{}
	for _, e := range r.Events {
		d := toldLifted(book, e)
		if d.Code != 0 {
			return d
		}
		all.Outs = append(all.Outs, d.Outs...)
	}
	return all
}

// toldAnew is by itself a record written anew.
func toldAnew(book []chainType, r record) (record, int) {
	if !okRecord(r) {
		return record{}, 1
	}
	d := toldRecLift(book, r)
	anew := record{Pos: r.Pos, Key: r.Key, Events: d.Outs}
	switch {
	case d.Code != 0:
		return r, 1
	case len(d.Outs) == 0:
		return record{}, 2
	case !okRecord(anew):
		return r, 3
	}
	return anew, 0
}

// wantRecLift: a record becomes just what the tests themselves tell, by lifting and by writing it anew.
func wantRecLift(t *testing.T, book []chainType, r record) (chainDone, int) {
	t.Helper()
	d, told := impl.RecLift(book, r), toldRecLift(book, r)
	if !sameChainDone(d, told) {
		t.Errorf("%.200s: %.300s, but the tests tell %.300s", recordText(r), liftedText(d), liftedText(told))
	}
	anew, code := impl.RecAnew(book, r)
	toldRecord, toldCode := toldAnew(book, r)
	if !sameRecord(anew, toldRecord) || code != toldCode {
		t.Errorf("%.200s: anew %d %.300s, but the tests tell %d %.300s", recordText(r), code, recordText(anew), toldCode, recordText(toldRecord))
	}
	wantAnewSame(t, book, r, d, anew, code)
	return d, code
}

// wantAnewSame is P59 and P60: of a record all parts are lifted or none, and writing it anew does not change what it comes to.
func wantAnewSame(t *testing.T, book []chainType, r record, d chainDone, anew record, code int) {
	t.Helper()
	if d.Code != 0 && len(d.Outs) > 0 {
		t.Errorf("%.200s: beside the code %d there are events", recordText(r), d.Code)
	}
	if impl.ChainCheck(book).Code != 0 || !impl.RecOk(r) {
		return
	}
	var outs []event
	for _, e := range r.Events {
		one := impl.ChainLift(book, e)
		if one.Code != 0 {
			if !sameChainDone(d, one) {
				t.Errorf("%.200s: %.200s, but the first that stops tells %.200s", recordText(r), liftedText(d), liftedText(one))
			}
			outs = nil
			break
		}
		outs = append(outs, one.Outs...)
	}
	if !slices.EqualFunc(d.Outs, outs, sameEvent) {
		t.Errorf("%.200s: %.200s, but its events give %.200s", recordText(r), liftedText(d), liftedText(chainDone{Outs: outs}))
	}
	if code == impl.AnewDropped {
		if d.Code != 0 || len(d.Outs) != 0 || !sameRecord(anew, record{}) {
			t.Errorf("%.200s is gone, but gave %.200s", recordText(r), liftedText(d))
		}
		return
	}
	if again := impl.RecLift(book, anew); !sameChainDone(again, d) {
		t.Errorf("%.200s, written anew, gives %.200s, not %.200s", recordText(r), liftedText(again), liftedText(d))
	}
	if again, twice := impl.RecAnew(book, anew); twice != code || !sameRecord(again, anew) {
		t.Errorf("%.200s, written anew twice: %d %.200s, not %d %.200s", recordText(r), twice, recordText(again), code, recordText(anew))
	}
}

// wantLiftedRecord: a record of these events becomes this, and has this code when it is written anew.
func wantLiftedRecord(t *testing.T, book []chainType, wanted string, code int, texts ...string) {
	t.Helper()
	r := recordAt(t, 5, "key", texts...)
	d, got := wantRecLift(t, book, r)
	if liftedText(d) != wanted || got != code {
		t.Errorf("%s: %s, code %d, wanted %s, code %d", recordText(r), liftedText(d), got, wanted, code)
	}
	anew, _ := impl.RecAnew(book, r)
	told := record{}
	switch code {
	case impl.AnewMade:
		told = recordAt(t, 5, "key", strings.Fields(wanted)...)
	case impl.AnewDead, impl.AnewLarge:
		told = r
	}
	if !sameRecord(anew, told) {
		t.Errorf("%s: anew %s, wanted %s", recordText(r), recordText(anew), recordText(told))
	}
}

const anewLines = `type a
version {n:num}
lift choose less get n old 0 drop both emit form n div 12 get n old end send b 1 form end
version {n:num}
type b
version {}
`

// P59, P60: records whose events, lifted and written anew, are known.
func TestAnewOrdinary(t *testing.T) {
	book := bookOf(t, anewLines)
	wantLiftedRecord(t, book, "a@2{n:4} b@1{}", impl.AnewMade, "a@1{n:3}")
	wantLiftedRecord(t, book, "a@2{n:3}", impl.AnewMade, "a@2{n:3}")
	wantLiftedRecord(t, book, "a@2{n:4} b@1{} a@2{n:7} b@1{} a@2{n:12} b@1{}", impl.AnewMade, "a@1{n:3}", "a@2{n:7}", "b@1{}", "a@1{n:1}")
	wantLiftedRecord(t, book, "b@1{} b@1{}", impl.AnewMade, "b@1{}", "b@1{}")
	wantLiftedRecord(t, book, "", impl.AnewDropped, "a@1{n:-1}")
	wantLiftedRecord(t, book, "", impl.AnewDropped, "a@1{n:-1}", "a@1{n:-2}", "a@1{n:-3}")
	// One of several events becomes none: at the beginning, in the middle, at the end.
	wantLiftedRecord(t, book, "a@2{n:4} b@1{}", impl.AnewMade, "a@1{n:-1}", "a@1{n:3}")
	wantLiftedRecord(t, book, "b@1{} a@2{n:1}", impl.AnewMade, "b@1{}", "a@1{n:-1}", "a@2{n:1}")
	wantLiftedRecord(t, book, "b@1{} a@2{n:1}", impl.AnewMade, "b@1{}", "a@2{n:1}", "a@1{n:-1}")
	example := bookOf(t, theExample)
	wantLiftedRecord(t, example, `order@3{id:4,tag:~} audit@1{who:"ann"} order@3{id:9,tag:~} audit@1{who:"ann"} order@3{id:5,tag:~}`, impl.AnewMade, `order@1{items:[4,9],who:"ann"}`, "order@2{id:5}")
	wantLiftedRecord(t, example, "", impl.AnewDropped, `order@1{items:[],who:"ann"}`)
}

// P59: the first event that stops is told, whatever stands behind it.
func TestAnewStops(t *testing.T) {
	var lines string
	stops := []struct{ name, action, wanted string }{
		{"a", "take z add 999999999 get n old drop", "stop 1 0 a@1"}, {"b", "take z div 1 sub get n old get n old drop", "stop 2 0 b@1"}, {"c", "take z at empty num get n old drop", "stop 3 0 c@1"},
		{"d", `take z join "` + strings.Repeat("q", 60) + `" "q" drop`, "stop 4 0 d@1"}, {"e", "fail 0", "stop 5 0 e@1"}, {"f", "fail 99", "stop 5 99 f@1"},
	}
	for _, stop := range stops {
		lines += "type " + stop.name + "\nversion {n:num}\nlift choose same get n old 0 emit old " + stop.action + "\nversion {n:num}\n"
	}
	book := bookOf(t, lines+"type g\nversion {n:num}\nlift emit old\nversion {n:num}\nlift fail 7\nversion {n:num}\ntype h\nversion {n:num}\n")
	all := []struct{ event, wanted string }{{"g@1{n:1}", "stop 5 7 g@2"}, {"g@2{n:1}", "stop 5 7 g@2"}, {"x@1{}", "stop 8 0 x@1"}, {"h@2{n:1}", "stop 8 0 h@2"}, {"h@12{n:1}", "stop 8 0 h@12"}, {"h@1{}", "stop 9 0 h@1"}, {"a@2{n:yes}", "stop 9 0 a@2"}}
	for _, stop := range stops {
		all = append(all, struct{ event, wanted string }{stop.name + "@1{n:5}", stop.wanted})
	}
	for i, one := range all {
		other := all[(i+1)%len(all)]
		wantLiftedRecord(t, book, one.wanted, impl.AnewDead, one.event)
		wantLiftedRecord(t, book, one.wanted, impl.AnewDead, one.event, other.event, "h@1{n:1}")
		wantLiftedRecord(t, book, one.wanted, impl.AnewDead, "h@1{n:1}", "a@1{n:0}", one.event, other.event)
		wantLiftedRecord(t, book, one.wanted, impl.AnewDead, "h@1{n:1}", "g@3{n:1}", one.event)
		wantLiftedRecord(t, book, one.wanted, impl.AnewDead, "h@1{n:1}", one.event, "h@1{n:1}")
		wantLiftedRecord(t, book, other.wanted, impl.AnewDead, other.event, one.event)
	}
	wantLiftedRecord(t, book, "h@1{n:1} a@2{n:0} g@3{n:2}", impl.AnewMade, "h@1{n:1}", "a@1{n:0}", "g@3{n:2}")
}

// How many events come of a record, and how many bytes they have.
func TestAnewLarge(t *testing.T) {
	square := bookOf(t, "type a\nversion {l:[num]}\nlift each x get l old each y get l old emit form n x end\nversion {n:num}")
	r := recordAt(t, 1, "k", "a@1{l:"+elements(6)+"}", "a@1{l:"+elements(2)+"}")
	if d, code := wantRecLift(t, square, r); code != impl.AnewMade || len(d.Outs) != impl.RecMaxEvents {
		t.Errorf("%d events, code %d", len(d.Outs), code)
	}
	r.Events = append(r.Events, eventOf(t, "a@1{l:[1]}"))
	if d, code := wantRecLift(t, square, r); code != impl.AnewLarge || len(d.Outs) != impl.RecMaxEvents+1 {
		t.Errorf("%d events, code %d", len(d.Outs), code)
	}
	r = recordAt(t, 1, "k", "a@1{l:"+elements(20)+"}")
	if d, code := wantRecLift(t, square, r); code != impl.AnewLarge || len(d.Outs) != 400 {
		t.Errorf("%d events, code %d", len(d.Outs), code)
	}
	// Each of two events becomes 8 bytes longer.
	longer := bookOf(t, "type a\nversion {t:[text]}\nlift emit form t get t old u \"more\" end\nversion {t:[text],u:text}")
	for bytes, wanted := range map[int]int{1975: impl.AnewMade, 1983: impl.AnewMade, 1984: impl.AnewMade, 1985: impl.AnewLarge, 1986: impl.AnewLarge, 2000: impl.AnewLarge} {
		r := recordOfBytes(t, bytes)
		_, code := wantRecLift(t, longer, r)
		anew, _ := impl.RecAnew(longer, r)
		if code != wanted || code == impl.AnewMade && len(recordBytes(anew)) != bytes+16 {
			t.Errorf("%d bytes become %d: code %d", bytes, len(recordBytes(anew)), code)
		}
	}
	// A record of the most bytes at the newest version stays as it is.
	if d, code := wantRecLift(t, bookOf(t, "type a\nversion {t:[text]}"), recordOfBytes(t, 2000)); code != impl.AnewMade || len(d.Outs) != 2 {
		t.Errorf("%s, code %d", liftedText(d), code)
	}
	// One event alone becomes too long.
	long := bookOf(t, `type a
version {t:[text]}
lift emit form t get t old u get t old end
version {t:[text],u:[text]}`)
	one := record{Pos: 9, Key: "k", Events: []event{textsEvent(16, 60)}}
	if d, code := wantRecLift(t, long, one); code != impl.AnewLarge || len(d.Outs) != 1 {
		t.Errorf("code %d, %d events", code, len(d.Outs))
	}
}

// Books and records that are not ok.
func TestAnewBroken(t *testing.T) {
	good := goodBook(t)
	fine := recordAt(t, 5, "k", "a@1{n:1}")
	broken := func(what string, book []chainType, r record, code int, wanted record) {
		t.Helper()
		if d := impl.RecLift(book, r); !sameChainDone(d, chainDone{Code: impl.StopBroken}) {
			t.Errorf("%s: %s", what, liftedText(d))
		}
		if anew, got := impl.RecAnew(book, r); got != code || !sameRecord(anew, wanted) {
			t.Errorf("%s: anew %d %.200s", what, got, recordText(anew))
		}
	}
	bads := map[string]record{
		"no events": {Pos: 5, Key: "k"}, "no key": {Pos: 5, Events: fine.Events}, "a wrong key": {Pos: 5, Key: "K", Events: fine.Events}, "no position": {Key: "k", Events: fine.Events},
		"a great position": {Pos: 1000000, Key: "k", Events: fine.Events}, "an event that is not ok": {Pos: 5, Key: "k", Events: []event{fine.Events[0], {}}}, "too many events": {Pos: 5, Key: "k", Events: slices.Repeat(fine.Events, 41)},
		"too many bytes": recordOfBytes(t, 2001), "nothing": {},
	}
	for what, r := range bads {
		broken(what, good, r, impl.AnewDead, record{})
	}
	for _, s := range spoilings(t) {
		book := s.spoil(copyBook(good))
		broken("a book that is not ok", book, fine, impl.AnewDead, fine)
		broken("a book that is not ok, an unknown event", book, recordAt(t, 5, "k", "z@1{}"), impl.AnewDead, recordAt(t, 5, "k", "z@1{}"))
		broken("both", book, bads["no events"], impl.AnewDead, record{})
	}
	if d, code := wantRecLift(t, nil, fine); liftedText(d) != "stop 8 0 a@1" || code != impl.AnewDead {
		t.Errorf("an empty book: %s", liftedText(d))
	}
}

// chanceRecordOf is a record of events of a book by chance, of any versions.
func chanceRecordOf(t *testing.T, r *rand.Rand, book []chainType, pos int) record {
	one := record{Pos: pos, Key: []string{"x", "y", "z", "key"}[r.Intn(4)]}
	for range 1 + r.Intn(3) {
		of := book[r.Intn(len(book))]
		version := r.Intn(len(of.Versions))
		e := ev(of.Name, version+1, bodyOf(r, of.Versions[version].Kind))
		switch r.Intn(30) {
		case 0:
			e.Version = 1 + r.Intn(5)
		case 1:
			e.Body = bodyOf(r, readKind(t, chanceForms[r.Intn(len(chanceForms))]))
		case 2:
			e.Type = string(rune('a' + r.Intn(6)))
		}
		one.Events = append(one.Events, e)
	}
	return one
}

// P59, P60: many books and records by chance.
func TestAnewMany(t *testing.T) {
	t.Parallel()
	r := rand.New(rand.NewSource(62))
	codes, anews := map[int]int{}, map[int]int{}
	for range 250 {
		book := chanceBook(t, r)
		if toldBook(book).Code != 0 && r.Intn(10) > 0 {
			continue
		}
		for i := range 6 {
			one := chanceRecordOf(t, r, book, 1+i)
			if r.Intn(30) == 0 {
				one.Pos = 0
			}
			d, code := wantRecLift(t, book, one)
			codes[d.Code]++
			anews[code]++
		}
		if t.Failed() {
			t.FailNow()
		}
	}
	for _, code := range []int{0, 1, 2, 5, 6, 8, 9} {
		if codes[code] < 3 {
			t.Errorf("%v", codes)
		}
	}
	if anews[impl.AnewMade] < 200 || anews[impl.AnewDead] < 50 || anews[impl.AnewDropped] < 20 {
		t.Errorf("%v", anews)
	}
}

// Every function answers at every argument.
func TestAnewWithoutEnd(t *testing.T) {
	trees := make([]tree, 1)
	trees[0] = tree{Sort: impl.TreeForm, Names: []string{"n"}, Kids: trees}
	self := nBoth(nDrop(), nDrop())
	self.Kids[0], self.Kids[1] = self, self
	bad := goodBook(t)
	bad[0].Versions[0].Lift = self
	for _, book := range [][]chainType{goodBook(t), bad, make([]chainType, 1000000)} {
		for _, r := range []record{{Pos: 1, Key: "k", Events: []event{ev("a", 1, trees[0])}}, {Pos: 1, Key: "k", Events: make([]event, 1000000)}, {Pos: 1, Key: strings.Repeat("k", 1000000)}} {
			if d := impl.RecLift(book, r); !sameChainDone(d, chainDone{Code: impl.StopBroken}) {
				t.Errorf("%s", liftedText(d))
			}
			if anew, code := impl.RecAnew(book, r); code != impl.AnewDead || !sameRecord(anew, record{}) {
				t.Errorf("anew %d", code)
			}
		}
	}
	// As many events as can come of one record.
	square := bookOf(t, "type a\nversion {l:[num]}\nlift each x get l old each y get l old emit form n x end\nversion {n:num}")
	most := record{Pos: 1, Key: "k", Events: slices.Repeat([]event{eventOf(t, "a@1{l:"+elements(10)+"}")}, 40)}
	if d := impl.RecLift(square, most); len(d.Outs) != 4000 || !impl.RecOk(most) {
		t.Errorf("%d events of a record that is ok: %v", len(d.Outs), impl.RecOk(most))
	}
	// The empty list and the nil list are the same value.
	book := []chainType{{Name: "a", Versions: []chainVersion{{Kind: kForm(""), Lift: nEmit(nName("old"))}, {Kind: kForm("")}}}}
	for _, body := range []tree{{Sort: impl.TreeForm}, {Sort: impl.TreeForm, Names: []string{}, Kids: []tree{}}} {
		wantRecLift(t, book, record{Pos: 1, Key: "k", Events: []event{ev("a", 1, body)}})
	}
}

// Nothing is written into an argument or behind its end, and every answer is new memory.
func TestAnewMemory(t *testing.T) {
	plainBook := bookOf(t, theExample+"type dead\nversion {s:text}\nlift fail 3\nversion {s:text}\ntype gone\nversion {s:text}\nlift drop\nversion {s:text}\n")
	for _, texts := range [][]string{{`order@1{items:[4,9],who:"someone"}`, `audit@1{who:"another one"}`}, {`audit@1{who:"another one"}`, `dead@1{s:"a text of the dead"}`}, {`gone@1{s:"a text"}`}, {`unknown@1{s:"a text"}`}, {`audit@1{who:"newest"}`, `order@3{id:1,tag:?"newest"}`}} {
		plain := recordAt(t, 5, "somekey", texts...)
		r, book := spareRecord(plain), spareBook(plainBook)
		names := []string{}
		for i := range book {
			book[i].Name = strings.Clone(book[i].Name)
			names = append(names, book[i].Name)
		}
		d := impl.RecLift(book, r)
		anew, code := impl.RecAnew(book, r)
		given := append([]string{d.Type}, textsOfRecord(record{Events: d.Outs})...)
		wantTextsApart(t, given, append(textsOfRecord(r), names...))
		wantTextsApart(t, textsOfRecord(anew), append(textsOfRecord(r), names...))
		wantedDone, wantedAnew := fmt.Sprint(toldRecLift(plainBook, plain)), recordText(anew)
		if fmt.Sprint(d) != wantedDone {
			t.Errorf("%v", d)
		}
		for _, e := range slices.Concat(d.Outs, anew.Events) {
			spoilSpare(e.Body)
		}
		if recordText(anew) != wantedAnew || fmt.Sprint(d) != wantedDone {
			t.Error("lists of an answer share their memory")
		}
		wipeRecord(record{Events: d.Outs})
		if recordText(anew) != wantedAnew {
			t.Error("two answers share their memory")
		}
		wipeRecord(anew)
		wantSpareRecord(t, r, plain)
		wantSpareBook(t, "lifting a record", book)
		if !sameBook(book, plainBook) {
			t.Error("the book was changed")
		}
		if again, twice := impl.RecAnew(book, r); recordText(again) != wantedAnew || twice != code {
			t.Error("an answer shares something")
		}
	}
}
