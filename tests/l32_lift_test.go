package tests

import (
	"fmt"
	"math"
	"math/rand"
	"slices"
	"strings"
	"testing"

	"loop.example/teagle/impl"
)

type chainDone = impl.ChainDone

// toldLifted is by itself what comes of an event of a book that is ok.
func toldLifted(book []chainType, e event) chainDone {
	at := slices.IndexFunc(book, func(c chainType) bool { return c.Name == e.Type })
	if at < 0 || e.Version < 1 || e.Version > len(book[at].Versions) {
		return chainDone{Code: 8, Type: e.Type, Version: e.Version}
	}
	v := book[at].Versions[e.Version-1]
	if !okTree(e.Body) || !isOf(v.Kind, e.Body) {
		return chainDone{Code: 9, Type: e.Type, Version: e.Version}
	}
	if e.Version == len(book[at].Versions) {
		return chainDone{Outs: []event{e}}
	}
	d := toldRun(v.Lift, e.Body)
	if d.Code != 0 {
		return chainDone{Code: d.Code, Why: d.Why, Type: e.Type, Version: e.Version}
	}
	all := chainDone{}
	for _, out := range d.Outs {
		part := ev(out.Name, out.Version, out.Body)
		if out.Name == "" {
			part = ev(e.Type, e.Version+1, out.Body)
		}
		done := toldLifted(book, part)
		if done.Code != 0 {
			return done
		}
		all.Outs = append(all.Outs, done.Outs...)
	}
	return all
}

func sameChainDone(a, b chainDone) bool {
	return a.Code == b.Code && a.Why == b.Why && a.Type == b.Type && a.Version == b.Version && slices.EqualFunc(a.Outs, b.Outs, sameEvent)
}

// liftedText tells what came of lifting: events with a space between, or the code, the number and whose upcaster stopped.
func liftedText(d chainDone) string {
	if d.Code != 0 || d.Why != 0 || d.Type != "" || d.Version != 0 {
		return fmt.Sprintf("stop %d %d %s@%d", d.Code, d.Why, d.Type, d.Version) + strings.Repeat(" and outs", len(d.Outs))
	}
	var texts []string
	for _, e := range d.Outs {
		texts = append(texts, textOfEvent(e))
	}
	return strings.Join(texts, " ")
}

// wantLiftedEvent: what comes of an event, by both ways; P31, P32 and P33 hold. The tests themselves tell the same.
func wantLiftedEvent(t *testing.T, book []chainType, e event, wanted string) {
	t.Helper()
	d := impl.ChainLift(book, e)
	if got := liftedText(d); got != wanted {
		t.Errorf("%s@%d %v: %.300s, wanted %.300s", e.Type, e.Version, e.Body, got, wanted)
	}
	if code := impl.ChainByCode(book, e); !sameChainDone(code, d) {
		t.Errorf("%s@%d %v: by code %.300s, wanted %.300s", e.Type, e.Version, e.Body, liftedText(code), wanted)
	}
	wantLiftedSound(t, book, e, d)
}

// wantLiftedSound is P31 and P33 for what came of an event.
func wantLiftedSound(t *testing.T, book []chainType, e event, d chainDone) {
	t.Helper()
	if d.Code != 0 && len(d.Outs) > 0 || d.Code != impl.StopRefused && d.Why != 0 || len(d.Outs) > impl.ChainFan(book, e.Type, e.Version) || len(d.Outs) > impl.ChainMaxFan || d.Code < 0 || d.Code > 9 || d.Code == impl.StopLong {
		t.Errorf("%s@%d: %.300s, the fan being %d", e.Type, e.Version, liftedText(d), impl.ChainFan(book, e.Type, e.Version))
	}
	for _, out := range d.Outs {
		if !impl.ChainNewest(book, out) || !okEvent(out) {
			t.Errorf("%s is not of the newest version", textOfEvent(out))
		}
		for _, again := range []chainDone{impl.ChainLift(book, out), impl.ChainByCode(book, out)} {
			if !sameChainDone(again, chainDone{Outs: []event{out}}) {
				t.Errorf("%s becomes %s when it is lifted again", textOfEvent(out), liftedText(again))
			}
		}
	}
	newest := d.Code == 0 && slices.ContainsFunc(book, func(c chainType) bool { return c.Name == e.Type && len(c.Versions) == e.Version })
	if impl.ChainNewest(book, e) != newest {
		t.Errorf("%s@%d is newest: %v", e.Type, e.Version, !newest)
	}
}

// wantLifted: what comes of the event of a text in the book of a text that is ok.
func wantLifted(t *testing.T, book []chainType, s, wanted string) {
	t.Helper()
	e, ok := impl.EventRead(s)
	if !ok {
		t.Fatalf("%q is no event", s)
	}
	wantLiftedEvent(t, book, e, wanted)
	if told := liftedText(toldLifted(book, e)); told != wanted {
		t.Errorf("%s: the tests themselves tell %.300s, wanted %.300s", s, told, wanted)
	}
}

// P31, P32, P33: the document's own book, and ordinary ones, whose outs are known.
func TestChainLiftOrdinary(t *testing.T) {
	book := bookOf(t, theExample)
	for _, row := range [][2]string{
		{`order@1{items:[4,9],who:"ann"}`, `order@3{id:4,tag:~} audit@1{who:"ann"} order@3{id:9,tag:~} audit@1{who:"ann"}`}, {`order@1{items:[],who:"ann"}`, ""}, {`order@1{items:[7],who:""}`, `order@3{id:7,tag:~} audit@1{who:""}`}, {"order@2{id:4}", "order@3{id:4,tag:~}"}, {`order@3{id:4,tag:?"x"}`, `order@3{id:4,tag:?"x"}`}, {`audit@1{who:"bob"}`, `audit@1{who:"bob"}`},
		{`audit@2{who:""}`, "stop 8 0 audit@2"}, {"nobody@1{}", "stop 8 0 nobody@1"}, {"order@2{id:yes}", "stop 9 0 order@2"}, {"order@4{id:1,tag:~}", "stop 8 0 order@4"}, {"order@3{id:1}", "stop 9 0 order@3"}, {"order@1{id:4}", "stop 9 0 order@1"}, {`order@1{items:[4,"q"],who:"ann"}`, "stop 9 0 order@1"}, {`order@1{items:[4],who:"ann",z:1}`, "stop 9 0 order@1"}, {"order@2{}", "stop 9 0 order@2"},
	} {
		wantLifted(t, book, row[0], row[1])
	}
	steps := bookOf(t, "type a\nversion {n:num}\nlift emit form n mul get n old 10 end\nversion {n:num}\nlift emit form n add get n old 1 end\nversion {n:num}\nlift emit form n mul get n old 2 end\nversion {n:num}\ntype b\nversion {}")
	for i, wanted := range []string{"a@4{n:62}", "a@4{n:8}", "a@4{n:6}", "a@4{n:3}"} {
		wantLifted(t, steps, fmt.Sprintf("a@%d{n:3}", i+1), wanted)
	}
	wantLifted(t, steps, "b@1{}", "b@1{}")
	twelve := "type a\nversion {n:num}\n" + strings.Repeat("lift emit form n add get n old 1 end\nversion {n:num}\n", 11)
	for version := 1; version <= 12; version++ {
		wantLifted(t, bookOf(t, twelve), fmt.Sprintf("a@%d{n:0}", version), fmt.Sprintf("a@12{n:%d}", 12-version))
	}
	// None, one, as many as there may be.
	wide := bookOf(t, "type a\nversion {l:[num]}\nlift each x get l old emit form l get l old x x end\nversion {l:[num],x:num}\nlift each y get l old emit form x add mul get x old 100 y end\nversion {x:num}")
	var all []string
	for x := range 20 {
		for y := range 20 {
			all = append(all, fmt.Sprintf("a@3{x:%d}", 100*(x+1)+y+1))
		}
	}
	wantLifted(t, wide, "a@1{l:"+elements(20)+"}", strings.Join(all, " "))
	wantLifted(t, wide, "a@1{l:[]}", "")
	wantLifted(t, wide, "a@1{l:[5]}", "a@3{x:505}")
	wantLifted(t, wide, "a@2{l:[5,6],x:1}", "a@3{x:105} a@3{x:106}")
}

// Each part up to the end, ahead of the next one.
func TestChainLiftOrder(t *testing.T) {
	book := bookOf(t, `type a
version {n:num}
lift both emit form n 1 end both send b 1 form n 2 end both emit form n 3 end both send c 2 form n 4 end send b 2 form n 5 end
version {n:num}
lift both emit form n mul get n old 10 end send c 1 form n add 100 get n old end
version {n:num}
type b
version {n:num}
lift both emit form n add get n old 20 end both emit old send c 2 form n add get n old 50 end
version {n:num}
lift both send c 1 form n get n old end emit form n sub 0 get n old end
version {n:num}
type c
version {n:num}
lift both emit old emit form n 0 end
version {n:num}
`)
	wantLifted(t, book, "c@2{n:7}", "c@2{n:7}")
	wantLifted(t, book, "c@1{n:7}", "c@2{n:7} c@2{n:0}")
	wantLifted(t, book, "b@2{n:7}", "c@2{n:7} c@2{n:0} b@3{n:-7}")
	wantLifted(t, book, "b@1{n:7}", "c@2{n:27} c@2{n:0} b@3{n:-27} c@2{n:7} c@2{n:0} b@3{n:-7} c@2{n:57}")
	wantLifted(t, book, "a@2{n:7}", "a@3{n:70} c@2{n:107} c@2{n:0}")
	wantLifted(t, book, "a@1{n:7}", "a@3{n:10} c@2{n:101} c@2{n:0} c@2{n:22} c@2{n:0} b@3{n:-22} c@2{n:2} c@2{n:0} b@3{n:-2} c@2{n:52} a@3{n:30} c@2{n:103} c@2{n:0} c@2{n:4} c@2{n:5} c@2{n:0} b@3{n:-5}")
}

// Each code with which an upcaster stops, in the first, the second and the last one, behind others that were done: whose upcaster stopped, and nothing else.
func TestChainLiftStops(t *testing.T) {
	stops := []struct {
		action, wanted string
	}{
		{"take z add 999999999 1 drop", "stop 1 0"}, {"take z div 1 0 drop", "stop 2 0"}, {"take z at empty num 0 drop", "stop 3 0"}, {"take z join " + `"` + strings.Repeat("q", 60) + `" "q"` + " drop", "stop 4 0"}, {"fail 0", "stop 5 0"}, {"fail 33", "stop 5 33"}, {"fail 99", "stop 5 99"},
	}
	for _, stop := range stops {
		for at := 1; at <= 3; at++ {
			lines := "type a\nversion {n:num}\n"
			for version := 1; version <= 3; version++ {
				action := "both emit old send b 1 old"
				if version == at {
					action = "choose same get n old 5 " + stop.action + " " + action
				}
				lines += "lift " + action + "\nversion {n:num}\n"
			}
			book := bookOf(t, lines+"type b\nversion {n:num}")
			for version := 1; version <= 4; version++ {
				wanted := fmt.Sprintf("%s a@%d", stop.wanted, at)
				if version > at {
					wanted = strings.Repeat("a@4{n:5}", 1) + strings.Repeat(" b@1{n:5}", 4-version)
				}
				wantLifted(t, book, fmt.Sprintf("a@%d{n:5}", version), wanted)
				wantLifted(t, book, fmt.Sprintf("a@%d{n:4}", version), "a@4{n:4}"+strings.Repeat(" b@1{n:4}", 4-version))
			}
		}
		// In a type behind, behind events that were made, and ahead of an upcaster that would stop otherwise.
		book := bookOf(t, "type a\nversion {n:num}\nlift both emit old both send b 1 old fail 77\nversion {n:num}\nlift drop\nversion {n:num}\ntype b\nversion {n:num}\nlift "+stop.action+"\nversion {n:num}")
		wantLifted(t, book, "a@1{n:1}", "stop 5 77 a@1")
		book = bookOf(t, "type a\nversion {n:num}\nlift both emit old both send b 2 old send b 1 old\nversion {n:num}\nlift emit old\nversion {n:num}\nlift drop\nversion {n:num}\ntype b\nversion {n:num}\nlift fail 78\nversion {n:num}\nlift "+stop.action+"\nversion {n:num}")
		wantLifted(t, book, "a@1{n:1}", stop.wanted+" b@2")
		wantLifted(t, book, "b@1{n:1}", "stop 5 78 b@1")
		wantLifted(t, book, "a@2{n:1}", "")
	}
	// The first part that stops counts, each part being gone through to its end.
	book := bookOf(t, "type a\nversion {n:num}\nlift both emit old emit form n sub get n old 1 end\nversion {n:num}\nlift choose same get n old 0 fail 33 emit form n div 6 get n old end\nversion {n:num}")
	wantLifted(t, book, "a@1{n:3}", "a@3{n:2} a@3{n:3}")
	wantLifted(t, book, "a@1{n:1}", "stop 5 33 a@2")
	wantLifted(t, book, "a@1{n:0}", "stop 5 33 a@2")
	wantLifted(t, book, "a@1{n:-999999999}", "stop 1 0 a@1")
	book = bookOf(t, "type a\nversion {n:num}\nlift both send c 1 old send b 1 old\nversion {n:num}\ntype b\nversion {n:num}\nlift fail 1\nversion {n:num}\ntype c\nversion {n:num}\nlift both emit old emit old\nversion {n:num}\nlift fail 2\nversion {n:num}")
	wantLifted(t, book, "a@1{n:1}", "stop 5 2 c@2")
	// An upcaster is run as a whole ahead of what it makes being lifted.
	book = bookOf(t, "type a\nversion {n:num}\nlift both emit old fail 1\nversion {n:num}\nlift fail 2\nversion {n:num}")
	wantLifted(t, book, "a@1{n:1}", "stop 5 1 a@1")
}

// Books that are not ok, events that are not known, and two of these at once.
func TestChainLiftUnknown(t *testing.T) {
	good := goodBook(t)
	fine, untyped := ev("a", 1, form("n", num(1))), ev("a", 1, form("n", text("q")))
	for i, s := range spoilings(t) {
		book := s.spoil(copyBook(good))
		for _, e := range []event{fine, untyped, ev("nobody", 1, form("n", num(1))), ev("a", 0, form("")), ev("c", 3, form("n", num(1)))} {
			if i%5 == 0 || e.Type == "c" {
				wantLiftedEvent(t, book, e, "stop 6 0 @0")
			}
		}
	}
	wantLiftedEvent(t, nil, fine, "stop 8 0 a@1")
	wantLiftedEvent(t, []chainType{}, event{}, "stop 8 0 @0")
	for _, row := range []struct {
		e      event
		wanted string
	}{
		{ev("d", 1, form("n", num(1))), "stop 8 0 d@1"}, {ev("", 1, form("n", num(1))), "stop 8 0 @1"}, {ev("A", 1, form("n", num(1))), "stop 8 0 A@1"}, {ev("no name\n", 1, form("n", num(1))), "stop 8 0 no name\n@1"},
		{ev("a", 0, form("n", num(1))), "stop 8 0 a@0"}, {ev("a", -1, form("n", num(1))), "stop 8 0 a@-1"}, {ev("a", 4, form("n", num(1))), "stop 8 0 a@4"}, {ev("b", 3, form("n", num(1))), "stop 8 0 b@3"}, {ev("a", 13, form("n", num(1))), "stop 8 0 a@13"}, {ev("a", math.MaxInt, form("n", num(1))), fmt.Sprint("stop 8 0 a@", math.MaxInt)}, {ev("a", math.MinInt, form("n", num(1))), fmt.Sprint("stop 8 0 a@", math.MinInt)},
		{untyped, "stop 9 0 a@1"}, {ev("a", 3, form("n", text("q"))), "stop 9 0 a@3"}, {ev("a", 1, form("")), "stop 9 0 a@1"}, {ev("a", 1, num(1)), "stop 9 0 a@1"}, {ev("a", 1, tree{}), "stop 9 0 a@1"}, {ev("a", 1, form("n", num(1000000000))), "stop 9 0 a@1"}, {ev("a", 1, tree{Sort: impl.TreeForm, Names: []string{"n"}}), "stop 9 0 a@1"}, {ev("a", 1, form("m n", num(1), num(1))), "stop 9 0 a@1"}, {ev("c", 3, form("n", maybe())), "stop 9 0 c@3"},
		// Two of these at once: the version ahead of the body.
		{ev("d", 1, num(1)), "stop 8 0 d@1"}, {ev("a", 0, tree{}), "stop 8 0 a@0"}, {ev("d", 99, tree{}), "stop 8 0 d@99"},
	} {
		wantLiftedEvent(t, good, row.e, row.wanted)
		if impl.ChainNewest(good, row.e) {
			t.Errorf("%v is newest", row.e)
		}
		if told := liftedText(toldLifted(good, row.e)); told != row.wanted {
			t.Errorf("%v: the tests themselves tell %s, wanted %s", row.e, told, row.wanted)
		}
	}
	for _, row := range []struct {
		e      event
		newest bool
	}{{ev("a", 3, form("n", num(1))), true}, {ev("b", 2, form("n", num(1))), true}, {ev("c", 3, form("n", num(1))), true}, {ev("a", 2, form("n", num(1))), false}, {ev("a", 1, form("n", num(1))), false}, {ev("b", 1, form("n", num(1))), false}} {
		if impl.ChainNewest(good, row.e) != row.newest {
			t.Errorf("%s is newest: %v", textOfEvent(row.e), !row.newest)
		}
	}
}

// P31, P32, P33: many books and events by chance.
func TestChainLiftMany(t *testing.T) {
	t.Parallel()
	r := rand.New(rand.NewSource(31))
	codes, several, far := map[int]int{}, 0, 0
	for range 1200 {
		book := chanceBook(t, r)
		if impl.ChainCheck(book).Code != 0 {
			continue
		}
		for _, one := range book {
			for i, v := range one.Versions {
				e := ev(one.Name, i+1, bodyOf(r, v.Kind))
				if r.Intn(20) == 0 {
					e.Body = bodyOf(r, readKind(t, chanceForms[r.Intn(len(chanceForms))]))
				}
				if r.Intn(40) == 0 {
					e.Version += r.Intn(5) - 2
				}
				d := impl.ChainLift(book, e)
				if told := toldLifted(book, e); !sameChainDone(d, told) {
					t.Fatalf("%s %s: %s, but the tests tell %s", toldLines(book), textOfEvent(e), liftedText(d), liftedText(told))
				}
				if code := impl.ChainByCode(book, e); !sameChainDone(code, d) {
					t.Fatalf("%s %s: %s, but by code %s", toldLines(book), textOfEvent(e), liftedText(d), liftedText(code))
				}
				if len(d.Outs) < 30 {
					wantLiftedSound(t, book, e, d)
				}
				codes[d.Code]++
				if len(d.Outs) > 1 {
					several++
				}
				if d.Code > 0 && d.Code < 8 && (d.Version != e.Version || d.Type != e.Type) {
					far++
				}
			}
		}
	}
	for _, code := range []int{0, 1, 2, 3, 4, 5, 8, 9} {
		if codes[code] < 3 {
			t.Errorf("%v", codes)
		}
	}
	if several < 100 || far < 20 {
		t.Errorf("%d become several, %d stop further on", several, far)
	}
}

// Every function answers at every argument: at bodies, schemas and nodes that hold themselves.
func TestChainLiftWithoutEnd(t *testing.T) {
	t.Parallel()
	trees := make([]tree, 1)
	trees[0] = tree{Sort: impl.TreeForm, Names: []string{"n"}, Kids: trees}
	self := nBoth(nDrop(), nDrop())
	self.Kids[0], self.Kids[1] = self, self
	wantLiftedEvent(t, goodBook(t), ev("a", 1, trees[0]), "stop 9 0 a@1")
	wantLiftedEvent(t, goodBook(t), ev("a", 3, list(make([]tree, 1000000)...)), "stop 9 0 a@3")
	bad := goodBook(t)
	bad[0].Versions[0].Lift = self
	wantLiftedEvent(t, bad, ev("a", 1, trees[0]), "stop 6 0 @0")
	long := strings.Repeat("a", 1000000)
	if d := impl.ChainLift(goodBook(t), ev(long, 1, form(""))); d.Code != 8 || d.Type != long {
		t.Error("a long name")
	}
	// Nothing comes of very many events, as the next upcaster drops them.
	v := "\nversion {l:[num]}\n"
	book := bookOf(t, "type a"+v+"lift each x get l old each y get l old emit old"+v+"lift each x get l old emit old"+v+"lift drop"+v)
	wantLifted(t, book, "a@1{l:"+elements(20)+"}", "")
	// Fans do not bound how many of these there are: each of them is one of few that are unlike.
	each := "lift each x get l old each y get l old emit form l get l old x add x y end"
	w := "\nversion {l:[num],x:num}\n"
	for _, row := range [][2]string{{"drop", ""}, {"choose less get x old 40 drop fail 8", "stop 5 8 a@11"}, {"choose same get x old 39 take z div 1 0 drop drop", "stop 2 0 a@11"}} {
		book := bookOf(t, "type a"+w+strings.Repeat(each+w, 10)+"lift "+row[0]+w)
		e, _ := impl.EventRead("a@1{l:" + elements(20) + ",x:0}")
		wantLiftedEvent(t, book, e, row[1])
		e.Version = 10
		wantLiftedEvent(t, book, e, row[1])
	}
	// The empty list and the nil list are the same value.
	for _, body := range []tree{{Sort: impl.TreeForm}, {Sort: impl.TreeForm, Names: []string{}, Kids: []tree{}}} {
		book := []chainType{{Name: "a", Versions: []chainVersion{{Kind: kForm(""), Lift: nEmit(nName("old"))}, {Kind: kForm(""), Lift: node{Names: []string{}, Kids: []node{}}}}}}
		wantLiftedEvent(t, book, ev("a", 1, body), "a@2{}")
		wantLiftedEvent(t, book, ev("a", 2, body), "a@2{}")
	}
}

// Nothing is written into an argument, and every answer is new memory.
func TestChainLiftMemory(t *testing.T) {
	plain := bookOf(t, "type longname\nversion {a:num,l:[{t:text}],o:{x:num}}\nlift both emit old both emit old both send other 1 form a old b old end emit put a old 1\nversion {a:num,l:[{t:text}],o:{x:num}}\ntype other\nversion {a:{a:num,l:[{t:text}],o:{x:num}},b:{a:num,l:[{t:text}],o:{x:num}}}")
	body := readTree(t, `{a:1,l:[{t:"long text"},{t:"other text"}],o:{x:1}}`)
	for version := 1; version <= 2; version++ {
		for way, lift := range map[string]func([]chainType, event) chainDone{"ChainLift": impl.ChainLift, "ChainByCode": impl.ChainByCode} {
			book, e := spareBook(plain), ev("longname", version, spareTree(body))
			d := lift(book, e)
			impl.ChainNewest(book, e)
			if d.Code != 0 || !sameBook(book, plain) || !sameTree(e.Body, body) {
				t.Errorf("%s: something was changed: %s", way, liftedText(d))
			}
			wantSpareBook(t, way, book)
			wantSpareTree(t, way, e.Body)
			texts := append(textsOf(e.Body), e.Type)
			for _, one := range book {
				texts = append(texts, one.Name)
				for _, v := range one.Versions {
					texts = append(append(texts, namesOf(v.Kind)...), liftTexts(v.Lift)...)
				}
			}
			wantListsApart(t, way, func() tree {
				all := list()
				for _, out := range lift(book, e).Outs {
					wantTextsApart(t, append(textsOf(out.Body), out.Type), texts)
					all.Kids = append(all.Kids, out.Body)
				}
				return all
			})
			for i := range d.Outs {
				spoilAll(d.Outs[i].Body)
				d.Outs[i] = event{}
			}
			if !sameBook(book, plain) || !sameTree(e.Body, body) || !sameChainDone(lift(book, e), toldLifted(plain, ev("longname", version, body))) {
				t.Errorf("%s: an answer shares something", way)
			}
		}
	}
	e := ev(strings.Clone("unknown!"), 1, form(""))
	if d := impl.ChainLift(plain, e); lies(d.Type, e.Type) || d.Type != "unknown!" {
		t.Error("the name of what is not known is shared")
	}
}
