package tests

import (
	"fmt"
	"math/rand"
	"slices"
	"testing"

	"loop.example/teagle/impl"
)

// toldAdd is by itself a book to which a version, or a type, is added, and what is wrong.
func toldAdd(book []chainType, name string, k kind, lift node) ([]chainType, chainFault) {
	if f := toldBook(book); f.Code != 0 {
		return nil, f
	}
	more := copyBook(book)
	at := slices.IndexFunc(more, func(c chainType) bool { return c.Name == name })
	if at < 0 {
		more = append(more, chainType{Name: name, Versions: []chainVersion{{Kind: k, Lift: lift}}})
	} else {
		vs := more[at].Versions
		vs[len(vs)-1].Lift = lift
		more[at].Versions = append(vs, chainVersion{Kind: k})
	}
	if f := toldBook(more); f.Code != 0 {
		return book, f
	}
	return more, chainFault{}
}

// toldGrown is by itself whether a book has grown out of another one.
func toldGrown(old, book []chainType) bool {
	if toldBook(old).Code != 0 || toldBook(book).Code != 0 || len(old) > len(book) {
		return false
	}
	for i, one := range old {
		if one.Name != book[i].Name || len(one.Versions) > len(book[i].Versions) {
			return false
		}
		for j, v := range one.Versions {
			now := book[i].Versions[j]
			if textOf(v.Kind) != textOf(now.Kind) || j < len(one.Versions)-1 && !sameNode(v.Lift, now.Lift) {
				return false
			}
		}
	}
	return true
}

// wantAdd: what comes of adding, and P36. It is the book with it.
func wantAdd(t *testing.T, book []chainType, name string, k kind, lift node, wanted chainFault) []chainType {
	t.Helper()
	before := copyBook(book)
	added, f := impl.ChainAdd(book, name, k, lift)
	told, toldFault := toldAdd(book, name, k, lift)
	if f != wanted || !sameBook(added, told) {
		t.Errorf("%q added: %+v, wanted %+v\n%s", name, f, wanted, impl.ChainWrite(added))
	}
	if toldFault != wanted {
		t.Errorf("%q added: the tests themselves tell %+v, wanted %+v", name, toldFault, wanted)
	}
	if !sameBook(book, before) {
		t.Errorf("%q added: the book was changed", name)
	}
	if impl.ChainCheck(book).Code != 0 {
		if len(added) != 0 || f.Code == 0 {
			t.Errorf("%q added to a book that is not ok: %+v", name, f)
		}
		return nil
	}
	if f.Code != 0 {
		if !sameBook(added, before) {
			t.Errorf("%q refused: the book is not as it was", name)
		}
		return added
	}
	if !impl.ChainGrown(book, added) || impl.ChainGrown(added, book) {
		t.Errorf("%q added: grown %v, and the other way %v", name, impl.ChainGrown(book, added), impl.ChainGrown(added, book))
	}
	wantGrown(t, book, added, true)
	return added
}

// wantGrown: whether a book has grown out of another one; P37 holds. The tests themselves tell the same.
func wantGrown(t *testing.T, old, book []chainType, wanted bool) {
	t.Helper()
	if impl.ChainGrown(old, book) != wanted || toldGrown(old, book) != wanted {
		t.Errorf("grown %v, the tests themselves tell %v, wanted %v:\n%s\n%s", impl.ChainGrown(old, book), toldGrown(old, book), wanted, impl.ChainWrite(old), impl.ChainWrite(book))
	}
	for _, one := range [][]chainType{old, book} {
		if impl.ChainGrown(one, one) != (impl.ChainCheck(one).Code == 0) {
			t.Error("a book has not grown out of itself")
		}
	}
	if !wanted {
		return
	}
	for _, one := range old {
		if fan := impl.ChainFan(book, one.Name, len(one.Versions)); fan > impl.ChainMaxFan {
			t.Errorf("%s: a fan of %d", one.Name, fan)
		}
	}
}

// wantByAnyWay is P30: an event that is known to the older book is lifted at once just if it is by the older one and then each part by the book. It is whether it stops.
func wantByAnyWay(t *testing.T, old, book []chainType, e event) bool {
	t.Helper()
	at := impl.ChainLift(book, e)
	first := impl.ChainLift(old, e)
	stops, outs := first.Code != 0, []event{}
	for _, part := range first.Outs {
		d := impl.ChainLift(book, part)
		stops = stops || d.Code != 0
		outs = append(outs, d.Outs...)
	}
	if (at.Code != 0) != stops || !stops && !slices.EqualFunc(at.Outs, outs, sameEvent) {
		t.Errorf("%s: at once %.300s, by the older book first %.300s", textOfEvent(e), liftedText(at), liftedText(chainDone{Outs: outs}))
	}
	return stops
}

// P36: ordinary books to which types and versions are added, whose books are known.
func TestGrowOrdinary(t *testing.T) {
	a, bare := readKind(t, "{a:num}"), kForm("")
	send, emit := readLift(t, "send y 1 form end"), readLift(t, "emit form a get a old end")
	written := func(book []chainType, wanted string) {
		t.Helper()
		if s := impl.ChainWrite(book); s != wanted {
			t.Errorf("%q, wanted %q", s, wanted)
		}
	}
	none := []chainType(nil)
	one := wantAdd(t, none, "x", a, node{}, chainFault{})
	written(one, "type x\nversion {a:num}\n")
	two := wantAdd(t, one, "y", bare, node{}, chainFault{})
	written(two, "type x\nversion {a:num}\ntype y\nversion {}\n")
	three := wantAdd(t, two, "x", bare, send, chainFault{})
	written(three, "type x\nversion {a:num}\nlift send y 1 form end\nversion {}\ntype y\nversion {}\n")
	four := wantAdd(t, three, "y", bare, readLift(t, "both emit old emit old"), chainFault{})
	written(four, "type x\nversion {a:num}\nlift send y 1 form end\nversion {}\ntype y\nversion {}\nlift both emit old emit old\nversion {}\n")
	five := wantAdd(t, four, "x", a, readLift(t, "emit form a 5 end"), chainFault{})
	six := wantAdd(t, five, "x", a, emit, chainFault{})
	seven := wantAdd(t, six, "z", a, node{}, chainFault{})
	written(seven, "type x\nversion {a:num}\nlift send y 1 form end\nversion {}\nlift emit form a 5 end\nversion {a:num}\nlift emit form a get a old end\nversion {a:num}\ntype y\nversion {}\nlift both emit old emit old\nversion {}\ntype z\nversion {a:num}\n")
	steps := [][]chainType{none, one, two, three, four, five, six, seven}
	for i, old := range steps {
		for j, book := range steps {
			wantGrown(t, old, book, i <= j)
		}
		for _, c := range old {
			for version := range c.Versions {
				for _, later := range steps[i:] {
					wantByAnyWay(t, old, later, ev(c.Name, version+1, firstOf(c.Versions[version].Kind)))
				}
			}
		}
	}
	// The document's own book, version by version.
	example := bookOf(t, theExample)
	book := wantAdd(t, nil, "order", example[0].Versions[0].Kind, node{}, chainFault{})
	book = wantAdd(t, book, "audit", example[1].Versions[0].Kind, node{}, chainFault{})
	before := book
	for i := range 2 {
		book = wantAdd(t, book, "order", example[0].Versions[i+1].Kind, example[0].Versions[i].Lift, chainFault{})
	}
	if !sameBook(book, example) {
		t.Errorf("%s", impl.ChainWrite(book))
	}
	e, _ := impl.EventRead(`order@1{items:[4,9],who:"ann"}`)
	wantByAnyWay(t, before, book, e)
	wantGrown(t, before, example, true)
}

// P36: what a refused adding leaves, and its fault.
func TestGrowRefused(t *testing.T) {
	good := goodBook(t)
	n := readKind(t, "{n:num}")
	old := readLift(t, "emit old")
	for _, row := range []struct {
		name   string
		k      kind
		lift   node
		wanted chainFault
	}{
		{"", n, node{}, chainFault{Code: 2, Type: 4}}, {"A", n, node{}, chainFault{Code: 2, Type: 4}}, {"ninebytes", n, node{}, chainFault{Code: 2, Type: 4}}, {"A", kind{}, nDrop(), chainFault{Code: 2, Type: 4}},
		{"d", n, nDrop(), chainFault{Code: 5, Type: 4, Version: 1}}, {"d", n, node{Num: 1}, chainFault{Code: 5, Type: 4, Version: 1}}, {"d", n, node{Names: []string{""}}, chainFault{Code: 5, Type: 4, Version: 1}}, {"d", kind{}, node{}, chainFault{Code: 4, Type: 4, Version: 1}}, {"d", kNum, nDrop(), chainFault{Code: 4, Type: 4, Version: 1}}, {"d", kFields(40, kNum), node{}, chainFault{Code: 4, Type: 4, Version: 1}},
		{"a", kind{}, old, chainFault{Code: 4, Type: 1, Version: 4}}, {"c", kList(n), old, chainFault{Code: 4, Type: 3, Version: 4}}, {"a", n, node{}, chainFault{Code: 6, Type: 1, Version: 3, Lift: fault{Code: 2}}}, {"c", n, node{}, chainFault{Code: 6, Type: 3, Version: 3, Lift: fault{Code: 2}}}, {"b", n, nNum(1), chainFault{Code: 6, Type: 2, Version: 2, Lift: fault{Code: 2}}}, {"b", kForm(""), old, chainFault{Code: 6, Type: 2, Version: 2, Lift: fault{Code: 6, At: 1}}}, {"b", n, readLift(t, "both drop emit x"), chainFault{Code: 6, Type: 2, Version: 2, Lift: fault{Code: 5, At: 3}}}, {"b", n, readLift(t, "send a 1 old"), chainFault{Code: 6, Type: 2, Version: 2, Lift: fault{Code: 5}}}, {"b", n, readLift(t, "send b 1 old"), chainFault{Code: 6, Type: 2, Version: 2, Lift: fault{Code: 5}}}, {"b", n, readLift(t, "send c 4 old"), chainFault{Code: 6, Type: 2, Version: 2, Lift: fault{Code: 5}}},
		{"a", n, old, chainFault{}}, {"b", n, readLift(t, "send c 3 old"), chainFault{}}, {"b", n, readLift(t, "send c 1 old"), chainFault{}}, {"c", n, old, chainFault{}}, {"d", n, node{}, chainFault{}},
	} {
		wantAdd(t, good, row.name, row.k, row.lift, row.wanted)
	}
	// A book that is not ok: nothing, and its fault, whatever is added.
	for _, s := range spoilings(t) {
		book := s.spoil(copyBook(good))
		wantAdd(t, book, "d", n, node{}, s.wanted)
		wantAdd(t, book, "A", kind{}, nDrop(), s.wanted)
		wantGrown(t, good, book, false)
		wantGrown(t, book, good, false)
		wantGrown(t, book, book, false)
		wantGrown(t, nil, book, false)
	}
}

// P36: adding at the bounds.
func TestGrowBounds(t *testing.T) {
	bare, old := kForm(""), readLift(t, "emit old")
	// As many types, and versions, as there may be.
	var book []chainType
	for i := range 8 {
		book = wantAdd(t, book, fmt.Sprint("t", i), bare, node{}, chainFault{})
	}
	wantAdd(t, book, "t8", bare, node{}, chainFault{Code: 1})
	wantAdd(t, book, "T", bare, node{}, chainFault{Code: 1})
	for _, name := range []string{"t0", "t7"} {
		for version := 2; version <= 12; version++ {
			book = wantAdd(t, book, name, bare, old, chainFault{})
		}
	}
	wantAdd(t, book, "t0", bare, old, chainFault{Code: 3, Type: 1})
	wantAdd(t, book, "t7", bare, old, chainFault{Code: 3, Type: 8})
	wantAdd(t, book, "t3", bare, old, chainFault{})
	// A fan of just ChainMaxFan.
	l := "\nversion {l:[num]}\n"
	wide := bookOf(t, "type a"+l+"lift each x get l old emit old"+l+"lift each x get l old emit old"+l+"type b"+l)
	k := readKind(t, "{l:[num]}")
	wantAdd(t, wide, "a", k, old, chainFault{})
	wantAdd(t, wide, "a", k, readLift(t, "drop"), chainFault{})
	wantAdd(t, wide, "a", k, readLift(t, "both emit old emit old"), chainFault{Code: 7, Type: 1, Version: 1})
	wantAdd(t, wide, "a", k, readLift(t, "both emit old send b 1 old"), chainFault{Code: 7, Type: 1, Version: 1})
	wantAdd(t, wide, "b", k, readLift(t, "each x get l old emit old"), chainFault{})
	// By what is added behind, a type ahead may become too wide.
	sends := bookOf(t, "type a"+l+"lift each x get l old send b 1 old"+l+"type b"+l)
	wantAdd(t, sends, "b", k, readLift(t, "each x get l old emit old"), chainFault{})
	wantAdd(t, sends, "b", k, readLift(t, "each x get l old both emit old emit old"), chainFault{Code: 7, Type: 1, Version: 1})
	// A text of just ChainMaxText bytes, and one more.
	for _, bytes := range []int{40000, 40001} {
		line := "type c\nversion {}\n"
		long := longBook(t, bytes-len(line))
		wanted := chainFault{}
		if bytes > 40000 {
			wanted.Code = 8
		}
		wantAdd(t, long, "c", bare, node{}, wanted)
	}
	full := longBook(t, 40000)
	wantAdd(t, full, "c", bare, node{}, chainFault{Code: 8})
	wantAdd(t, full, "a", bare, old, chainFault{Code: 3, Type: 1})
}

// P37: what has grown out of what.
func TestGrowGrown(t *testing.T) {
	good := goodBook(t)
	change := func(spoil func(book []chainType) []chainType) []chainType { return spoil(copyBook(good)) }
	n := readKind(t, "{n:num}")
	wantGrown(t, good, good, true)
	wantGrown(t, nil, good, true)
	wantGrown(t, []chainType{}, nil, true)
	wantGrown(t, good, nil, false)
	for i, row := range []struct {
		book            []chainType
		grown, backward bool
	}{
		// The same types in another order, under another name, one fewer, one more.
		{change(func(b []chainType) []chainType { b[0], b[2] = b[2], b[0]; return b }), false, false}, {change(func(b []chainType) []chainType { b[1].Name = "z"; return b }), false, false}, {change(func(b []chainType) []chainType { return b[:2] }), false, true}, {change(func(b []chainType) []chainType { return b[1:] }), false, false}, {change(func(b []chainType) []chainType {
			return append(b, chainType{Name: "d", Versions: []chainVersion{{Kind: n}}})
		}), true, false}, {change(func(b []chainType) []chainType {
			return slices.Insert(b, 1, chainType{Name: "d", Versions: []chainVersion{{Kind: n}}})
		}), false, false},
		// One version fewer.
		{change(func(b []chainType) []chainType {
			b[0].Versions = b[0].Versions[:2]
			b[0].Versions[1].Lift = node{}
			return b
		}), false, true}, {change(func(b []chainType) []chainType { b[1].Versions = b[1].Versions[1:]; return b }), false, true},
		// Another Kind, at the first version and at the last.
		{change(func(b []chainType) []chainType {
			b[0].Versions[0].Kind = kForm("")
			b[0].Versions[0].Lift = readLift(t, "emit form n 1 end")
			return b
		}), false, false}, {change(func(b []chainType) []chainType {
			b[2].Versions[2].Kind = kForm("")
			b[2].Versions[1].Lift = readLift(t, "emit form end")
			return b
		}), false, false}, {change(func(b []chainType) []chainType {
			b[2].Versions[2].Kind = kForm("")
			b[2].Versions[1].Lift = readLift(t, "drop")
			return b
		}), false, false},
		// Another Lift, at a version that is not the last one of either.
		{change(func(b []chainType) []chainType { b[0].Versions[0].Lift = nDrop(); return b }), false, false}, {change(func(b []chainType) []chainType { b[2].Versions[1].Lift = nDrop(); return b }), false, false}, {change(func(b []chainType) []chainType {
			b[1].Versions[0].Lift = readLift(t, "both drop emit old")
			return b
		}), false, false},
		// A Lift at what was the last version.
		{change(func(b []chainType) []chainType {
			b[2].Versions[2].Lift = nDrop()
			b[2].Versions = append(b[2].Versions, chainVersion{Kind: n})
			return b
		}), true, false}, {change(func(b []chainType) []chainType {
			b[0].Versions[2].Lift = readLift(t, "both emit old send c 1 old")
			b[0].Versions = append(b[0].Versions, chainVersion{Kind: n, Lift: readLift(t, "emit old")}, chainVersion{Kind: n})
			return b
		}), true, false},
	} {
		if f := impl.ChainCheck(row.book); f.Code != 0 {
			t.Fatalf("the book %d: %+v", i, f)
		}
		wantGrown(t, good, row.book, row.grown)
		wantGrown(t, row.book, good, row.backward)
	}
	// The second type's only version is the last one of the older book: its Lift may be any.
	short := change(func(b []chainType) []chainType { b[1].Versions = b[1].Versions[1:]; return b })
	for _, lift := range []string{"drop", "emit old", "both emit old send c 1 old", "fail 3"} {
		longer := copyBook(short)
		longer[1].Versions[0].Lift = readLift(t, lift)
		longer[1].Versions = append(longer[1].Versions, chainVersion{Kind: n})
		wantGrown(t, short, longer, true)
	}
}

// P30, P36, P37: books that grow by chance, and events that are lifted by all of their states.
func TestGrowMany(t *testing.T) {
	t.Parallel()
	r := rand.New(rand.NewSource(30))
	added, refused, stops, fine, others := 0, 0, 0, 0, 0
	for range 70 {
		states := [][]chainType{nil}
		for range 14 {
			book := states[len(states)-1]
			name := string(rune('a' + r.Intn(3)))
			k := chanceForms[r.Intn(len(chanceForms))]
			lift := node{}
			if at := slices.IndexFunc(book, func(c chainType) bool { return c.Name == name }); at >= 0 {
				last := len(book[at].Versions) - 1
				more := copyBook(book)
				more[at].Versions = append(more[at].Versions, chainVersion{Kind: readKind(t, k)})
				_, told := sinksBehind(more, at, last)
				for range 9 {
					lift = actionOf(r, bindings{{"old", textOf(book[at].Versions[last].Kind)}}, append(told, told[0], told[0]), 1+r.Intn(4))
					edgy(r, &lift)
					if toldFan(lift).Sign() > 0 {
						break
					}
				}
			}
			wanted, f := toldAdd(book, name, readKind(t, k), lift)
			more := wantAdd(t, book, name, readKind(t, k), lift, f)
			if !sameBook(more, wanted) {
				t.Fatal("another book")
			}
			if f.Code != 0 {
				refused++
				continue
			}
			added++
			states = append(states, more)
		}
		for range 6 {
			i := 1 + r.Intn(len(states)-1)
			j := i + r.Intn(len(states)-i)
			old, book := states[i], states[j]
			wantGrown(t, old, book, true)
			wantGrown(t, book, old, i == j)
			one := old[r.Intn(len(old))]
			version := r.Intn(len(one.Versions))
			for range 3 {
				e := ev(one.Name, version+1, bodyOf(r, one.Versions[version].Kind))
				if wantByAnyWay(t, old, book, e) {
					stops++
				} else {
					fine++
				}
				if !sameChainDone(impl.ChainLift(old, e), impl.ChainLift(book, e)) {
					others++
				}
			}
		}
		if t.Failed() {
			t.FailNow()
		}
	}
	if added < 300 || refused < 10 || stops < 50 || fine < 300 || others < 100 {
		t.Errorf("%d added, %d refused, %d stop, %d are lifted, %d to others", added, refused, stops, fine, others)
	}
}

// Every function answers at every argument; the empty list and the nil list are the same value.
func TestGrowWithoutEnd(t *testing.T) {
	kinds := make([]kind, 1)
	kinds[0] = kind{Sort: impl.TreeForm, Names: []string{"a"}, Kids: kinds}
	self := nBoth(nDrop(), nDrop())
	self.Kids[0], self.Kids[1] = self, self
	good := goodBook(t)
	for _, row := range []struct {
		name   string
		k      kind
		lift   node
		wanted chainFault
	}{{"a", kinds[0], nDrop(), chainFault{Code: 4, Type: 1, Version: 4}}, {"d", kinds[0], node{}, chainFault{Code: 4, Type: 4, Version: 1}}, {"d", kForm(""), self, chainFault{Code: 5, Type: 4, Version: 1}}, {"a", kForm(""), self, chainFault{Code: 6, Type: 1, Version: 3, Lift: fault{Code: 2}}}} {
		if book, f := impl.ChainAdd(good, row.name, row.k, row.lift); f != row.wanted || !sameBook(book, good) {
			t.Errorf("%+v, wanted %+v", f, row.wanted)
		}
	}
	bad := []chainType{{Name: "a", Versions: []chainVersion{{Kind: kinds[0], Lift: self}}}}
	if book, f := impl.ChainAdd(bad, "b", kForm(""), node{}); f.Code != 4 || len(book) != 0 || impl.ChainGrown(bad, bad) || impl.ChainGrown(nil, make([]chainType, 1000000)) {
		t.Errorf("%+v", f)
	}
	for _, book := range [][]chainType{nil, {}} {
		for _, k := range []kind{{Sort: impl.TreeForm}, {Sort: impl.TreeForm, Names: []string{}, Kids: []kind{}}} {
			for _, n := range []node{{}, {Names: []string{}, Kids: []node{}}} {
				one := wantAdd(t, book, "a", k, n, chainFault{})
				wantGrown(t, book, one, true)
				wantGrown(t, []chainType{{Name: "a", Versions: []chainVersion{{Kind: k, Lift: n}}}}, one, true)
			}
		}
	}
}

// Nothing is written into an argument, and every answer is new memory, where it is refused too.
func TestGrowMemory(t *testing.T) {
	plain := bookOf(t, theExample)
	k, lift := readKind(t, "{id:num,longname:[text]}"), readLift(t, `emit form id get id old longname one "long text" end`)
	for what, row := range map[string]struct {
		name string
		k    kind
		lift node
	}{"a version": {"order", k, lift}, "a type": {"newtype", k, node{}}, "refused": {"order", kNum, lift}, "no name": {"No", k, node{}}} {
		book := spareBook(plain)
		more, _ := impl.ChainAdd(book, row.name, row.k, row.lift)
		impl.ChainGrown(book, more)
		if !sameBook(book, plain) || !sameNode(row.lift, copyNode(row.lift)) {
			t.Errorf("%s: the book was changed", what)
		}
		wantSpareBook(t, what, book)
		texts := append(append(namesOf(row.k), liftTexts(row.lift)...), row.name)
		for _, one := range book {
			texts = append(texts, one.Name)
			for _, v := range one.Versions {
				texts = append(append(texts, namesOf(v.Kind)...), liftTexts(v.Lift)...)
			}
		}
		for _, one := range more {
			wantTextsApart(t, []string{one.Name}, texts)
			for _, v := range one.Versions {
				wantTextsApart(t, append(namesOf(v.Kind), liftTexts(v.Lift)...), texts)
			}
		}
		wantBooksApart(t, what, func() []chainType { more, _ := impl.ChainAdd(book, row.name, row.k, row.lift); return more })
		if !sameBook(book, plain) {
			t.Errorf("%s: the answer shares something with the book", what)
		}
	}
	if !sameKind(k, readKind(t, "{id:num,longname:[text]}")) || impl.LiftWrite(lift) != `emit form id get id old longname one "long text" end` {
		t.Error("the answer shares something with what was added")
	}
}
