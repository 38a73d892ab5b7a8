package tests

import (
	"fmt"
	"math"
	"math/big"
	"math/rand"
	"slices"
	"strings"
	"testing"

	"loop.example/teagle/impl"
)

type chainType = impl.ChainType

type chainVersion = impl.ChainVersion

type chainFault = impl.ChainFault

// bookOf makes a book out of lines; `lift auto` is derived, `lift` alone is nothing.
func bookOf(t *testing.T, text string) []chainType {
	t.Helper()
	var book []chainType
	for _, line := range strings.Split(strings.TrimSpace(text), "\n") {
		word, rest, _ := strings.Cut(strings.TrimSpace(line), " ")
		at := len(book) - 1
		switch word {
		case "type":
			book = append(book, chainType{Name: rest})
		case "version":
			k := readKind(t, rest)
			if vs := book[at].Versions; len(vs) > 0 && vs[len(vs)-1].Lift.Op == impl.LiftName {
				made, ok := toldMake(vs[len(vs)-1].Kind, k)
				if !ok {
					t.Fatalf("%q cannot be derived", line)
				}
				vs[len(vs)-1].Lift = made
			}
			book[at].Versions = append(book[at].Versions, chainVersion{Kind: k})
		case "lift":
			vs := book[at].Versions
			if rest == "auto" {
				vs[len(vs)-1].Lift = nName("auto")
			} else {
				vs[len(vs)-1].Lift = readLift(t, rest)
			}
		}
	}
	return book
}

// theExample is the document's own book.
const theExample = `type order
version {items:[num],who:text}
lift each x get items old both emit form id x end send audit 1 form who get who old end
version {id:num}
lift auto
version {id:num,tag:?text}
type audit
version {who:text}
`

func copyBook(book []chainType) []chainType {
	var copied []chainType
	for _, one := range book {
		var versions []chainVersion
		for _, v := range one.Versions {
			versions = append(versions, chainVersion{Kind: copyKind(v.Kind), Lift: copyNode(v.Lift)})
		}
		copied = append(copied, chainType{Name: strings.Clone(one.Name), Versions: versions})
	}
	return copied
}

func sameBook(a, b []chainType) bool {
	return slices.EqualFunc(a, b, func(a, b chainType) bool {
		return a.Name == b.Name && slices.EqualFunc(a.Versions, b.Versions, func(a, b chainVersion) bool {
			return sameKind(a.Kind, b.Kind) && sameNode(a.Lift, b.Lift)
		})
	})
}

// toldLines is the text of a book whose parts are ok.
func toldLines(book []chainType) string {
	s := ""
	for _, one := range book {
		s += "type " + one.Name + "\n"
		for i, v := range one.Versions {
			s += "version " + textOf(v.Kind) + "\n"
			if i < len(one.Versions)-1 {
				words, _ := toldText(v.Lift)
				s += "lift " + words + "\n"
			}
		}
	}
	return s
}

// sinksBehind are the sinks of a version that is not the last one.
func sinksBehind(book []chainType, at, version int) (sinks []liftSink, told [][2]string) {
	put := func(name string, v int, k kind) {
		sinks = append(sinks, aSink(name, v, k))
		told = append(told, [2]string{fmt.Sprintf("%s@%d", name, v), textOf(k)})
	}
	put("", 0, book[at].Versions[version+1].Kind)
	for _, one := range book[at+1:] {
		for i, v := range one.Versions {
			put(one.Name, i+1, v.Kind)
		}
	}
	return sinks, told
}

// fanTeller tells fans as the document does, with numbers that have no end.
type fanTeller struct {
	book []chainType
	fans map[[2]int]*big.Int
}

func (f fanTeller) of(kind, version int) *big.Int {
	vs := f.book[kind].Versions
	if version == len(vs)-1 {
		return big.NewInt(1)
	}
	at := [2]int{kind, version}
	if f.fans[at] == nil {
		f.fans[at] = f.action(kind, version, vs[version].Lift)
	}
	return f.fans[at]
}

func (f fanTeller) action(kind, version int, n node) *big.Int {
	switch opWord(n.Op) {
	case "emit":
		return f.of(kind, version+1)
	case "send":
		at := slices.IndexFunc(f.book, func(c chainType) bool { return c.Name == n.Names[0] })
		return f.of(at, n.Num-1)
	case "both":
		return new(big.Int).Add(f.action(kind, version, n.Kids[0]), f.action(kind, version, n.Kids[1]))
	case "choose":
		a, b := f.action(kind, version, n.Kids[1]), f.action(kind, version, n.Kids[2])
		if a.Cmp(b) < 0 {
			return b
		}
		return a
	case "take":
		return f.action(kind, version, n.Kids[1])
	case "each":
		return new(big.Int).Mul(big.NewInt(20), f.action(kind, version, n.Kids[1]))
	}
	return big.NewInt(0)
}

// toldBook is by itself what is wrong with a book.
func toldBook(book []chainType) chainFault {
	if len(book) > 8 {
		return chainFault{Code: 1}
	}
	names := []string{}
	for i, one := range book {
		if !okNames([]string{one.Name}) || slices.Contains(names, one.Name) {
			return chainFault{Code: 2, Type: i + 1}
		}
		names = append(names, one.Name)
		if len(one.Versions) < 1 || len(one.Versions) > 12 {
			return chainFault{Code: 3, Type: i + 1}
		}
		for j, v := range one.Versions {
			if v.Kind.Sort != impl.TreeForm || !okKind(v.Kind) {
				return chainFault{Code: 4, Type: i + 1, Version: j + 1}
			}
		}
		if last := len(one.Versions); !sameNode(one.Versions[last-1].Lift, node{}) {
			return chainFault{Code: 5, Type: i + 1, Version: last}
		}
	}
	for i, one := range book {
		for j := range len(one.Versions) - 1 {
			_, told := sinksBehind(book, i, j)
			if f := toldCheck(textOf(one.Versions[j].Kind), told, one.Versions[j].Lift); f.Code != 0 {
				return chainFault{Code: 6, Type: i + 1, Version: j + 1, Lift: f}
			}
		}
	}
	fans := fanTeller{book, map[[2]int]*big.Int{}}
	for i, one := range book {
		for j := range one.Versions {
			if fans.of(i, j).Cmp(big.NewInt(400)) > 0 {
				return chainFault{Code: 7, Type: i + 1, Version: j + 1}
			}
		}
	}
	if len(toldLines(book)) > 40000 {
		return chainFault{Code: 8}
	}
	return chainFault{}
}

// wantBook: this is wrong with a book, or nothing, and P38 holds. The tests themselves tell the same.
func wantBook(t *testing.T, what string, book []chainType, wanted chainFault) {
	t.Helper()
	if f := impl.ChainCheck(book); f != wanted {
		t.Errorf("%s: %+v, wanted %+v", what, f, wanted)
	}
	if f := toldBook(book); f != wanted {
		t.Errorf("%s: the tests themselves tell %+v, wanted %+v", what, f, wanted)
	}
	wantFans(t, what, book, wanted.Code == 0)
}

// wantFans is P38: of each version of a book that is ok at most ChainMaxFan events come, of a last one just one.
func wantFans(t *testing.T, what string, book []chainType, ok bool) {
	t.Helper()
	fans := fanTeller{book, map[[2]int]*big.Int{}}
	for i, one := range book {
		for j := range one.Versions {
			fan := impl.ChainFan(book, one.Name, j+1)
			if !ok {
				if fan != 0 {
					t.Errorf("%s: a fan of %d", what, fan)
				}
				continue
			}
			last := j == len(one.Versions)-1
			if told := int(fans.of(i, j).Int64()); fan != told || fan > impl.ChainMaxFan || last && fan != 1 {
				t.Errorf("%s: %s@%d: a fan of %d, wanted %d", what, one.Name, j+1, fan, told)
			}
		}
		for _, version := range []int{math.MinInt, -1, 0, len(one.Versions) + 1, 13, math.MaxInt} {
			if fan := impl.ChainFan(book, one.Name, version); fan != 0 {
				t.Errorf("%s: %s@%d: a fan of %d", what, one.Name, version, fan)
			}
		}
	}
	for _, name := range []string{"nobody", "", "A"} {
		if !slices.ContainsFunc(book, func(c chainType) bool { return c.Name == name }) && impl.ChainFan(book, name, 1) != 0 {
			t.Errorf("%s: a fan of %q", what, name)
		}
	}
}

// wantBookText: the fans of a book's versions, one behind the other, with a bar between types.
func wantBookText(t *testing.T, text, wanted string) {
	t.Helper()
	book := bookOf(t, text)
	wantBook(t, text, book, chainFault{})
	var types []string
	for _, one := range book {
		var fans []string
		for i := range one.Versions {
			fans = append(fans, fmt.Sprint(impl.ChainFan(book, one.Name, i+1)))
		}
		types = append(types, strings.Join(fans, " "))
	}
	if fans := strings.Join(types, " | "); fans != wanted {
		t.Errorf("%s: the fans are %s, wanted %s", text, fans, wanted)
	}
}

// P38: ordinary books whose fans are known, and the document's own.
func TestBookOrdinary(t *testing.T) {
	wantBook(t, "no types", nil, chainFault{})
	wantBook(t, "no types", []chainType{}, chainFault{})
	wantBookText(t, theExample, "40 1 1 | 1")
	for _, row := range [][2]string{
		{"type a\nversion {}", "1"},
		{"type a\nversion {}\nlift drop\nversion {}", "0 1"}, {"type a\nversion {}\nlift fail 3\nversion {}", "0 1"}, {"type a\nversion {}\nlift emit old\nversion {}", "1 1"}, {"type a\nversion {}\nlift both emit old both emit old emit old\nversion {}", "3 1"},
		{"type a\nversion {l:[num]}\nlift each x get l old emit old\nversion {l:[num]}\nlift each x get l old emit old\nversion {l:[num]}", "400 20 1"},
		{"type a\nversion {}\nlift choose yes both emit old emit old emit old\nversion {}", "2 1"}, {"type a\nversion {}\nlift choose yes emit old both emit old emit old\nversion {}", "2 1"}, {"type a\nversion {}\nlift choose yes drop emit old\nversion {}", "1 1"}, {"type a\nversion {}\nlift take x 1 both emit old emit old\nversion {}", "2 1"},
		// A fan of 0, under all that is around it.
		{"type a\nversion {l:[num]}\nlift each x get l old emit old\nversion {l:[num]}\nlift drop\nversion {}", "0 0 1"}, {"type a\nversion {l:[num]}\nlift both emit old emit old\nversion {l:[num]}\nlift fail 1\nversion {}", "0 0 1"}, {"type a\nversion {}\nlift choose yes emit old drop\nversion {}\nlift drop\nversion {}", "0 0 1"}, {"type a\nversion {}\nlift take x 1 emit old\nversion {}\nlift drop\nversion {}", "0 0 1"},
		{"type a\nversion {l:[num]}\nlift each x get l old each y get l old emit old\nversion {l:[num]}\nlift each x get l old each y get l old emit old\nversion {l:[num]}\nlift both drop choose yes drop fail 1\nversion {}", "0 0 0 1"},
		{"type a\nversion {l:[num]}\nlift both each x get l old emit old send b 1 form end\nversion {l:[num]}\nlift drop\nversion {}\ntype b\nversion {}", "1 0 1 | 1"},
		// Types behind: the first of their versions, one between, the last.
		{"type a\nversion {}\nlift both send b 1 old send b 3 old\nversion {}\ntype b\nversion {}\nlift both emit old emit old\nversion {}\nlift both emit old both emit old emit old\nversion {}", "7 1 | 6 3 1"},
		{"type a\nversion {}\nlift both send b 2 old send c 1 old\nversion {}\ntype b\nversion {}\nlift emit old\nversion {}\nlift both emit old send c 1 old\nversion {}\ntype c\nversion {}\nlift both emit old emit old\nversion {}", "5 1 | 3 3 1 | 2 1"},
		{"type a\nversion {}\ntype b\nversion {}\nlift send c 1 old\nversion {}\ntype c\nversion {}", "1 | 1 1 | 1"},
	} {
		wantBookText(t, row[0], row[1])
	}
}

// quietLift is an upcaster that makes nothing, with a text of just so many bytes, 26 to 2594.
func quietLift(bytes int) node {
	fields := (bytes - 20 + 65) / 66
	n, rest := node{Op: impl.LiftForm}, bytes-20-6*fields
	for i := range fields {
		size := min(60, rest)
		rest -= size
		n.Names, n.Kids = append(n.Names, string([]rune{rune('a' + i/26), rune('a' + i%26)})), append(n.Kids, nText(strings.Repeat("q", size)))
	}
	return nOp(impl.LiftTake, "x", n, nDrop())
}

// longBook is a book whose text has just so many bytes.
func longBook(t *testing.T, bytes int) []chainType {
	t.Helper()
	book := []chainType{{Name: "a"}, {Name: "b"}}
	for i := range book {
		for range 12 {
			book[i].Versions = append(book[i].Versions, chainVersion{Kind: kForm(""), Lift: quietLift(1500)})
		}
		book[i].Versions[11].Lift = node{}
	}
	left := bytes - len(toldLines(book))
	for i := range book {
		for j := range 11 {
			more := max(-1400, min(left, 1000))
			left -= more
			book[i].Versions[j].Lift = quietLift(1500 + more)
		}
	}
	if len(toldLines(book)) != bytes {
		t.Fatalf("%d bytes, wanted %d", len(toldLines(book)), bytes)
	}
	return book
}

// P38: the bounds of books, just met and passed by one.
func TestBookBounds(t *testing.T) {
	t.Parallel()
	many := func(types, versions int) []chainType {
		var book []chainType
		for i := range types {
			one := chainType{Name: fmt.Sprint("t", i)}
			for j := range versions {
				one.Versions = append(one.Versions, chainVersion{Kind: kForm(""), Lift: nEmit(nName("old"))})
				if j == versions-1 {
					one.Versions[j].Lift = node{}
				}
			}
			book = append(book, one)
		}
		return book
	}
	for types := range 12 {
		for _, versions := range []int{1, 2, 11, 12} {
			wanted := chainFault{}
			if types > 8 {
				wanted.Code = impl.ChainManyTypes
			}
			wantBook(t, fmt.Sprint(types, " types"), many(types, versions), wanted)
		}
	}
	for _, versions := range []int{0, 13, 14, 100} {
		wantBook(t, fmt.Sprint(versions, " versions"), many(1, versions), chainFault{Code: impl.ChainVersions, Type: 1})
		wantBook(t, fmt.Sprint(versions, " versions"), append(many(7, 1), chainType{Name: "last", Versions: many(1, versions)[0].Versions}), chainFault{Code: impl.ChainVersions, Type: 8})
	}
	wantBook(t, "far too many", make([]chainType, 1000000), chainFault{Code: impl.ChainManyTypes})
	// Fans of just ChainMaxFan, and one more.
	each := "each x get l old "
	v := "\nversion {l:[num]}\n"
	for _, row := range []struct {
		text string
		fan  int
	}{
		{"type a" + v + "lift " + each + each + "emit old" + v, 400}, {"type a" + v + "lift " + each + "emit old" + v + "lift " + each + "emit old" + v, 400}, {"type a" + v + "lift " + each + "emit old" + v + "lift both " + each + "emit old emit old" + v, 420}, {"type a" + v + "lift both " + each + "emit old emit old" + v + "lift " + each + "emit old" + v, 420}, {"type a" + v + "lift both emit old send b 1 old" + v + "lift " + each + each + "emit old" + v + "type b" + v, 401}, {"type a" + v + "lift both send b 1 old emit old" + v + "type b" + v + "lift " + each + each + "emit old" + v, 401}, {"type a" + v + "lift choose yes send b 1 old emit old" + v + "type b" + v + "lift " + each + each + "emit old" + v, 400}, {"type a" + v + "lift " + each + "send b 1 old" + v + "type b" + v + "lift " + each + "emit old" + v, 400}, {"type a" + v + "lift " + each + "both send b 1 old emit old" + v + "type b" + v + "lift " + each + "emit old" + v, 420},
		{"type a" + v + "lift " + each + each + "emit old" + v + "lift " + each + each + "emit old" + v + "lift " + each + each + "emit old" + v, 64000000}, {"type a" + v + "lift " + each + each + "emit old" + v + "lift both emit old emit old" + v, 800},
	} {
		book := bookOf(t, row.text)
		wanted := chainFault{}
		if row.fan > 400 {
			wanted = chainFault{Code: impl.ChainWide, Type: 1, Version: 1}
		} else if fan := impl.ChainFan(book, "a", 1); fan != row.fan {
			t.Errorf("%s: a fan of %d", row.text, fan)
		}
		wantBook(t, row.text, book, wanted)
	}
	// The first one that is too wide, in the order of places; the ones behind it may be wider or not.
	wide := "lift " + each + each + "emit old" + v
	wantBook(t, "wide behind", bookOf(t, "type a"+v+"lift drop"+v+wide+"lift both emit old emit old"+v), chainFault{Code: impl.ChainWide, Type: 1, Version: 2})
	wantBook(t, "wide in the last type", bookOf(t, "type a"+v+"lift emit old"+v+"type b"+v+"lift emit old"+v+wide+"lift both emit old emit old"+v), chainFault{Code: impl.ChainWide, Type: 2, Version: 1})
	wantBook(t, "wide by a type behind", bookOf(t, "type a"+v+"lift both emit old emit old"+v+"lift send b 2 old"+v+"type b"+v+"lift drop"+v+wide+wide), chainFault{Code: impl.ChainWide, Type: 1, Version: 1})
	wantBook(t, "wide by a type behind, in the last", bookOf(t, "type a"+v+"lift drop"+v+"lift drop"+v+"type b"+v+"lift drop"+v+wide+wide), chainFault{Code: impl.ChainWide, Type: 2, Version: 2})
	// Products far beyond any int.
	far := "type a" + v + strings.Repeat(wide, 11)
	wantBook(t, "far too wide", bookOf(t, far), chainFault{Code: impl.ChainWide, Type: 1, Version: 1})
	if f := impl.ChainCheck(bookOf(t, "type a"+v+strings.Repeat(wide, 10)+"lift drop"+v)); f != (chainFault{}) {
		t.Errorf("nothing comes of far too many: %v", f)
	}
	// Fans that are reckoned anew for each event that is made would never be known.
	twenty := "lift " + strings.Repeat("both emit old ", 20) + "emit old" + v
	wantBook(t, "very wide", bookOf(t, "type a"+v+strings.Repeat(twenty, 11)), chainFault{Code: impl.ChainWide, Type: 1, Version: 1})
	wantBook(t, "very wide, and nothing comes of it", bookOf(t, "type a"+v+strings.Repeat(twenty, 10)+"lift drop"+v), chainFault{})
	// Texts of just ChainMaxText bytes, and one more.
	for _, bytes := range []int{39998, 39999, 40000} {
		wantBook(t, fmt.Sprint(bytes, " bytes"), longBook(t, bytes), chainFault{})
	}
	for _, bytes := range []int{40001, 40002, 45000} {
		wantBook(t, fmt.Sprint(bytes, " bytes"), longBook(t, bytes), chainFault{Code: impl.ChainLong})
	}
	if impl.ChainMaxTypes != 8 || impl.ChainMaxFan != 400 || impl.ChainMaxText != 40000 {
		t.Error("the bounds")
	}
}

// goodBook is a book of several types and versions in which everything has its place.
func goodBook(t *testing.T) []chainType {
	return bookOf(t, "type a\nversion {n:num}\nlift emit old\nversion {n:num}\nlift emit old\nversion {n:num}\ntype b\nversion {n:num}\nlift emit old\nversion {n:num}\ntype c\nversion {n:num}\nlift emit old\nversion {n:num}\nlift emit old\nversion {n:num}")
}

// spoiling spoils a book in one place; what is found first of two has the lesser order.
type spoiling struct {
	order  [4]int
	wanted chainFault
	spoil  func(book []chainType) []chainType
}

// spoilings are all sorts of faults, at the first and at the last type and version that can have them.
func spoilings(t *testing.T) []spoiling {
	var all []spoiling
	put := func(pass, place, code, version int, lift fault, spoil func(book []chainType) []chainType) {
		wanted := chainFault{Code: code, Type: place, Version: version, Lift: lift}
		all = append(all, spoiling{[4]int{pass, place, code, version}, wanted, spoil})
	}
	put(1, 0, impl.ChainManyTypes, 0, fault{}, func(book []chainType) []chainType {
		for i := range 6 {
			book = append(book, chainType{Name: fmt.Sprint("more", i), Versions: []chainVersion{{Kind: kForm("")}}})
		}
		return book
	})
	for place := range 3 {
		one := func(change func(c *chainType)) func(book []chainType) []chainType {
			return func(book []chainType) []chainType { change(&book[place]); return book }
		}
		for _, name := range []string{"", "A", "ninebytes", "a b"} {
			put(2, place+1, impl.ChainBadName, 0, fault{}, one(func(c *chainType) { c.Name = name }))
		}
		if place > 0 {
			put(2, place+1, impl.ChainBadName, 0, fault{}, func(book []chainType) []chainType { book[place].Name = book[0].Name; return book })
		}
		put(2, place+1, impl.ChainVersions, 0, fault{}, one(func(c *chainType) { c.Versions = nil }))
		put(2, place+1, impl.ChainVersions, 0, fault{}, one(func(c *chainType) {
			c.Versions = slices.Concat(slices.Repeat(c.Versions[:1], 12), c.Versions)
		}))
		last := []int{2, 1, 2}[place]
		for _, version := range []int{0, last} {
			for _, k := range []kind{{}, kNum, kList(kForm("")), kFields(40, kNum), {Sort: impl.TreeForm, Names: []string{"a"}}} {
				put(2, place+1, impl.ChainBadKind, version+1, fault{}, one(func(c *chainType) { c.Versions[version].Kind = k }))
			}
		}
		for _, n := range []node{nDrop(), {Num: 1}, {Text: "q"}, {Names: []string{""}}, {Kids: []node{{}}}, {Op: -1}} {
			put(2, place+1, impl.ChainLast, last+1, fault{}, one(func(c *chainType) { c.Versions[last].Lift = n }))
		}
		for _, version := range []int{0, last - 1} {
			for _, row := range []struct {
				n node
				f fault
			}{{node{}, fault{Code: 2}}, {nNum(1), fault{Code: 2}}, {readLift(t, "both drop emit x"), fault{Code: 5, At: 3}}, {readLift(t, "emit form end"), fault{Code: 6, At: 1}}, {readLift(t, "take x get z old drop"), fault{Code: 8, At: 1}}, {readLift(t, "send nobody 1 old"), fault{Code: 5}}} {
				put(3, place+1, impl.ChainBadLift, version+1, row.f, one(func(c *chainType) { c.Versions[version].Lift = row.n }))
			}
		}
		if place != 1 {
			put(4, place+1, impl.ChainWide, 1, fault{}, one(func(c *chainType) {
				c.Versions[0].Lift = readLift(t, "both emit old emit old")
				c.Versions[1].Lift = readLift(t, "take l one 1 each x l each y l emit old")
			}))
		}
	}
	put(5, 0, impl.ChainLong, 0, fault{}, func(book []chainType) []chainType {
		long := longBook(t, 40001)
		long[0].Name, long[1].Name = "long", "longer"
		return append(book, long...)
	})
	return all
}

// P38: each code, at the first and the last type and version that can have it; and of two faults the one that is found first, with nothing else.
func TestBookFaults(t *testing.T) {
	good := goodBook(t)
	wantBook(t, "the book as it was", good, chainFault{})
	all := spoilings(t)
	seen := map[int]int{}
	for i, first := range all {
		seen[first.wanted.Code]++
		wantBook(t, fmt.Sprint("fault ", i), first.spoil(copyBook(good)), first.wanted)
	}
	if len(seen) != 8 {
		t.Errorf("%d codes", len(seen))
	}
	pairs := 0
	for i, first := range all {
		for j, second := range all {
			if slices.Compare(first.order[:], second.order[:]) >= 0 {
				continue
			}
			pairs++
			book := first.spoil(second.spoil(copyBook(good)))
			if f := impl.ChainCheck(book); f != first.wanted {
				t.Errorf("faults %d and %d: %+v, wanted %+v", i, j, f, first.wanted)
			}
			if f := toldBook(book); f != first.wanted {
				t.Errorf("faults %d and %d: the tests themselves tell %+v, wanted %+v", i, j, f, first.wanted)
			}
		}
	}
	if pairs < 3000 {
		t.Errorf("%d pairs", pairs)
	}
}

// P38: where events may be sent to.
func TestBookSends(t *testing.T) {
	book := func(name string, version int, at int) []chainType {
		types := []chainType{{Name: "a"}, {Name: "b"}, {Name: "c"}}
		for i := range types {
			types[i].Versions = []chainVersion{{Kind: kForm(""), Lift: nEmit(nName("old"))}, {Kind: kForm(""), Lift: nEmit(nName("old"))}, {Kind: kForm("")}}
		}
		types[at].Versions[1].Lift = node{Op: impl.LiftSend, Num: version, Names: []string{name}, Kids: []node{nName("old")}}
		return types
	}
	for at := range 3 {
		for i, name := range []string{"a", "b", "c", "d"} {
			for version := 1; version <= 4; version++ {
				wanted := chainFault{}
				if i <= at || name == "d" || version == 4 {
					wanted = chainFault{Code: impl.ChainBadLift, Type: at + 1, Version: 2, Lift: fault{Code: impl.LiftUnknown}}
				}
				wantBook(t, fmt.Sprintf("type %d sends to %s@%d", at+1, name, version), book(name, version, at), wanted)
			}
		}
	}
	// The schema of the version that is sent to, and of the next one, counts.
	for _, row := range []struct {
		lift   string
		wanted chainFault
	}{
		{"emit form b 1 end", chainFault{}}, {"send z 1 form c 1 end", chainFault{}}, {"send z 2 form d 1 end", chainFault{}}, {"emit old", chainFault{Code: 6, Type: 1, Version: 1, Lift: fault{Code: 6, At: 1}}}, {"emit form c 1 end", chainFault{Code: 6, Type: 1, Version: 1, Lift: fault{Code: 6, At: 1}}}, {"send z 1 form d 1 end", chainFault{Code: 6, Type: 1, Version: 1, Lift: fault{Code: 6, At: 1}}}, {"send z 2 form c 1 end", chainFault{Code: 6, Type: 1, Version: 1, Lift: fault{Code: 6, At: 1}}}, {"both emit form b 1 end both drop send z 2 form b 1 end", chainFault{Code: 6, Type: 1, Version: 1, Lift: fault{Code: 6, At: 7}}},
	} {
		wantBook(t, row.lift, bookOf(t, "type y\nversion {a:num}\nlift "+row.lift+"\nversion {b:num}\ntype z\nversion {c:num}\nlift drop\nversion {d:num}"), row.wanted)
	}
}

// chanceForms are the schemas of versions by chance.
var chanceForms = []string{"{}", "{a:num}", "{a:num,b:text}", "{l:[num],n:num}", "{m:?text,o:{a:num}}", "{a:num,b:text,l:[num],m:?text}"}

// chanceBook is a book by chance, often one that is ok.
func chanceBook(t *testing.T, r *rand.Rand) []chainType {
	book := make([]chainType, 1+r.Intn(4))
	for i := range book {
		book[i].Name = string(rune('a' + i))
		for range 1 + r.Intn(4) {
			book[i].Versions = append(book[i].Versions, chainVersion{Kind: readKind(t, chanceForms[r.Intn(len(chanceForms))])})
		}
	}
	for i, one := range book {
		for j := range len(one.Versions) - 1 {
			_, told := sinksBehind(book, i, j)
			for range 9 {
				n := actionOf(r, bindings{{"old", textOf(one.Versions[j].Kind)}}, append(told, told[0], told[0]), 1+r.Intn(5))
				edgy(r, &n)
				one.Versions[j].Lift = n
				if toldCheck(textOf(one.Versions[j].Kind), told, n).Code == 0 && (r.Intn(3) == 0 || !strings.Contains(impl.LiftWrite(n), "fail")) {
					break
				}
			}
		}
	}
	return book
}

// P38: many books by chance, some of them spoiled.
func TestBookMany(t *testing.T) {
	t.Parallel()
	r := rand.New(rand.NewSource(38))
	codes, wides := map[int]int{}, 0
	for range 1500 {
		book := chanceBook(t, r)
		if r.Intn(2) == 0 {
			one := &book[r.Intn(len(book))]
			at := r.Intn(len(one.Versions))
			switch r.Intn(8) {
			case 0:
				one.Name = book[r.Intn(len(book))].Name
			case 1:
				one.Versions = nil
			case 2:
				spoilKind(r, &one.Versions[at].Kind)
			case 3:
				one.Versions[len(one.Versions)-1].Lift = nDrop()
			case 4:
				otherPart(r, &one.Versions[at].Lift)
			case 5:
				one.Versions = one.Versions[:at+1]
			case 6:
				one.Name = strings.ToUpper(one.Name)
			default:
				slices.Reverse(book)
			}
		}
		f := impl.ChainCheck(book)
		if told := toldBook(book); f != told {
			t.Fatalf("%+v, but the tests tell %+v: %s", f, told, impl.ChainWrite(book))
		}
		wantFans(t, "by chance", book, f.Code == 0)
		codes[f.Code]++
		for _, one := range book {
			if impl.ChainFan(book, one.Name, 1) > 20 {
				wides++
			}
		}
	}
	for code := 2; code <= 6; code++ {
		if codes[code] < 10 || codes[0] < 400 {
			t.Errorf("%v", codes)
		}
	}
	if wides < 10 {
		t.Errorf("%d are wide", wides)
	}
}

// Every function answers at every argument: at schemas and nodes that hold themselves.
func TestBookWithoutEnd(t *testing.T) {
	kinds := make([]kind, 1)
	kinds[0] = kind{Sort: impl.TreeForm, Names: []string{"a"}, Kids: kinds}
	self := nBoth(nDrop(), nDrop())
	self.Kids[0], self.Kids[1] = self, self
	for _, row := range []struct {
		book   []chainType
		wanted chainFault
	}{
		{[]chainType{{Name: "a", Versions: []chainVersion{{Kind: kinds[0]}}}}, chainFault{Code: 4, Type: 1, Version: 1}},
		{[]chainType{{Name: "a", Versions: []chainVersion{{Kind: kForm(""), Lift: self}}}}, chainFault{Code: 5, Type: 1, Version: 1}},
		{[]chainType{{Name: "a", Versions: []chainVersion{{Kind: kForm(""), Lift: self}, {Kind: kForm("")}}}}, chainFault{Code: 6, Type: 1, Version: 1, Lift: fault{Code: 2}}},
		{[]chainType{{Name: "a", Versions: make([]chainVersion, 1000000)}}, chainFault{Code: 3, Type: 1}}, {[]chainType{{Name: strings.Repeat("a", 1000000)}}, chainFault{Code: 2, Type: 1}},
	} {
		if f := impl.ChainCheck(row.book); f != row.wanted || impl.ChainFan(row.book, "a", 1) != 0 {
			t.Errorf("%+v, wanted %+v", f, row.wanted)
		}
	}
	for _, version := range []int{math.MinInt, math.MaxInt} {
		if impl.ChainFan(goodBook(t), "a", version) != 0 || impl.ChainFan(nil, "a", version) != 0 {
			t.Error("a fan of a version that is none")
		}
	}
}

// spareBook is a book whose lists have room behind their ends, in which something stands.
func spareBook(book []chainType) []chainType {
	more := make([]chainType, 0, len(book)+2)
	for _, one := range book {
		versions := make([]chainVersion, 0, len(one.Versions)+2)
		for _, v := range one.Versions {
			n := v.Lift
			n.Names, n.Kids = append(append(make([]string, 0, 9), n.Names...), "spare")[:len(n.Names)], append(append(make([]node, 0, 9), n.Kids...), nText("spare"))[:len(n.Kids)]
			versions = append(versions, chainVersion{Kind: spareKind(v.Kind), Lift: n})
		}
		more = append(more, chainType{Name: one.Name, Versions: append(versions, chainVersion{Lift: nText("spare")})[:len(versions)]})
	}
	return append(more, chainType{Name: "spare"})[:len(more)]
}

// wantSpareBook: what stands behind the ends of a book's lists is as it was.
func wantSpareBook(t *testing.T, what string, book []chainType) {
	t.Helper()
	if book[:len(book)+1][len(book)].Name != "spare" {
		t.Errorf("%s: a type behind the end was changed", what)
	}
	for _, one := range book {
		if !sameNode(one.Versions[:len(one.Versions)+1][len(one.Versions)].Lift, nText("spare")) {
			t.Errorf("%s: a version behind the end was changed", what)
		}
		for _, v := range one.Versions {
			wantSpareKind(t, what, v.Kind)
			if v.Lift.Names[:len(v.Lift.Names)+1][len(v.Lift.Names)] != "spare" || !sameNode(v.Lift.Kids[:len(v.Lift.Kids)+1][len(v.Lift.Kids)], nText("spare")) {
				t.Errorf("%s: a node behind the end was changed", what)
			}
		}
	}
}

// Nothing is written into an argument or behind its end; the empty list and the nil list are the same value.
func TestBookArgumentsStay(t *testing.T) {
	plain := bookOf(t, theExample)
	book := spareBook(plain)
	wantBook(t, "with room", book, chainFault{})
	if !sameBook(book, plain) {
		t.Error("the book was changed")
	}
	wantSpareBook(t, "a book", book)
	empty := node{Names: []string{}, Kids: []node{}}
	for _, n := range []node{{}, empty} {
		for _, k := range []kind{{Sort: impl.TreeForm}, {Sort: impl.TreeForm, Names: []string{}, Kids: []kind{}}} {
			wantBook(t, "empty lists", []chainType{{Name: "a", Versions: []chainVersion{{Kind: k, Lift: nEmit(nName("old"))}, {Kind: kForm(""), Lift: n}}}}, chainFault{})
		}
	}
	wantBook(t, "no versions", []chainType{{Name: "a", Versions: []chainVersion{}}}, chainFault{Code: impl.ChainVersions, Type: 1})
}
