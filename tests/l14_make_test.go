package tests

import (
	"fmt"
	"math/rand"
	"slices"
	"strings"
	"testing"

	"loop.example/teagle/impl"
)

// toldTaking is by itself what takes a value from a schema to one into which it fits.
func toldTaking(v node, from, to kind, d int) node {
	x := fmt.Sprint("x", d)
	none := func(k kind) node { return node{Op: impl.LiftNone, Text: textOf(k.Kids[0])} }
	switch {
	case textOf(from) == textOf(to):
		return v
	case from.Sort == 6 && to.Sort == 6:
		return nOp(impl.LiftCase, x, v, nOp(impl.LiftSome, "", toldTaking(nName(x), from.Kids[0], to.Kids[0], d+1)), none(to))
	case to.Sort == 6:
		return nOp(impl.LiftSome, "", toldTaking(v, from, to.Kids[0], d))
	case to.Sort == 4:
		return nOp(impl.LiftMap, x, v, toldTaking(nName(x), from.Kids[0], to.Kids[0], d+1))
	}
	made := node{Op: impl.LiftForm, Names: to.Names}
	for i, name := range to.Names {
		if at := slices.Index(from.Names, name); at >= 0 {
			made.Kids = append(made.Kids, toldTaking(nOp(impl.LiftGet, name, v), from.Kids[at], to.Kids[i], d))
		} else {
			made.Kids = append(made.Kids, none(to.Kids[i]))
		}
	}
	return made
}

// toldMake is by itself the derived upcaster.
func toldMake(from, to kind) (node, bool) {
	if from.Sort != 5 || to.Sort != 5 || !okKind(from) || !okKind(to) || !fitsInto(from, to) {
		return node{}, false
	}
	n := nEmit(toldTaking(nName("old"), from, to, 0))
	return n, toldCheck(textOf(from), [][2]string{{"@0", textOf(to)}}, n).Code == 0
}

// wantMake: the derived upcaster has this text; none, if it is empty. The tests themselves tell the same.
func wantMake(t *testing.T, from, to kind, wanted string) {
	t.Helper()
	n, ok := impl.LiftMake(from, to)
	if ok != (wanted != "") || impl.LiftWrite(n) != wanted || !ok && !sameNode(n, node{}) {
		t.Errorf("from %s to %s: %v %q, wanted %q", impl.KindWrite(from), impl.KindWrite(to), ok, impl.LiftWrite(n), wanted)
	}
	told, toldOk := toldMake(from, to)
	if s, _ := toldText(told); toldOk != ok || toldOk && s != wanted {
		t.Errorf("from %s to %s: the tests themselves tell %v %q, wanted %q", impl.KindWrite(from), impl.KindWrite(to), toldOk, s, wanted)
	}
}

func wantMakeText(t *testing.T, from, to, wanted string) {
	t.Helper()
	a, b := readKind(t, from), readKind(t, to)
	wantMake(t, a, b, wanted)
	r := rand.New(rand.NewSource(int64(len(from) + len(to))))
	if wanted != "" {
		for range 20 {
			wantDerived(t, a, b, bodyOf(r, a))
		}
	}
}

// wantDerived is P15: a derived upcaster is accepted, and does just what widening does. It tells whether the body was widened.
func wantDerived(t *testing.T, from, to kind, body tree) bool {
	t.Helper()
	n, ok := impl.LiftMake(from, to)
	if f := impl.LiftCheck(from, []liftSink{{Kind: to}}, n); !ok || f.Code != 0 {
		t.Fatalf("from %s to %s: %v %v", impl.KindWrite(from), impl.KindWrite(to), ok, f)
	}
	wide, fits := impl.KindWiden(from, to, body)
	wanted := liftDone{Code: impl.StopBig}
	if fits {
		wanted = liftDone{Outs: []liftOut{{Body: wide}}}
	}
	if d := impl.LiftRun(n, body); !sameDone(d, wanted) {
		t.Fatalf("%q of %s: %s, wanted %s", impl.LiftWrite(n), impl.TreeWrite(body), doneText(d), doneText(wanted))
	}
	return fits
}

// P15: ordinary pairs of schemas, whose derived upcaster's text is known.
func TestMakeOrdinary(t *testing.T) {
	for _, row := range [][3]string{
		// The same schema.
		{"{}", "{}", "emit old"}, {"{a:num}", "{a:num}", "emit old"}, {"{a:?[{b:text}],c:{d:flag}}", "{a:?[{b:text}],c:{d:flag}}", "emit old"},
		// A maybe to a maybe.
		{"{a:?num}", "{a:??num}", "emit form a case x0 get a old some some x0 none ?num end"},
		{"{a:??num}", "{a:???num}", "emit form a case x0 get a old some case x1 x0 some some x1 none ?num none ??num end"},
		{"{a:?{b:num}}", "{a:?{b:?num}}", "emit form a case x0 get a old some form b some get b x0 end none {b:?num} end"},
		{"{a:?[num]}", "{a:?[?num]}", "emit form a case x0 get a old some map x1 x0 some x1 none [?num] end"},
		{"{a:??[num]}", "{a:??[?num]}", "emit form a case x0 get a old some case x1 x0 some map x2 x1 some x2 none [?num] none ?[?num] end"},
		// A value that is no maybe to a maybe.
		{"{a:num}", "{a:?num}", "emit form a some get a old end"}, {"{a:text}", "{a:?text}", "emit form a some get a old end"}, {"{a:{}}", "{a:?{}}", "emit form a some get a old end"}, {"{a:[num]}", "{a:?[num]}", "emit form a some get a old end"},
		{"{a:num}", "{a:??num}", "emit form a some some get a old end"}, {"{a:flag}", "{a:???flag}", "emit form a some some some get a old end"}, {"{a:[num]}", "{a:?[?num]}", "emit form a some map x0 get a old some x0 end"},
		{"{a:{b:num}}", "{a:?{b:num,c:?num}}", "emit form a some form b get b get a old c none num end end"}, {"{a:[num]}", "{a:??[?num]}", "emit form a some some map x0 get a old some x0 end"},
		// A list whose elements are widened.
		{"{a:[num]}", "{a:[?num]}", "emit form a map x0 get a old some x0 end"}, {"{a:[num]}", "{a:[??num]}", "emit form a map x0 get a old some some x0 end"}, {"{a:[?num]}", "{a:[??num]}", "emit form a map x0 get a old case x1 x0 some some x1 none ?num end"},
		{"{a:[{b:num}]}", "{a:[{b:num,c:?text}]}", "emit form a map x0 get a old form b get b x0 c none text end end"}, {"{a:[[num]]}", "{a:[[?num]]}", "emit form a map x0 get a old map x1 x0 some x1 end"},
		// Names that come in ahead of, between and behind the form's own.
		{"{b:num}", "{a:?num,b:num}", "emit form a none num b get b old end"}, {"{a:num,c:num}", "{a:num,b:?text,c:num}", "emit form a get a old b none text c get c old end"}, {"{a:num}", "{a:num,b:?[flag]}", "emit form a get a old b none [flag] end"},
		{"{b:num,d:text}", "{a:?num,b:?num,c:??num,d:text,e:?{f:num}}", "emit form a none num b some get b old c none ?num d get d old e none {f:num} end"}, {"{}", "{a:?num,b:??num}", "emit form a none num b none ?num end"},
		{"{a:num}", "{a:?num,b:?{c:flag}}", "emit form a some get a old b none {c:flag} end"}, {"{a:num}", "{a:num,a0:?num,aa:?num}", "emit form a get a old a0 none num aa none num end"},
		// Forms within forms.
		{"{a:{b:{c:num}}}", "{a:{b:{c:?num}}}", "emit form a form b form c some get c get b get a old end end end"}, {"{a:{b:num,c:num},d:{e:num}}", "{a:{b:num,c:?num},d:{e:num}}", "emit form a form b get b get a old c some get c get a old end d get d old end"},
		{"{a:{b:{}}}", "{a:{b:{z:?num}}}", "emit form a form b form z none num end end end"},
		// Maps and cases within one another.
		{"{a:[[[num]]]}", "{a:[[[?num]]]}", "emit form a map x0 get a old map x1 x0 map x2 x1 some x2 end"}, {"{a:?[?num]}", "{a:?[??num]}", "emit form a case x0 get a old some map x1 x0 case x2 x1 some some x2 none ?num none [??num] end"},
		{"{a:[?[num]]}", "{a:[?[?num]]}", "emit form a map x0 get a old case x1 x0 some map x2 x1 some x2 none [?num] end"}, {"{a:[{b:[num]}]}", "{a:[{b:[?num]}]}", "emit form a map x0 get a old form b map x1 get b x0 some x1 end end"},
		{"{a:[{b:[num],c:?num}]}", "{a:[{b:[?num],c:??num}]}", "emit form a map x0 get a old form b map x1 get b x0 some x1 c case x1 get c x0 some some x1 none ?num end end"},
		// One beside the other begins with x0 again.
		{"{a:[num],b:[num]}", "{a:[?num],b:[?num]}", "emit form a map x0 get a old some x0 b map x0 get b old some x0 end"}, {"{a:[num],b:?num,c:[[num]]}", "{a:[?num],b:??num,c:[[?num]]}", "emit form a map x0 get a old some x0 b case x0 get b old some some x0 none ?num c map x0 get c old map x1 x0 some x1 end"},
		// Into a maybe no name is bound.
		{"{a:[num]}", "{a:?[[num]]}", ""}, {"{a:[[num]]}", "{a:?[?[num]]}", "emit form a some map x0 get a old some x0 end"}, {"{a:[[num]]}", "{a:?[[?num]]}", "emit form a some map x0 get a old map x1 x0 some x1 end"},
		// Names of all sorts, words of ops among them.
		{"{add:num,x0:[num]}", "{add:num,old:?num,x0:[?num]}", "emit form add get add old old none num x0 map x0 get x0 old some x0 end"}, {"{yes:num}", "{no:?num,yes:num}", "emit form no none num yes get yes old end"},
	} {
		wantMakeText(t, row[0], row[1], row[2])
	}
}

// Schemas that do not fit, are not ok, or are no form's; and a name that no `form` may have.
func TestMakeNone(t *testing.T) {
	for _, row := range [][2]string{
		{"{a:num}", "{a:text}"}, {"{a:?num}", "{a:num}"}, {"{a:num}", "{}"}, {"{}", "{a:num}"}, {"{a:num}", "{b:?num}"}, {"{a:[num]}", "{a:[text]}"}, {"{a:[?num]}", "{a:[num]}"}, {"{a:num}", "{a:[num]}"}, {"{a:{b:num}}", "{a:{}}"}, {"{a:?num}", "{a:?text}"}, {"{a:num,b:num}", "{a:num}"},
		{"num", "num"}, {"num", "?num"}, {"[num]", "[num]"}, {"[num]", "[?num]"}, {"?{}", "?{}"}, {"{}", "?{}"}, {"?{}", "{}"}, {"text", "text"}, {"flag", "flag"}, {"{}", "[{}]"}, {"{}", "num"}, {"num", "{}"},
		{"{}", "{end:?num}"}, {"{a:num}", "{a:num,end:?num}"}, {"{end:num}", "{end:?num}"}, {"{a:[{}]}", "{a:[{end:?num}]}"}, {"{a:{}}", "{a:{end:?num}}"}, {"{a:?{}}", "{a:?{end:?num}}"}, {"{a:num,end:num}", "{a:?num,end:num}"},
	} {
		wantMakeText(t, row[0], row[1], "")
	}
	// A field `end` that is taken as it stands is not named.
	wantMakeText(t, "{end:num}", "{end:num}", "emit old")
	wantMakeText(t, "{a:{end:num},b:num}", "{a:{end:num},b:?num}", "emit form a get a old b some get b old end")
	wantMakeText(t, "{}", "{a:?{end:num}}", "emit form a none {end:num} end")
	good := kForm("a", kMaybe(kNum))
	for what, k := range badKinds() {
		for _, pair := range [][2]kind{{k, k}, {k, good}, {good, k}, {kForm("a", k), good}, {good, kForm("a", k)}, {kForm("a", k), kForm("a", k)}} {
			if n, ok := impl.LiftMake(pair[0], pair[1]); ok && (!okKind(pair[0]) || !okKind(pair[1])) || !ok && !sameNode(n, node{}) {
				t.Errorf("%s: %v %v", what, n, ok)
			}
			told, toldOk := toldMake(pair[0], pair[1])
			if n, ok := impl.LiftMake(pair[0], pair[1]); ok != toldOk || ok && !sameNode(n, told) {
				t.Errorf("%s: %v %v, but the tests tell %v %v", what, n, ok, told, toldOk)
			}
		}
	}
}

// fieldsOf are forms' schemas with so many fields that stay, that become a maybe, and that come in, begun with a letter.
func fieldsOf(stay, widen, add int) (from, to string) {
	var a, b []string
	for i := range stay {
		a, b = append(a, fmt.Sprintf("m%02d:num", i)), append(b, fmt.Sprintf("m%02d:num", i))
	}
	for i := range widen {
		a, b = append(a, fmt.Sprintf("s%02d:num", i)), append(b, fmt.Sprintf("s%02d:?num", i))
	}
	for i := range add {
		b = append(b, fmt.Sprintf("z%02d:?num", i))
	}
	return "{" + strings.Join(a, ",") + "}", "{" + strings.Join(b, ",") + "}"
}

// pairCosting is a pair of schemas by how many lists of three and two levels it has, and by the fields of forms in two lists, in one, and in none.
func pairCosting(t *testing.T, three, two int, inTwo, inOne, inNone [3]int) (from, to kind) {
	t.Helper()
	innerA, innerB := fieldsOf(inTwo[0], inTwo[1], inTwo[2])
	outerA, outerB := fieldsOf(inOne[0], inOne[1], inOne[2])
	plainA, plainB := fieldsOf(inNone[0], inNone[1], inNone[2])
	a, b := []string{"a:[[" + innerA + "]]", "b:[" + outerA + "]"}, []string{"a:[[" + innerB + "]]", "b:[" + outerB + "]"}
	for i := range three {
		a, b = append(a, fmt.Sprintf("c%d:[[[num]]]", i)), append(b, fmt.Sprintf("c%d:[[[?num]]]", i))
	}
	for i := range two {
		a, b = append(a, fmt.Sprintf("d%d:[[num]]", i)), append(b, fmt.Sprintf("d%d:[[?num]]", i))
	}
	a, b = append(a, strings.Trim(plainA, "{}")), append(b, strings.Trim(plainB, "{}"))
	whole := func(parts []string) string {
		return "{" + strings.Join(slices.DeleteFunc(parts, func(s string) bool { return s == "" }), ",") + "}"
	}
	return readKind(t, whole(a)), readKind(t, whole(b))
}

// P15: a derived upcaster that costs just as much as may be, and those that cost more.
func TestMakeCost(t *testing.T) {
	for _, row := range []struct {
		three, two           int
		inTwo, inOne, inNone [3]int
		cost                 int
	}{
		{2, 1, [3]int{0, 3, 3}, [3]int{2, 2, 0}, [3]int{1, 0, 0}, 39999},
		{2, 2, [3]int{0, 3, 1}, [3]int{0, 2, 2}, [3]int{0, 0, 0}, 40000},
		{2, 2, [3]int{0, 3, 1}, [3]int{1, 2, 0}, [3]int{0, 0, 1}, 40001},
		{2, 2, [3]int{0, 3, 1}, [3]int{1, 2, 0}, [3]int{1, 0, 0}, 40002},
		{2, 2, [3]int{0, 3, 1}, [3]int{0, 2, 0}, [3]int{0, 0, 0}, 39960},
		{3, 0, [3]int{0, 1, 0}, [3]int{0, 1, 0}, [3]int{0, 0, 0}, 52257},
	} {
		from, to := pairCosting(t, row.three, row.two, row.inTwo, row.inOne, row.inNone)
		n := nEmit(toldTaking(nName("old"), from, to, 0))
		if cost := int(toldCost(n).Int64()); cost != row.cost || !okAs(n, "A") {
			t.Fatalf("it costs %d, wanted %d", cost, row.cost)
		}
		wanted := ""
		if row.cost <= 40000 {
			wanted, _ = toldText(n)
		}
		wantMake(t, from, to, wanted)
		if n, ok := impl.LiftMake(from, to); ok {
			if impl.LiftCost(n) != row.cost {
				t.Errorf("it costs %d", impl.LiftCost(n))
			}
			r := rand.New(rand.NewSource(20))
			for range 50 {
				wantDerived(t, from, to, bodyOf(r, from))
			}
		}
	}
}

// longForms are a pair of schemas with the most nodes and the longest text that a derived upcaster can have, as parts and levels of schemas are bounded.
func longForms(long bool) (from, to kind) {
	names, up := []string{}, "a"
	for i := range 35 {
		name := fmt.Sprintf("n%02d", i)
		if long {
			name, up = fmt.Sprintf("name%04d", i), "aaaaaaaa"
		}
		names = append(names, name)
	}
	a, b := kForm(strings.Join(names, " ")), kForm(strings.Join(names, " "))
	for range names {
		a.Kids, b.Kids = append(a.Kids, kNum), append(b.Kids, kNum)
	}
	b.Kids[17] = kMaybe(kNum)
	for range 3 {
		a, b = kForm(up, a), kForm(up, b)
	}
	return a, b
}

// P15: no derived upcaster has as many nodes, levels or bytes as there may be: the most are 181 of 200, 12 of 24 and fewer than 2400 of 3000.
func TestMakeLargest(t *testing.T) {
	from, to := longForms(false)
	n, ok := impl.LiftMake(from, to)
	if !ok || nodesOf(n) != 181 || kParts(to) != 40 {
		t.Errorf("%v, %d nodes of %d parts", ok, nodesOf(n), kParts(to))
	}
	told, _ := toldMake(from, to)
	text, _ := toldText(told)
	wantMake(t, from, to, text)
	from, to = longForms(true)
	n, ok = impl.LiftMake(from, to)
	if bytes := len(impl.LiftWrite(n)); !ok || bytes < 2200 || bytes > 2400 {
		t.Errorf("%v, %d bytes", ok, bytes)
	}
	r := rand.New(rand.NewSource(21))
	for range 20 {
		wantDerived(t, from, to, bodyOf(r, from))
	}
	wantMakeText(t, "{a:????num}", "{a:???[num]}", "")
	wantMakeText(t, "{a:???num}", "{a:????num}", "emit form a case x0 get a old some case x1 x0 some case x2 x1 some some x2 none ?num none ??num none ???num end")
	n, _ = impl.LiftMake(readKind(t, "{a:???num}"), readKind(t, "{a:????num}"))
	if nodeLevels(n) != 10 {
		t.Errorf("%d levels", nodeLevels(n))
	}
}

// P15: a body that can just be widened, and one with a part more, or a level more, that cannot.
func TestMakeBigBodies(t *testing.T) {
	ones := func(n int) tree { return list(repeat(num(1), n)...) }
	// The list's elements get a part each: 1 + 1 + 2n, and the rest.
	for _, row := range []struct {
		from, to string
		body     tree
		fits     bool
	}{
		{"{a:[num],b:[[num]]}", "{a:[?num],b:[[num]]}", form("a b", ones(20), list(append(repeat(ones(4), 15), list(num(1)))...)), true},
		{"{a:[num],b:[[num]]}", "{a:[?num],b:[[num]]}", form("a b", ones(20), list(append(repeat(ones(4), 15), ones(2))...)), false},
		{"{a:[num],b:[[num]]}", "{a:[?num],b:[[num]]}", form("a b", ones(19), list(append(repeat(ones(4), 15), ones(2))...)), true},
		{"{a:[num],b:[[num]]}", "{a:[?num],b:[[num]]}", form("a b", ones(19), list(append(repeat(ones(4), 15), ones(4))...)), false},
		{"{a:[{}]}", "{a:[{b:?num,c:?num,d:?num,e:?num}]}", form("a", list(repeat(form(""), 20)...)), true},
		{"{a:[{}],f:?num}", "{a:[{b:?num,c:?num,d:?num,e:?num}],f:?num}", form("a f", list(repeat(form(""), 20)...), maybe()), true},
		{"{a:[{b:num}]}", "{a:[{b:num,c:?num,d:?num,e:?num,f:?num}]}", form("a", list(repeat(form("b", num(1)), 20)...)), false},
		{"{a:[[num]]}", "{a:?[[num]]}", form("a", list(append(repeat(ones(5), 19), ones(3))...)), false},
		{"{a:[[num]]}", "{a:?[[num]]}", form("a", list(append(repeat(ones(5), 19), ones(2))...)), true},
		{"{a:[[num]],b:num}", "{a:[[num]],b:?num}", form("a b", list(append(repeat(ones(5), 19), ones(1))...), num(1)), true},
		{"{a:[[num]],b:num}", "{a:[[num]],b:?num}", form("a b", list(append(repeat(ones(5), 19), ones(2))...), num(1)), false},
		{"{a:[[num]]}", "{a:[[num]],b:?num}", form("a", list(append(repeat(ones(5), 19), ones(2))...)), true},
		{"{a:[[num]]}", "{a:[[num]],b:?num}", form("a", list(append(repeat(ones(5), 19), ones(3))...)), false},
		{"{a:?[[num]]}", "{a:??[[num]]}", form("a", maybe(list(append(repeat(ones(5), 19), ones(1))...))), true},
		{"{a:?[[num]]}", "{a:??[[num]]}", form("a", maybe(list(append(repeat(ones(5), 19), ones(2))...))), false},
		{"{a:?[[num]]}", "{a:??[[num]]}", form("a", maybe()), true},
		{"{a:{b:{c:{d:num}}}}", "{a:{b:{c:{d:?num}}}}", readTree(t, "{a:{b:{c:{d:5}}}}"), true},
		{"{a:num}", "{a:????num}", form("a", num(1)), true},
	} {
		if got := wantDerived(t, readKind(t, row.from), readKind(t, row.to), row.body); got != row.fits {
			t.Errorf("from %s to %s: %v, %d parts", row.from, row.to, got, parts(row.body))
		}
		wide := widened(readKind(t, row.from), readKind(t, row.to), row.body)
		if (parts(wide) <= 120) != row.fits || levels(wide) > 6 {
			t.Errorf("from %s to %s: %d parts, %d levels", row.from, row.to, parts(wide), levels(wide))
		}
	}
	// A tree has no more levels than its schema, so no widening passes that bound; a schema that passes it is none.
	wantMake(t, kWithin(kNum, 5, kForms), kWithin(kMaybe(kNum), 5, kForms), "")
	wantMake(t, kForm("a", kNum), kForm("a", kWithin(kNum, 5, kMaybe)), "")
}

// formsOf makes a form's schema by chance, and two into which it fits, each into the next, but for the limits.
func formsOf(r *rand.Rand) (first, second, third kind) {
	first = kForm("")
	for i := range r.Intn(5) {
		first.Names = append(first.Names, string(rune('b'+i)))
		kid := anyKind(r, 1+r.Intn(5))
		if r.Intn(2) == 0 {
			kid = kList(anyKind(r, 1+r.Intn(3)))
		}
		first.Kids = append(first.Kids, kid)
	}
	grownForm := func(k kind) kind {
		for okKind(k) {
			if wide := grown(r, k, 2+r.Intn(4)); wide.Sort == 5 {
				return wide
			}
		}
		return k
	}
	second = grownForm(first)
	return first, second, grownForm(second)
}

// P15, P16: many pairs and rows of three schemas, with bodies of the first.
func TestMakeMany(t *testing.T) {
	t.Parallel()
	r := rand.New(rand.NewSource(22))
	fits, not, same, steps := 0, 0, 0, [3]int{}
	for range 12000 {
		first, second, third := formsOf(r)
		if !okKind(first) {
			if n, ok := impl.LiftMake(first, second); ok || !sameNode(n, node{}) {
				t.Fatalf("from %v: %v %v", first, n, ok)
			}
			continue
		}
		if r.Intn(10) == 0 {
			second = kin(r, first)
		}
		if r.Intn(10) == 0 {
			second = copyKind(first)
		}
		told, toldOk := toldMake(first, second)
		n, ok := impl.LiftMake(first, second)
		if ok != toldOk || ok && !sameNode(n, told) || !ok && !sameNode(n, node{}) {
			t.Fatalf("from %s to %s: %v %q", impl.KindWrite(first), impl.KindWrite(second), ok, impl.LiftWrite(n))
		}
		if !ok {
			not++
			continue
		}
		fits++
		if textOf(first) == textOf(second) {
			same++
		}
		_, okNext := impl.LiftMake(second, third)
		_, okWhole := impl.LiftMake(first, third)
		for range 5 {
			body := bodyOf(r, first)
			if room := 110; r.Intn(2) == 0 {
				if large := largeTree(r, first, &room); okTree(large) {
					body = large
				}
			}
			wantDerived(t, first, second, body)
			if okNext && okWhole {
				steps[wantStepsDerived(t, first, second, third, body)]++
			}
		}
	}
	if fits < 3000 || not < 500 || same < 100 || steps[0] < 20 || steps[1] < 20 || steps[2] < 5000 {
		t.Errorf("%d are made, %d of one schema, %d not, %v steps: too few to tell anything", fits, same, not, steps)
	}
}

// wantStepsDerived is P16: one behind the other they do what one that is derived at once does. It tells how many steps went well.
func wantStepsDerived(t *testing.T, first, second, third kind, body tree) int {
	t.Helper()
	one, ok1 := impl.LiftMake(first, second)
	next, ok2 := impl.LiftMake(second, third)
	whole, ok3 := impl.LiftMake(first, third)
	if !ok1 || !ok2 || !ok3 {
		t.Fatalf("%s, %s, %s: %v %v %v", impl.KindWrite(first), impl.KindWrite(second), impl.KindWrite(third), ok1, ok2, ok3)
	}
	steps := 0
	wanted := impl.LiftRun(one, body)
	if wanted.Code == 0 {
		steps++
		wanted = impl.LiftRun(next, wanted.Outs[0].Body)
	}
	if wanted.Code == 0 {
		steps++
	} else if wanted.Code != impl.StopBig {
		t.Errorf("it stops with %d", wanted.Code)
	}
	if d := impl.LiftRun(whole, body); !sameDone(d, wanted) {
		t.Errorf("%s by %s to %s of %s: %s, in two steps %s", impl.KindWrite(first), impl.KindWrite(second), impl.KindWrite(third), impl.TreeWrite(body), doneText(d), doneText(wanted))
	}
	return steps
}

// P16: where the bound is passed in the first step, in the second one, or in none.
func TestMakeSteps(t *testing.T) {
	first, second, third := readKind(t, "{a:[{b:num}]}"), readKind(t, "{a:[{b:num,c:?num}]}"), readKind(t, "{a:[{b:num,c:?num,d:?num,e:??num}]}")
	steps := map[int]int{}
	for n := range 21 {
		steps[wantStepsDerived(t, first, second, third, form("a", list(repeat(form("b", num(n)), n)...)))]++
	}
	first, second, third = readKind(t, "{a:[[num]]}"), readKind(t, "{a:[[?num]]}"), readKind(t, "{a:[[??num]]}")
	for n := range 21 {
		for m := range 21 {
			if body := form("a", list(repeat(list(repeat(num(1), m)...), n)...)); okTree(body) {
				steps[wantStepsDerived(t, first, second, third, body)]++
			}
		}
	}
	if steps[0] == 0 || steps[1] == 0 || steps[2] == 0 {
		t.Error(steps)
	}
	// The second and the third may be the same as what is ahead of them.
	for _, row := range [][3]string{{"{a:num}", "{a:num}", "{a:?num}"}, {"{a:num}", "{a:?num}", "{a:?num}"}, {"{a:num}", "{a:?num}", "{a:??num}"}, {"{}", "{a:?num}", "{a:??num}"}, {"{a:?num}", "{a:??num}", "{a:???num}"}} {
		r := rand.New(rand.NewSource(23))
		for range 10 {
			wantStepsDerived(t, readKind(t, row[0]), readKind(t, row[1]), readKind(t, row[2]), bodyOf(r, readKind(t, row[0])))
		}
	}
}

// toldTry is by itself what LiftTry tells.
func toldTry(text, from, to, body string) string {
	a, okA := impl.KindRead(from)
	b, okB := impl.KindRead(to)
	if !okA || !okB || a.Sort != 5 || b.Sort != 5 {
		return "no schema\n"
	}
	n, f := toldLift(text)
	if f.Code == 0 {
		f = toldCheck(textOf(a), [][2]string{{"@0", textOf(b)}}, n)
	}
	if f.Code != 0 {
		return fmt.Sprintf("fault %d at %d\n", f.Code, f.At)
	}
	x, ok := impl.TreeRead(body)
	if !ok || !isOf(a, x) {
		return "no body\n"
	}
	d := toldRun(n, x)
	if d.Code != 0 {
		return fmt.Sprintf("stop %d %d\n", d.Code, d.Why)
	}
	if len(d.Outs) == 0 {
		return "drop\n"
	}
	told := ""
	for _, out := range d.Outs {
		told += "emit " + impl.TreeWrite(out.Body) + "\n"
	}
	return told
}

// wantTry: what is told of texts, and that the tests themselves tell the same; P20 holds of it.
func wantTry(t *testing.T, text, from, to, body, wanted string) {
	t.Helper()
	got := impl.LiftTry(text, from, to, body)
	if got != wanted {
		t.Errorf("%.200q, %q, %q, %q: %q, wanted %q", text, from, to, body, got, wanted)
	}
	if told := toldTry(text, from, to, body); told != wanted {
		t.Errorf("%.200q, %q, %q, %q: the tests themselves tell %q, wanted %q", text, from, to, body, told, wanted)
	}
	if strings.HasPrefix(got, "emit") {
		wantMadeTold(t, text, from, to, body, got)
	}
}

// wantMadeTold is P20 for what is made: just what LiftRun makes, each event being of the schema.
func wantMadeTold(t *testing.T, text, from, to, body, told string) {
	t.Helper()
	d := impl.LiftRun(readLift(t, text), readTree(t, body))
	lines := strings.SplitAfter(told, "\n")
	if d.Code != 0 || len(lines) != len(d.Outs)+1 || lines[len(d.Outs)] != "" {
		t.Fatalf("%q tells %d of %d events", text, len(lines)-1, len(d.Outs))
	}
	for i, out := range d.Outs {
		if lines[i] != "emit "+impl.TreeWrite(out.Body)+"\n" || out.Name != "" || out.Version != 0 || !impl.KindHas(readKind(t, to), out.Body) {
			t.Errorf("%q: %q of %v", text, lines[i], out)
		}
	}
}

const (
	exampleText = "choose less get n old 0\n  fail 7\n  each x get items old\n    emit form cost div get n old size get items old id x tag none text end"
	exampleFrom = "{items:[num],n:num}"
	exampleTo   = "{cost:num,id:num,tag:?text}"
)

// P20: the document's own example, and other ordinary ones.
func TestTryOrdinary(t *testing.T) {
	for _, row := range [][5]string{
		{exampleText, exampleFrom, exampleTo, "{items:[4,9],n:-7}", "stop 5 7\n"},
		{exampleText, exampleFrom, exampleTo, "{items:[4,9],n:7}", "emit {cost:3,id:4,tag:~}\nemit {cost:3,id:9,tag:~}\n"},
		{exampleText, exampleFrom, exampleTo, "{items:[],n:7}", "drop\n"},
		{exampleText, exampleFrom, exampleTo, "{items:[],n:-1}", "stop 5 7\n"},
		{exampleText, exampleFrom, exampleTo, "{items:[0],n:0}", "emit {cost:0,id:0,tag:~}\n"},
		{"drop", "{}", "{}", "{}", "drop\n"}, {"emit old", "{}", "{}", "{}", "emit {}\n"}, {"both emit old emit old", "{}", "{}", "{}", "emit {}\nemit {}\n"}, {"fail 0", "{}", "{}", "{}", "stop 5 0\n"}, {"both emit old fail 99", "{}", "{}", "{}", "stop 5 99\n"},
		{" emit\n old ", "{a:text}", "{a:text}", `{a:"q w"}`, "emit {a:\"q w\"}\n"}, {"emit form a get b old end", "{b:?[num]}", "{a:?[num]}", "{b:?[1,2]}", "emit {a:?[1,2]}\n"},
		{"emit form a div 1 get a old end", "{a:num}", "{a:num}", "{a:0}", "stop 2 0\n"}, {"emit form a add get a old 1 end", "{a:num}", "{a:num}", "{a:999999999}", "stop 1 0\n"}, {"emit form a at get l old 1 end", "{l:[num]}", "{a:num}", "{l:[5]}", "stop 3 0\n"}, {"emit form a join get a old get a old end", "{a:text}", "{a:text}", `{a:"1234567890123456789012345678901"}`, "stop 4 0\n"},
	} {
		wantTry(t, row[0], row[1], row[2], row[3], row[4])
	}
}

// P20: of several answers that would hold the first.
func TestTryFirst(t *testing.T) {
	badKindTexts := []string{"", "num", "[num]", "?{}", "text", "{a}", "{b:num,a:num}", " {}", "{} ", "{a:nun}", "{a:[[[[[num]]]]]}", "{A:num}"}
	badTexts := map[string]string{"": "fault 2 at 0\n", "emit": "fault 2 at 1\n", "emit old old": "fault 2 at 2\n", "5": "fault 2 at 0\n", "emit form a 1": "fault 2 at 4\n", "both drop fail 100": "fault 2 at 3\n", "emit none nun": "fault 2 at 2\n",
		strings.Repeat(" ", 3001): "fault 1 at 0\n", "take x " + strings.Repeat("not ", 23) + "yes drop": "fault 3 at 25\n", "emit one form " + strings.Repeat("a 1 ", 1) + "end end": "fault 2 at 6\n",
		"emit q": "fault 5 at 1\n", "send t 1 old": "fault 5 at 0\n", "emit 5": "fault 6 at 1\n", "emit form n get z old end": "fault 8 at 2\n", "take x one one one one one one 1 drop": "fault 7 at 1\n", "both drop emit one old": "fault 6 at 3\n",
		"each x get l old each y get l old each z get l old each w get l old drop": "fault 9 at 0\n", "each x get l old each y get l old both emit old emit old": "fault 10 at 0\n"}
	badBodies := []string{"", "5", "{}", "{l:5}", "{l:[yes]}", "{l:[01]}", "{l:[]} ", "{k:1,l:[]}", "[]", "{l:[1000000000]}", "nothing", "{l:~}", "{l:[" + strings.Repeat("1,", 20) + "1]}"}
	const from, to = "{l:[num]}", "{l:[num]}"
	for _, k := range badKindTexts {
		for text := range badTexts {
			for _, body := range append(badBodies, "{l:[1]}") {
				wantTry(t, text, k, to, body, "no schema\n")
				wantTry(t, text, from, k, body, "no schema\n")
			}
		}
		wantTry(t, "emit old", k, k, "{l:[1]}", "no schema\n")
		wantTry(t, "emit old", k, to, "{l:[1]}", "no schema\n")
		wantTry(t, "emit old", from, k, "{l:[1]}", "no schema\n")
		wantTry(t, "fail 3", from, k, "{l:[1]}", "no schema\n")
	}
	for text, wanted := range badTexts {
		for _, body := range append(badBodies, "{l:[1]}") {
			wantTry(t, text, from, to, body, wanted)
		}
	}
	for _, body := range badBodies {
		for _, text := range []string{"emit old", "drop", "fail 3", "emit form l one div 1 0 end"} {
			wantTry(t, text, from, to, body, "no body\n")
		}
	}
	for text, wanted := range map[string]string{"emit old": "emit {l:[1]}\n", "drop": "drop\n", "fail 3": "stop 5 3\n", "emit form l one div 1 0 end": "stop 2 0\n", "both emit old emit form l one div 1 0 end": "stop 2 0\n", "each x part get l old 1 1 fail 8": "drop\n"} {
		wantTry(t, text, from, to, "{l:[1]}", wanted)
	}
	// A body may be of `to` and not of `from`.
	wantTry(t, "emit form a 1 end", "{}", "{a:num}", "{a:1}", "no body\n")
	wantTry(t, "emit form a 1 end", "{}", "{a:num}", "{}", "emit {a:1}\n")
	// A fault of LiftParse comes ahead of one of LiftCheck.
	wantTry(t, "both emit q emit", "{}", "{}", "{}", "fault 2 at 4\n")
	wantTry(t, "both emit q emit 5", "{}", "{}", "{}", "fault 5 at 2\n")
	wantTry(t, "both emit 5 emit q", "{}", "{}", "{}", "fault 6 at 2\n")
}

// P20: the most events, and the largest.
func TestTryMany(t *testing.T) {
	t.Parallel()
	twenty := "[" + strings.Repeat("1,", 19) + "1]"
	wantTry(t, "each x get l old each y get l old emit old", "{l:[num]}", "{l:[num]}", "{l:"+twenty+"}", strings.Repeat("emit {l:"+twenty+"}\n", 400))
	big := impl.TreeWrite(partsTree(120))
	from := "{p00:[num],p01:[num],p02:[num],p03:[num],p04:[num],p05:[num]}"
	wantTry(t, "emit old", from, from, big, "emit "+big+"\n")
	wantTry(t, "emit put q old 1", from, strings.TrimSuffix(from, "}")+",q:num}", big, "stop 4 0\n")
	r := rand.New(rand.NewSource(24))
	froms := []string{"{a:num,b:text,l:[num],m:?text}", "{a:num}", "{}"}
	tos := []string{"{a:num}", "{}", "{a:num,b:text}", "{o:{a:num}}"}
	answers := map[string]int{}
	for range 8000 {
		from, to := froms[r.Intn(len(froms))], tos[r.Intn(len(tos))]
		n := actionOf(r, bindings{{"old", from}}, [][2]string{{"@0", to}}, 1+r.Intn(5))
		edgy(r, &n)
		if r.Intn(4) == 0 {
			n = copyNode(n)
			otherPart(r, &n)
		}
		text := impl.LiftWrite(n)
		if words := cutWords(text); r.Intn(10) == 0 && len(words) > 0 {
			text = strings.Join(slices.Delete(words, 0, r.Intn(2)), "\n")
		}
		body := impl.TreeWrite(bodyOf(r, readKind(t, from)))
		if r.Intn(10) == 0 {
			body = impl.TreeWrite(nudge(r, readTree(t, body)))
		}
		wanted := toldTry(text, from, to, body)
		wantTry(t, text, from, to, body, wanted)
		answers[strings.Fields(wanted)[0]+map[bool]string{true: " body"}[wanted == "no body\n"]]++
	}
	for _, answer := range []string{"fault", "no body", "stop", "emit", "drop"} {
		if answers[answer] < 100 {
			t.Errorf("%q came %d times", answer, answers[answer])
		}
	}
}

// P20: what a derived upcaster's text tells is what widening makes.
func TestTryDerived(t *testing.T) {
	r := rand.New(rand.NewSource(25))
	told := 0
	for range 2000 {
		from, to, _ := formsOf(r)
		n, ok := impl.LiftMake(from, to)
		if !ok {
			continue
		}
		body := bodyOf(r, from)
		wanted := "stop 4 0\n"
		if wide, fits := impl.KindWiden(from, to, body); fits {
			wanted = "emit " + impl.TreeWrite(wide) + "\n"
		}
		wantTry(t, impl.LiftWrite(n), impl.KindWrite(from), impl.KindWrite(to), impl.TreeWrite(body), wanted)
		told++
	}
	if told < 500 {
		t.Errorf("%d are told", told)
	}
}

// Every function answers at every argument: at schemas that hold themselves, and at texts without end.
func TestMakeWithoutEnd(t *testing.T) {
	loop := kList(kNum)
	loop.Kids[0] = loop
	formLoop := kForm("a b", kNum, kNum)
	formLoop.Kids[0], formLoop.Kids[1] = formLoop, formLoop
	wide := kNum
	for range 40 {
		wide = kForm("a b c d e f g h", wide, wide, wide, wide, wide, wide, wide, wide)
	}
	for _, k := range []kind{loop, formLoop, wide, kForm("a", loop), {Sort: impl.TreeForm, Names: make([]string, 1000000), Kids: make([]kind, 1000000)}} {
		for _, pair := range [][2]kind{{k, k}, {k, kForm("")}, {kForm(""), k}} {
			if n, ok := impl.LiftMake(pair[0], pair[1]); ok || !sameNode(n, node{}) {
				t.Errorf("a schema without end: %v %v", n, ok)
			}
		}
	}
	long := strings.Repeat("{", 3000000)
	for _, row := range [][5]string{{long, "{}", "{}", "{}", "fault 1 at 0\n"}, {"drop", long, "{}", "{}", "no schema\n"}, {"drop", "{}", long, "{}", "no schema\n"}, {"drop", "{}", "{}", long, "no body\n"}} {
		if got := impl.LiftTry(row[0], row[1], row[2], row[3]); got != row[4] {
			t.Errorf("texts without end: %q", got)
		}
	}
	for _, s := range []string{"\x00", "\xff\xfe", "é", "\n", strings.Repeat("\n", 3000)} {
		wantTry(t, s, "{}", "{}", "{}", toldTry(s, "{}", "{}", "{}"))
		wantTry(t, "drop", s, "{}", "{}", "no schema\n")
		wantTry(t, "drop", "{}", s, "{}", "no schema\n")
		wantTry(t, "drop", "{}", "{}", s, "no body\n")
	}
}

// The empty list and the nil list are the same value.
func TestMakeEmptyAndNil(t *testing.T) {
	empty := kind{Sort: impl.TreeForm, Names: []string{}, Kids: []kind{}}
	wantMake(t, empty, kForm(""), "emit old")
	wantMake(t, kind{Sort: impl.TreeForm}, empty, "emit old")
	num := kind{Sort: impl.TreeNum, Names: []string{}, Kids: []kind{}}
	wantMake(t, kForm("a", num), kForm("a", kNum), "emit old")
	wantMake(t, kForm("a", kList(num)), kForm("a", kList(kMaybe(kNum))), "emit form a map x0 get a old some x0 end")
	wantMake(t, empty, kForm("a", kind{Sort: impl.TreeMaybe, Names: []string{}, Kids: []kind{num}}), "emit form a none num end")
}

// Nothing is written into an argument or behind its end.
func TestMakeArgumentsStay(t *testing.T) {
	for _, row := range [][2]string{{"{a:{b:num,c:[num]},d:?num}", "{a:{b:?num,c:[?num],e:?num},d:??num,z:?{q:num}}"}, {"{a:num}", "{a:num}"}, {"{a:num}", "{a:text}"}, {"{a:num}", "{a:num,end:?num}"}} {
		from, to := spareKind(readKind(t, row[0])), spareKind(readKind(t, row[1]))
		n, ok := impl.LiftMake(from, to)
		spoilAllLifts(n)
		if ok && len(n.Kids) == 0 || !sameKind(from, readKind(t, row[0])) || !sameKind(to, readKind(t, row[1])) {
			t.Errorf("%v: something was changed", row)
		}
		wantSpareKind(t, row[0], from)
		wantSpareKind(t, row[1], to)
	}
}

// wantNodesApart writes into the lists of one node of an answer after another, their spare room included: all others stay.
func wantNodesApart(t *testing.T, what string, answer func() node) {
	t.Helper()
	wanted := answer()
	for i := range nodesOf(wanted) {
		n, at := answer(), 0
		var spoil func(n *node) bool
		spoil = func(n *node) bool {
			if at++; at > i {
				for j := range n.Names[:cap(n.Names)] {
					n.Names[:cap(n.Names)][j] = "spoilt"
				}
				for j := range n.Kids[:cap(n.Kids)] {
					n.Kids[:cap(n.Kids)][j] = node{Op: 77}
				}
				*n = node{Op: 99}
				return true
			}
			return spoilKid(n, spoil)
		}
		if !spoil(&n) || !sameNodeButSpoilt(n, wanted) {
			t.Errorf("%s: two lists of the answer share something, at the node %d", what, i)
		}
	}
}

func spoilKid(n *node, spoil func(*node) bool) bool {
	for i := range n.Kids {
		if spoil(&n.Kids[i]) {
			return true
		}
	}
	return false
}

func sameNodeButSpoilt(n, wanted node) bool {
	if n.Op == 99 {
		return true
	}
	return n.Op == wanted.Op && n.Num == wanted.Num && n.Text == wanted.Text && slices.Equal(n.Names, wanted.Names) && slices.EqualFunc(n.Kids, wanted.Kids, sameNodeButSpoilt)
}

// Every answer is new memory: it shares none with an argument, and no two lists of one answer share any.
func TestMakeAnswersAreNew(t *testing.T) {
	for _, row := range [][2]string{{"{}", "{}"}, {"{a:{b:num,c:num,d:[num]}}", "{a:{b:?num,c:?num,d:[?num]}}"}, {"{a:[{b:num,c:{d:num}}],long:?num}", "{a:[{b:?num,c:{d:num,e:?text}}],long:??num,names:?{f:num}}"}, {"{a:?{b:num,c:num}}", "{a:?{b:num,c:?num}}"}} {
		from, to := readKind(t, row[0]), readKind(t, row[1])
		n, ok := impl.LiftMake(from, to)
		if !ok {
			t.Fatalf("%v is not made", row)
		}
		wantTextsApart(t, liftTexts(n), append(namesOf(from), namesOf(to)...))
		wantNodesApart(t, row[1], func() node { n, _ := impl.LiftMake(from, to); return n })
		again, _ := impl.LiftMake(from, to)
		spoilAllLifts(n)
		if third, _ := impl.LiftMake(from, to); !sameNode(again, third) {
			t.Errorf("%v: two answers share something", row)
		}
	}
	body := strings.Clone(`{a:"long text"}`)
	if told := impl.LiftTry("emit old", "{a:text}", "{a:text}", body); lies(told, body) || told != "emit {a:\"long text\"}\n" {
		t.Errorf("%q", told)
	}
}
