package tests

import (
	"fmt"
	"math/rand"
	"slices"
	"strings"
	"testing"

	"loop.example/teagle/impl"
)

// fitsInto says by itself whether an ok schema fits into an ok one.
func fitsInto(from, to kind) bool {
	if to.Sort == 6 {
		if from.Sort == 6 {
			return fitsInto(from.Kids[0], to.Kids[0])
		}
		return fitsInto(from, to.Kids[0])
	}
	if from.Sort != to.Sort {
		return false
	}
	if to.Sort == 4 {
		return fitsInto(from.Kids[0], to.Kids[0])
	}
	found := 0
	for i, name := range to.Names {
		at := slices.Index(from.Names, name)
		if at < 0 && to.Kids[i].Sort != 6 || at >= 0 && !fitsInto(from.Kids[at], to.Kids[i]) {
			return false
		}
		if at >= 0 {
			found++
		}
	}
	return found == len(from.Names)
}

// widened is by itself what comes of a tree, but for the limits; the schema fits, and the tree is of it.
func widened(from, to kind, x tree) tree {
	wide := tree{Sort: to.Sort, Num: x.Num, Text: x.Text, Names: to.Names}
	switch {
	case to.Sort == 6 && from.Sort != 6:
		return maybe(widened(from, to.Kids[0], x))
	case to.Sort == 6 || to.Sort == 4:
		for _, kid := range x.Kids {
			wide.Kids = append(wide.Kids, widened(from.Kids[0], to.Kids[0], kid))
		}
	case to.Sort == 5:
		for i, name := range to.Names {
			kid := maybe()
			if at := slices.Index(from.Names, name); at >= 0 {
				kid = widened(from.Kids[at], to.Kids[i], x.Kids[at])
			}
			wide.Kids = append(wide.Kids, kid)
		}
	}
	return wide
}

// joined is by itself what is put together of two ok schemas, but for the limits.
func joined(a, b kind) (kind, bool) {
	if a.Sort == 6 || b.Sort == 6 {
		if a.Sort == 6 {
			a = a.Kids[0]
		}
		if b.Sort == 6 {
			b = b.Kids[0]
		}
		k, ok := joined(a, b)
		return kMaybe(k), ok
	}
	if a.Sort != b.Sort {
		return kind{}, false
	}
	if a.Sort == 4 {
		k, ok := joined(a.Kids[0], b.Kids[0])
		return kList(k), ok
	}
	k := kind{Sort: a.Sort}
	kids := map[string][]kind{}
	for _, form := range []kind{a, b} {
		for i, name := range form.Names {
			kids[name] = append(kids[name], form.Kids[i])
		}
	}
	for name := range kids {
		k.Names = append(k.Names, name)
	}
	slices.Sort(k.Names)
	for _, name := range k.Names {
		kid, ok := kids[name][0], true
		if len(kids[name]) == 2 {
			kid, ok = joined(kid, kids[name][1])
		} else if kid.Sort != 6 {
			kid = kMaybe(kid)
		}
		if !ok {
			return kind{}, false
		}
		k.Kids = append(k.Kids, kid)
	}
	return k, true
}

func readKind(t *testing.T, s string) kind {
	t.Helper()
	k, ok := impl.KindRead(s)
	if !ok {
		t.Fatalf("%q is no schema", s)
	}
	return k
}

func readTree(t *testing.T, s string) tree {
	t.Helper()
	x, ok := impl.TreeRead(s)
	if !ok {
		t.Fatalf("%q is no tree", s)
	}
	return x
}

func wantFits(t *testing.T, from, to kind, wanted bool) {
	t.Helper()
	if impl.KindFits(from, to) != wanted {
		t.Errorf("%q fits into %q: %v", impl.KindWrite(from), impl.KindWrite(to), !wanted)
	}
}

// wantWide: just this comes of a tree; P6 holds of it.
func wantWide(t *testing.T, from, to kind, x, wanted tree) {
	t.Helper()
	wide, ok := impl.KindWiden(from, to, x)
	if !ok || !sameTree(wide, wanted) {
		t.Errorf("%q from %q to %q: %v, %q instead of %q", impl.TreeWrite(x), impl.KindWrite(from), impl.KindWrite(to), ok, impl.TreeWrite(wide), impl.TreeWrite(wanted))
	}
	if !impl.KindHas(to, wide) || impl.TreeParts(wide) < impl.TreeParts(x) {
		t.Errorf("%q from %q to %q: %q is of it: %v, parts %d behind %d", impl.TreeWrite(x), impl.KindWrite(from), impl.KindWrite(to), impl.TreeWrite(wide), impl.KindHas(to, wide), impl.TreeParts(wide), impl.TreeParts(x))
	}
}

func wantNotWide(t *testing.T, from, to kind, x tree) {
	t.Helper()
	wide, ok := impl.KindWiden(from, to, x)
	if ok || !sameTree(wide, tree{}) {
		t.Errorf("%v from %v to %v: %v, %v", x, from, to, ok, wide)
	}
}

// wantSelf is P6: a schema fits into itself, and its trees stay.
func wantSelf(t *testing.T, k kind, x tree) {
	t.Helper()
	wantFits(t, k, k, true)
	wantWide(t, k, k, x, x)
}

// wantJoin: just this is put together of two, in either order, and P8's first part holds of it.
func wantJoin(t *testing.T, a, b, wanted kind) {
	t.Helper()
	for range 2 {
		k, ok := impl.KindJoin(a, b)
		if !ok || !sameKind(k, wanted) {
			t.Errorf("%q and %q: %v, %q instead of %q", impl.KindWrite(a), impl.KindWrite(b), ok, impl.KindWrite(k), impl.KindWrite(wanted))
		}
		wantFits(t, a, k, true)
		wantFits(t, b, k, true)
		a, b = b, a
	}
}

func wantNoJoin(t *testing.T, a, b kind) {
	t.Helper()
	for range 2 {
		k, ok := impl.KindJoin(a, b)
		if ok || !sameKind(k, kind{}) {
			t.Errorf("%v and %v: %v, %v", a, b, ok, k)
		}
		a, b = b, a
	}
}

// P6: ordinary pairs of schemas of all six sorts, and the edges; behind a tree, what comes of it.
func TestWidenOfEachSort(t *testing.T) {
	for _, c := range []struct{ from, to, trees string }{
		{"num", "num", `0 0 -7 -7`}, {"text", "text", `"" "" "x" "x"`}, {"flag", "flag", `yes yes no no`},
		{"[num]", "[num]", `[] [] [1,2] [1,2]`}, {"{}", "{}", `{} {}`}, {"?num", "?num", `~ ~ ?1 ?1`}, {"{a:num,b:text}", "{a:num,b:text}", `{a:1,b:"x"} {a:1,b:"x"}`},
		// a schema into a maybe of itself
		{"num", "?num", `5 ?5`}, {"text", "?text", `"" ?""`}, {"flag", "?flag", `no ?no`}, {"[num]", "?[num]", `[] ?[] [1] ?[1]`}, {"{}", "?{}", `{} ?{}`}, {"{a:num}", "?{a:num}", `{a:1} ?{a:1}`},
		// a maybe within a maybe
		{"num", "??num", `5 ??5`}, {"num", "?????num", `5 ?????5`},
		{"?num", "??num", `~ ~ ?5 ??5`}, {"?num", "???num", `~ ~ ?5 ???5`}, {"??num", "???num", `~ ~ ?~ ?~ ??5 ???5`}, {"??num", "??num", `~ ~ ?~ ?~ ??5 ??5`},
		{"?[num]", "??[?num]", `~ ~ ?[] ??[] ?[1,2] ??[?1,?2]`}, {"?{}", "??{a:?num}", `~ ~ ?{} ??{a:~}`},
		// a maybe into a maybe, and what is inside
		{"?{a:num}", "?{a:?num,b:?flag}", `~ ~ ?{a:1} ?{a:?1,b:~}`}, {"[?num]", "[??num]", `[] [] [~,?1] [~,??1]`},
		{"[num]", "[?num]", `[] [] [1,2,3] [?1,?2,?3]`}, {"[num]", "?[?num]", `[] ?[] [1] ?[?1]`}, {"[[text]]", "?[[??text]]", `[[],["a"]] ?[[],[??"a"]]`},
		// a name that only one of the two forms has
		{"{}", "{a:?num}", `{} {a:~}`}, {"{}", "{a:??num}", `{} {a:~}`}, {"{}", "{a:?num,b:?[text],c:?{d:num}}", `{} {a:~,b:~,c:~}`},
		{"{b:num}", "{a:?text,b:num,c:?flag}", `{b:1} {a:~,b:1,c:~}`}, {"{a:num,c:num}", "{a:num,b:?num,c:?num}", `{a:1,c:2} {a:1,b:~,c:?2}`},
		{"{b:num}", "{a:?num,b:?num}", `{b:1} {a:~,b:?1}`}, {"{a:num}", "{a:?num,b:?text}", `{a:1} {a:?1,b:~}`}, {"{a:num}", "{a:num,aa:?num}", `{a:1} {a:1,aa:~}`}, {"{aa:num}", "{a:?num,aa:num}", `{aa:1} {a:~,aa:1}`},
		{"[{}]", "[{z:?num}]", `[] [] [{},{}] [{z:~},{z:~}]`}, {"{a:{b:{c:num}}}", "{a:{b:{c:num,d:?num}}}", `{a:{b:{c:1}}} {a:{b:{c:1,d:~}}}`},
		{"{id:num,to:?{city:text}}", "{at:?num,id:?num,to:??{city:?text,zip:?num}}", `{id:1,to:~} {at:~,id:?1,to:~} {id:1,to:?{city:"x"}} {at:~,id:?1,to:??{city:?"x",zip:~}}`},
		{"{a:num,b:text,c:flag,d:[num],e:{},f:?num}", "{a:?num,b:?text,c:?flag,d:?[num],e:?{},f:?num}", `{a:1,b:"x",c:yes,d:[1],e:{},f:?2} {a:?1,b:?"x",c:?yes,d:?[1],e:?{},f:?2}`},
	} {
		from, to := readKind(t, c.from), readKind(t, c.to)
		wantFits(t, from, to, true)
		trees := strings.Fields(c.trees)
		for i := 0; i < len(trees); i += 2 {
			x, wide := readTree(t, trees[i]), readTree(t, trees[i+1])
			wantWide(t, from, to, x, wide)
			wantSelf(t, from, x)
			wantSelf(t, to, wide)
		}
		wantJoin(t, from, to, to)
	}
}

// P6: pairs that do not fit, in each part that the chapter names, at the top and further below.
func TestWidenMisfits(t *testing.T) {
	for _, c := range []struct{ from, to string }{
		{"num", "text"}, {"num", "flag"}, {"text", "num"}, {"text", "flag"}, {"flag", "num"}, {"flag", "text"},
		{"num", "[num]"}, {"[num]", "num"}, {"num", "{}"}, {"{}", "num"}, {"num", "{a:num}"}, {"{a:num}", "num"}, {"{a:num}", "[num]"}, {"[num]", "{a:num}"}, {"[{}]", "{}"}, {"{}", "[{}]"}, {"text", "[text]"}, {"flag", "{a:flag}"},
		{"?num", "num"}, {"?text", "text"}, {"?flag", "flag"}, {"?[num]", "[num]"}, {"?{}", "{}"}, {"??num", "?num"}, {"??num", "num"}, {"???num", "??num"}, {"?num", "[num]"}, {"?num", "{a:?num}"},
		{"num", "?text"}, {"num", "??text"}, {"?num", "?text"}, {"?num", "??text"}, {"num", "?[num]"}, {"num", "?{}"}, {"[num]", "?num"}, {"{a:num}", "?num"}, {"?[num]", "?num"}, {"[?num]", "?[num]"}, {"?[num]", "[?num]"}, {"{a:?num}", "?{a:num}"}, {"?{a:num}", "{a:?num}"},
		{"[num]", "[text]"}, {"[?num]", "[num]"}, {"[[num]]", "[num]"}, {"[num]", "[[num]]"}, {"[num]", "[?text]"},
		{"{a:num}", "{}"}, {"{a:?num}", "{}"}, {"{a:num}", "{b:num}"}, {"{a:num}", "{b:?num}"}, {"{a:?num}", "{b:?num}"}, {"{a:num,b:num}", "{a:num}"}, {"{a:num,b:num}", "{b:num}"}, {"{a:num,b:?num}", "{a:num}"}, {"{a:num}", "{aa:?num}"}, {"{aa:num}", "{a:?num}"}, {"{a:num,c:num}", "{a:num,b:?num}"},
		{"{}", "{a:num}"}, {"{}", "{a:text}"}, {"{}", "{a:flag}"}, {"{}", "{a:[num]}"}, {"{}", "{a:[?num]}"}, {"{}", "{a:{}}"}, {"{}", "{a:{b:?num}}"}, {"{a:num}", "{a:num,b:num}"}, {"{b:num}", "{a:num,b:num}"}, {"{a:num}", "{a:num,b:?num,c:num}"}, {"{a:num}", "{a:num,b:num,c:?num}"},
		{"{a:num}", "{a:text}"}, {"{a:?num}", "{a:num}"}, {"{a:num,b:num}", "{a:num,b:text}"}, {"{a:num,b:num}", "{a:text,b:num}"}, {"{a:num,b:text}", "{a:text,b:num}"}, {"{a:num}", "{a:?text}"},
		{"[{a:num}]", "[{a:num,b:num}]"}, {"?{a:num}", "?{}"}, {"{a:{b:num}}", "{a:{b:text}}"}, {"{a:{b:num}}", "{a:{}}"}, {"{a:[{b:[num]}]}", "{a:[{b:[flag]}]}"}, {"{a:[[[[num]]]]}", "{a:[[[[text]]]]}"}, {"{a:{a:{a:{a:{a:num}}}}}", "{a:{a:{a:{a:{a:flag}}}}}"},
	} {
		from, to := readKind(t, c.from), readKind(t, c.to)
		wantFits(t, from, to, false)
		wantNotWide(t, from, to, impl.KindFirst(from))
		wantNotWide(t, from, to, impl.KindFirst(to))
	}
}

// P6: the schemas fit, but the tree is not of the first one.
func TestWidenOtherTrees(t *testing.T) {
	for _, c := range []struct{ from, to, trees string }{
		{"num", "num", `yes "" [] {} ~ ?1 [1]`}, {"num", "?num", `~ ?1 "1" yes ??1`}, {"num", "??num", `?1 ~ ?~ ??1`},
		{"?num", "??num", `1 ??1 ?~ ?yes`}, {"?num", "?num", `1 ?"" ??1`}, {"[num]", "[?num]", `[?1] [1,?2] [~] ~ {} 1 [yes]`}, {"[num]", "[num]", `[1,"",3] {}`},
		{"{}", "{a:?num}", `{a:~} {a:?1} {b:1} [] ~`}, {"{a:num}", "{a:num,b:?num}", `{} {a:yes} {a:1,b:~} {b:1} {a:~}`}, {"{a:num}", "?{a:num}", `?{a:1} ~ {a:~}`}, {"{a:{b:num}}", "{a:{b:?num}}", `{a:{b:?1}} {a:{}} {a:{b:~}}`},
	} {
		from, to := readKind(t, c.from), readKind(t, c.to)
		wantFits(t, from, to, true)
		for _, s := range strings.Fields(c.trees) {
			wantNotWide(t, from, to, readTree(t, s))
		}
	}
}

// P6, P8: a schema or a tree that is not ok.
func TestWidenOnlyWhatIsOk(t *testing.T) {
	for what, bad := range badKinds() {
		for _, in := range []kind{bad, kList(bad), kMaybe(bad), kForm("a", bad), kForm("a b", kMaybe(kNum), kMaybe(bad))} {
			for _, k := range []kind{kNum, kMaybe(kNum), kList(kNum), kForm(""), kForm("a", kNum), in, kMaybe(in), {}} {
				if impl.KindFits(in, k) || impl.KindFits(k, in) {
					t.Errorf("%s: it fits", what)
				}
				wantNoJoin(t, in, k)
				for _, x := range []tree{num(0), maybe(), list(), form(""), form("a", num(0)), form("a b", maybe(), maybe()), {Sort: in.Sort}, {}} {
					wantNotWide(t, in, k, x)
					wantNotWide(t, k, in, x)
				}
			}
		}
	}
	for what, bad := range badTrees() {
		for _, k := range []kind{kNum, kText, kFlag, kList(kNum), kMaybe(kNum), kForm(""), kForm("a", kNum), kForm("a b", kNum, kNum)} {
			wide, ok := impl.KindWiden(k, kMaybe(k), bad)
			if ok || !sameTree(wide, tree{}) {
				t.Errorf("%s is widened: %v", what, wide)
			}
			wantNotWide(t, kList(k), kList(k), list(bad))
			wantNotWide(t, kMaybe(k), kMaybe(k), maybe(bad))
			wantNotWide(t, kForm("a", k), kForm("a b", k, kMaybe(kNum)), form("a", bad))
		}
	}
	wantNotWide(t, kList(kNum), kList(kNum), list(repeat(num(1), 21)...))
	wantNotWide(t, kNum, kNum, num(1000000000))
	wantNotWide(t, kText, kMaybe(kText), text(strings.Repeat("x", 61)))
	wantNotWide(t, kFields(40, kNum), kFields(40, kNum), fields(40, num(0)))
	wantNotWide(t, kWithin(kNum, 6, kMaybe), kWithin(kNum, 6, kMaybe), maybe())
	wantNotWide(t, kNum, kWithin(kNum, 6, kMaybe), num(1))
	for what, c := range map[string][2]kind{
		"41 parts":      {kFields(39, kNum), kFields(40, kMaybe(kNum))},
		"from 41 parts": {kFields(40, kNum), kFields(40, kNum)},
		"7 levels":      {kNum, kWithin(kNum, 6, kMaybe)},
		"7 levels each": {kWithin(kNum, 6, kList), kWithin(kNum, 6, kList)},
	} {
		if impl.KindFits(c[0], c[1]) {
			t.Errorf("%s: it fits", what)
		}
		wantNoJoin(t, c[0], c[1])
	}
}

// P6: what comes of a widening with just as many parts and levels as there may be, and with one more.
func TestWidenLimits(t *testing.T) {
	// Each form of a list gets a name more, and so a part.
	forms, wider := kList(kForm("a b c d", kNum, kNum, kNum, kNum)), kList(kForm("a b c d e", kNum, kNum, kNum, kNum, kMaybe(kNum)))
	four := form("a b c d", num(1), num(2), num(3), num(4))
	five := form("a b c d e", num(1), num(2), num(3), num(4), maybe())
	wantWide(t, forms, wider, list(repeat(four, 19)...), list(repeat(five, 19)...))
	if parts(list(repeat(four, 20)...)) != 101 || parts(list(repeat(five, 20)...)) != 121 {
		t.Error("the parts are counted wrong")
	}
	wantNotWide(t, forms, wider, list(repeat(four, 20)...))
	wantSelf(t, forms, list(repeat(four, 20)...))

	// A number within a maybe has a part more.
	from, to := kForm("a b", kList(kNum), kList(kList(kNum))), kForm("a b", kList(kMaybe(kNum)), kList(kList(kNum)))
	rows := list(append(repeat(list(repeat(num(1), 4)...), 15), list(num(1), num(2)))...)
	for n := 18; n <= 20; n++ {
		x := form("a b", list(repeat(num(1), n)...), rows)
		wide := form("a b", list(repeat(maybe(num(1)), n)...), rows)
		if parts(wide) != 81+2*n {
			t.Errorf("%d parts", parts(wide))
		}
		if parts(wide) <= 120 {
			wantWide(t, from, to, x, wide)
		} else {
			wantNotWide(t, from, to, x)
		}
	}
	even := list(append(repeat(list(repeat(num(1), 4)...), 15), list(num(1)))...)
	wantWide(t, from, to, form("a b", list(repeat(num(1), 20)...), even), form("a b", list(repeat(maybe(num(1)), 20)...), even))
	if parts(form("a b", list(repeat(maybe(num(1)), 20)...), even)) != 120 {
		t.Error("not 120 parts")
	}

	// A tree has at most the levels of its schema, so a widening can meet the limit of levels, but not pass it.
	wantWide(t, kNum, kWithin(kNum, 5, kMaybe), num(1), within(num(1), 5))
	wantWide(t, kWithin(kNum, 4, kList), kMaybe(kWithin(kNum, 4, kList)), list(list(list(list(num(1))))), maybe(list(list(list(list(num(1)))))))
	wantWide(t, kWithin(kNum, 4, kForms), kWithin(kMaybe(kNum), 4, kForms), form("a", form("a", form("a", form("a", num(1))))), form("a", form("a", form("a", form("a", maybe(num(1)))))))
	wantWide(t, kWithin(kForm(""), 3, kForms), kWithin(kForm("z", kMaybe(kNum)), 3, kForms), form("a", form("a", form("a", form("")))), form("a", form("a", form("a", form("z", maybe())))))
	wantNotWide(t, kNum, kWithin(kNum, 6, kMaybe), num(1))
	wantNotWide(t, kWithin(kNum, 5, kList), kMaybe(kWithin(kNum, 5, kList)), list())
}

// P6: far more parts than there may be are refused too, and what has the longest texts is written and read back.
func TestWidenFarAndLong(t *testing.T) {
	gaps := kFields(18, kMaybe(kNum))
	wantFits(t, kList(kList(kForm(""))), kList(kList(gaps)), true)
	wantNotWide(t, kList(kList(kForm(""))), kList(kList(gaps)), list(repeat(list(repeat(form(""), 4)...), 20)...))
	wantWide(t, kList(kList(kForm(""))), kList(kList(gaps)), list(list(form(""), form("")), list(form("")), list()), list(list(fields(18, maybe()), fields(18, maybe())), list(fields(18, maybe())), list()))

	from, to := kList(kFields(37, kText)), kList(kFields(37, kText))
	to.Kids[0].Kids[36] = kMaybe(kText)
	sixty := text(strings.Repeat("~", 60))
	long, longer := fields(37, sixty), fields(37, sixty)
	longer.Kids[36] = maybe(sixty)
	wide := list(repeat(longer, 3)...)
	wantWide(t, from, to, list(repeat(long, 3)...), wide)
	wantThereAndBack(t, wide)
	if n := len(impl.TreeWrite(wide)); n < 8000 {
		t.Errorf("the long text has only %d bytes", n)
	}
}

// P7: where the limit is passed in the first step, in the second one, or in none.
func TestWidenStepsAndLimits(t *testing.T) {
	first, second, third := kList(kForm("a", kNum)), kList(kForm("a b", kNum, kMaybe(kNum))), kList(kForm("a b c d", kNum, kMaybe(kNum), kMaybe(kNum), kMaybe(kMaybe(kNum))))
	for n := range 21 {
		x := list(repeat(form("a", num(n)), n)...)
		wantSteps(t, first, second, third, x)
		if _, ok := impl.KindWiden(first, third, x); ok != (1+5*n <= 120) {
			t.Errorf("%d forms: %v", n, ok)
		}
	}
	first, second, third = kList(kList(kNum)), kList(kList(kMaybe(kNum))), kMaybe(kList(kList(kMaybe(kMaybe(kNum)))))
	for n := range 21 {
		for m := range 21 {
			wantSteps(t, first, second, third, list(repeat(list(repeat(num(1), m)...), n)...))
		}
	}
}

// wantSteps is P7 for a tree of the first of three schemas, each of which fits into the next; it says how many steps go well.
func wantSteps(t *testing.T, first, second, third kind, x tree) int {
	t.Helper()
	there, okThere := impl.KindWiden(first, second, x)
	wide, ok := impl.KindWiden(second, third, there)
	once, okOnce := impl.KindWiden(first, third, x)
	if okOnce != (okThere && ok) || !sameTree(once, wide) {
		t.Errorf("%q from %q by %q to %q: %v %v %q, at once %v %q", impl.TreeWrite(x), textOf(first), textOf(second), textOf(third), okThere, ok, impl.TreeWrite(wide), okOnce, impl.TreeWrite(once))
	}
	if !okThere {
		return 0
	}
	if !ok {
		return 1
	}
	return 2
}

// P8: ordinary pairs of schemas of all six sorts, and the edges.
func TestJoinOfEachSort(t *testing.T) {
	for _, c := range []struct{ a, b, both string }{
		{"num", "num", "num"}, {"text", "text", "text"}, {"flag", "flag", "flag"}, {"[num]", "[num]", "[num]"}, {"{}", "{}", "{}"}, {"{a:num}", "{a:num}", "{a:num}"}, {"?num", "?num", "?num"}, {"??num", "??num", "??num"},
		{"num", "?num", "?num"}, {"num", "??num", "??num"}, {"?num", "??num", "??num"}, {"?num", "?????num", "?????num"}, {"text", "?text", "?text"}, {"flag", "?flag", "?flag"}, {"[num]", "?[num]", "?[num]"}, {"{}", "?{}", "?{}"},
		{"[num]", "[?num]", "[?num]"}, {"?[num]", "[?num]", "?[?num]"}, {"??[num]", "[?num]", "??[?num]"}, {"??[num]", "?[??num]", "??[??num]"}, {"[[num]]", "?[?[num]]", "?[?[num]]"},
		{"{a:num}", "{}", "{a:?num}"}, {"{a:?num}", "{}", "{a:?num}"}, {"{a:??num}", "{}", "{a:??num}"}, {"{a:[num]}", "{}", "{a:?[num]}"}, {"{a:{}}", "{}", "{a:?{}}"}, {"{a:text}", "{}", "{a:?text}"}, {"{a:flag}", "{}", "{a:?flag}"},
		{"{a:num}", "{b:text}", "{a:?num,b:?text}"}, {"{a:num}", "{b:?text}", "{a:?num,b:?text}"}, {"{a:num,c:num}", "{b:num,d:num}", "{a:?num,b:?num,c:?num,d:?num}"}, {"{a:num,z:flag}", "{b:?num,z:?flag}", "{a:?num,b:?num,z:?flag}"}, {"{a:num}", "{aa:num}", "{a:?num,aa:?num}"}, {"{a:num,ab:num}", "{a0:num,b:num}", "{a:?num,a0:?num,ab:?num,b:?num}"},
		{"{a:num,b:text}", "{a:num,c:text}", "{a:num,b:?text,c:?text}"}, {"{a:{x:num}}", "{a:{y:num}}", "{a:{x:?num,y:?num}}"}, {"{a:?{x:num}}", "{a:{y:num}}", "{a:?{x:?num,y:?num}}"}, {"{a:{x:{y:num}}}", "{}", "{a:?{x:{y:num}}}"},
		{"[{a:num}]", "[{}]", "[{a:?num}]"}, {"?{}", "{a:flag}", "?{a:?flag}"}, {"?{a:num}", "??{b:num}", "??{a:?num,b:?num}"}, {"[?{a:num}]", "[{a:num}]", "[?{a:num}]"},
	} {
		wantJoin(t, readKind(t, c.a), readKind(t, c.b), readKind(t, c.both))
	}
}

// P8: two schemas of unlike sorts, at the top and further below: they fit into no common one.
func TestJoinUnlike(t *testing.T) {
	unlike := []string{"num", "text", "flag", "[num]", "{}"}
	for i, a := range unlike {
		for _, b := range unlike[i+1:] {
			for _, around := range []string{"X", "?X", "??X", "[X]", "{a:X}", "{a:?X}", "{a:num,b:X}", "{b:X,c:num}", "[?X]", "?[X]", "[{a:X}]", "{a:{b:{c:X}}}", "{a:[[[X]]]}"} {
				one, other := readKind(t, strings.ReplaceAll(around, "X", a)), readKind(t, strings.ReplaceAll(around, "X", b))
				wantNoJoin(t, one, other)
				wantNoJoin(t, kMaybe(one), other)
				wantNoJoin(t, one, kMaybe(other))
				wantFits(t, one, other, false)
			}
		}
	}
	for _, c := range []struct{ a, b string }{
		{"{a:num,b:num}", "{a:num,b:text}"}, {"{a:num,b:num}", "{a:text,b:num}"}, {"[num]", "[[num]]"}, {"[num]", "num"}, {"{a:num}", "num"}, {"{a:num}", "[num]"}, {"?num", "[?num]"}, {"?num", "{a:?num}"}, {"[num]", "[{}]"}, {"?[num]", "[?text]"}, {"{a:num,c:flag}", "{b:num,c:num}"}, {"{a:[num]}", "{a:[text]}"},
	} {
		wantNoJoin(t, readKind(t, c.a), readKind(t, c.b))
	}
}

// kNamed is a form of n kids, with names that begin so.
func kNamed(begin string, n int, kid kind) kind {
	k := kind{Sort: impl.TreeForm}
	for i := range n {
		k.Names = append(k.Names, fmt.Sprintf("%s%02d", begin, i))
		k.Kids = append(k.Kids, kid)
	}
	return k
}

// P8: what comes of a join with just as many parts, levels and bytes as there may be, and with one more.
func TestJoinLimits(t *testing.T) {
	for n := range 25 {
		for m := range 25 {
			for _, shared := range []int{0, 1, 2} {
				a, b := kNamed("a", n, kNum), kNamed("b", m, kFlag)
				for i := range shared {
					for _, k := range []*kind{&a, &b} {
						k.Names, k.Kids = append(k.Names, fmt.Sprint("z", i)), append(k.Kids, kText)
					}
				}
				want, _ := joined(a, b)
				if kParts(want) != 1+2*n+2*m+shared {
					t.Errorf("%d parts", kParts(want))
				}
				if kParts(want) <= 40 {
					wantJoin(t, a, b, want)
				} else {
					wantNoJoin(t, a, b)
				}
			}
		}
	}
	wantJoin(t, kFields(39, kText), kFields(39, kText), kFields(39, kText))
	wantJoin(t, kMaybe(kFields(38, kText)), kFields(38, kText), kMaybe(kFields(38, kText)))
	wantNoJoin(t, kMaybe(kFields(38, kText)), kFields(39, kText))
	wantNoJoin(t, kFields(39, kText), kMaybe(kForm("")))

	// A maybe around the whole, and one around the name that only one has, are levels of their own.
	for deep := range 6 {
		k := kWithin(kNum, deep, kForms)
		for outer := range 5 {
			other := kWithin(kForm(""), outer, kMaybe)
			if deep == 0 {
				wantNoJoin(t, k, other)
				continue
			}
			want, _ := joined(k, other)
			if kLevels(want) != deep+outer+2 {
				t.Errorf("%d levels", kLevels(want))
			}
			if kLevels(want) <= 6 {
				wantJoin(t, k, other, want)
			} else {
				wantNoJoin(t, k, other)
			}
		}
	}
	wantJoin(t, kWithin(kNum, 5, kMaybe), kNum, kWithin(kNum, 5, kMaybe))
	wantJoin(t, kWithin(kNum, 5, kList), kWithin(kNum, 5, kList), kWithin(kNum, 5, kList))
	wantJoin(t, kWithin(kNum, 5, kForms), kWithin(kNum, 5, kForms), kWithin(kNum, 5, kForms))
}

// smallKinds are all schemas of a few parts that these tests tell apart, and some larger ones.
func smallKinds() []kind {
	leaves := []kind{kNum, kText, kForm("")}
	kinds := slices.Clone(leaves)
	for _, a := range leaves {
		kinds = append(kinds, kMaybe(a), kList(a), kForm("a", a), kForm("b", a))
		for _, b := range leaves {
			kinds = append(kinds, kForm("a b", a, b))
		}
	}
	for _, k := range slices.Clone(kinds) {
		kinds = append(kinds, kMaybe(k), kMaybe(kMaybe(k)), kList(k), kForm("a", k), kForm("b", k), kForm("a b", k, kMaybe(kNum)), kForm("a b", kMaybe(kText), k), kForm("a c", k, kNum), kMaybe(kForm("a", kMaybe(k))))
	}
	slices.SortFunc(kinds, func(a, b kind) int { return strings.Compare(textOf(a), textOf(b)) })
	return slices.CompactFunc(kinds, sameKind)
}

// P6, P7, P8: each of some schemas against each other one, by all ways between them.
func TestWidenEachAgainstEach(t *testing.T) {
	t.Parallel()
	kinds := smallKinds()
	r := rand.New(rand.NewSource(4))
	trees := make([][]tree, len(kinds))
	wider := make([][]int, len(kinds))
	for i, k := range kinds {
		trees[i] = []tree{impl.KindFirst(k), treeOfKind(r, k), treeOfKind(r, k)}
		for j, to := range kinds {
			wantFits(t, k, to, fitsInto(k, to))
			if impl.KindFits(k, to) {
				wider[i] = append(wider[i], j)
			}
			for _, x := range trees[i] {
				if fitsInto(k, to) {
					wantWide(t, k, to, x, widened(k, to, x))
				} else {
					wantNotWide(t, k, to, x)
				}
			}
		}
		for _, x := range trees[i] {
			wantSelf(t, k, x)
		}
	}
	steps := 0
	for i := range kinds {
		for _, j := range wider[i] {
			for _, k := range wider[j] {
				if !slices.Contains(wider[i], k) {
					t.Errorf("%q fits into %q and that into %q, but not the first into the last", textOf(kinds[i]), textOf(kinds[j]), textOf(kinds[k]))
				}
				for _, x := range trees[i] {
					steps += wantSteps(t, kinds[i], kinds[j], kinds[k], x)
				}
			}
		}
	}
	if len(kinds) < 150 || steps < 4000 {
		t.Errorf("%d schemas, %d steps: too few to tell anything", len(kinds), steps)
	}
	wantLeast(t, kinds, wider)
}

// wantLeast is P8 for all pairs of some schemas, of each of which it is known into which of them it fits.
func wantLeast(t *testing.T, kinds []kind, wider [][]int) {
	t.Helper()
	common, alone := 0, 0
	for i, a := range kinds {
		for j, b := range kinds {
			want, fits := joined(a, b)
			if fits && okKind(want) {
				wantJoin(t, a, b, want)
			} else {
				wantNoJoin(t, a, b)
				alone++
			}
			least, ok := impl.KindJoin(a, b)
			for _, k := range wider[i] {
				if slices.Contains(wider[j], k) {
					common++
					if !ok || !impl.KindFits(least, kinds[k]) {
						t.Errorf("%q and %q fit into %q, but their join is %v %q", textOf(a), textOf(b), textOf(kinds[k]), ok, impl.KindWrite(least))
					}
				}
			}
		}
	}
	if common < 1000 || alone < 1000 {
		t.Errorf("%d fit into common ones, %d have no join: too few to tell anything", common, alone)
	}
}

// grown is a schema into which one fits, but for the limits.
func grown(r *rand.Rand, k kind, often int) kind {
	if r.Intn(often) == 0 {
		return kMaybe(grown(r, k, often+2))
	}
	wide := kind{Sort: k.Sort}
	if k.Sort == 4 || k.Sort == 6 {
		wide.Kids = []kind{grown(r, k.Kids[0], often)}
		return wide
	}
	for i, name := range k.Names {
		if r.Intn(often) == 0 {
			wide.Names = append(wide.Names, name[:1]+"0")
			wide.Kids = append(wide.Kids, kMaybe(anyKind(r, r.Intn(2))))
		}
		wide.Names = append(wide.Names, name)
		wide.Kids = append(wide.Kids, grown(r, k.Kids[i], often))
	}
	if k.Sort == 5 && r.Intn(often) == 0 {
		wide.Names = append(wide.Names, fmt.Sprint("z", len(wide.Names)))
		wide.Kids = append(wide.Kids, kMaybe(anyKind(r, r.Intn(2))))
	}
	return wide
}

// kin is a schema that often can be put together with the one that it was made of.
func kin(r *rand.Rand, k kind) kind {
	if k.Sort == 6 && r.Intn(3) == 0 {
		return kin(r, k.Kids[0])
	}
	if r.Intn(8) == 0 {
		return kMaybe(kin(r, k))
	}
	if r.Intn(60) == 0 {
		return anyKind(r, 2)
	}
	other := kind{Sort: k.Sort}
	for i, kid := range k.Kids {
		if k.Sort == 5 {
			if r.Intn(4) == 0 {
				continue
			}
			other.Names = append(other.Names, k.Names[i])
		}
		other.Kids = append(other.Kids, kin(r, kid))
	}
	return other
}

// narrowed is a schema that fits into one.
func narrowed(r *rand.Rand, k kind) kind {
	if k.Sort == 6 && r.Intn(3) == 0 {
		return narrowed(r, k.Kids[0])
	}
	narrow := kind{Sort: k.Sort}
	for i, kid := range k.Kids {
		if k.Sort == 5 {
			if kid.Sort == 6 && r.Intn(2) == 0 {
				continue
			}
			narrow.Names = append(narrow.Names, k.Names[i])
		}
		narrow.Kids = append(narrow.Kids, narrowed(r, kid))
	}
	return narrow
}

// P8: two schemas that fit into a common one, which often has about as many parts as there may be.
func TestJoinBelowCommon(t *testing.T) {
	r := rand.New(rand.NewSource(6))
	full, below := 0, 0
	for range 20000 {
		common := anyKind(r, 1+r.Intn(6))
		if r.Intn(2) == 0 {
			common = kNamed("n", r.Intn(20), kNum)
			for i := range common.Kids {
				common.Kids[i] = grown(r, []kind{kNum, kMaybe(kNum), kMaybe(kForm("a", kMaybe(kNum)))}[r.Intn(3)], 5)
			}
		}
		if !okKind(common) {
			continue
		}
		if kParts(common) > 35 {
			full++
		}
		a, b := narrowed(r, common), narrowed(r, common)
		wantFits(t, a, common, true)
		wantFits(t, b, common, true)
		least, _ := joined(a, b)
		wantJoin(t, a, b, least)
		wantFits(t, least, common, true)
		if !sameKind(least, common) {
			below++
		}
	}
	if full < 100 || below < 1000 {
		t.Errorf("%d full, %d below: too few to tell anything", full, below)
	}
}

// largeTree makes a tree of an ok schema whose lists are filled as long as there is room for more parts.
func largeTree(r *rand.Rand, k kind, room *int) tree {
	*room--
	t := treeOfKind(r, k)
	kids := k.Kids
	switch k.Sort {
	case 4:
		kids = slices.Repeat(k.Kids, 1+r.Intn(20))
	case 6:
		kids = k.Kids[:min(1, r.Intn(4))]
	}
	t.Kids = nil
	for _, kid := range kids {
		if k.Sort == 4 && *room < 2*kParts(kid) {
			break
		}
		t.Kids = append(t.Kids, largeTree(r, kid, room))
	}
	return t
}

// P6, P7, P8: many schemas and trees, held against what the document says as it is told here.
func TestWidenMany(t *testing.T) {
	t.Parallel()
	r := rand.New(rand.NewSource(5))
	steps, joins, least, tooLarge := [3]int{}, 0, 0, 0
	for range 6000 {
		base := anyKind(r, 1+r.Intn(6))
		if !okKind(base) {
			continue
		}
		first, other := kin(r, base), kin(r, base)
		if !okKind(first) || !okKind(other) {
			continue
		}
		wantFits(t, first, other, fitsInto(first, other))
		want, fits := joined(first, other)
		if !fits || !okKind(want) {
			wantNoJoin(t, first, other)
			if fits {
				tooLarge++
			}
		} else {
			joins++
			wantJoin(t, first, other, want)
			above := grown(r, want, 6)
			if okKind(above) {
				least++
				wantFits(t, first, above, true)
				wantFits(t, other, above, true)
				wantFits(t, want, above, true)
			}
		}
		second := grown(r, first, 5)
		if !okKind(second) {
			continue
		}
		third := grown(r, second, 5)
		if !okKind(third) {
			continue
		}
		wantFits(t, first, second, true)
		wantFits(t, second, third, true)
		wantFits(t, first, third, true)
		for i := range 20 {
			x := treeOfKind(r, first)
			if room := 60 + r.Intn(61); i < 10 {
				x = largeTree(r, first, &room)
			}
			if !okTree(x) {
				wantNotWide(t, first, third, x)
				continue
			}
			steps[wantSteps(t, first, second, third, x)]++
			if wide := widened(first, third, x); okTree(wide) {
				wantWide(t, first, third, x, wide)
			} else {
				wantNotWide(t, first, third, x)
			}
		}
	}
	if steps[0] < 50 || steps[1] < 50 || steps[2] < 10000 || joins < 1000 || least < 500 || tooLarge < 20 {
		t.Errorf("%v steps, %d joins, %d least, %d too large: too few to tell anything", steps, joins, least, tooLarge)
	}
}

// Every function answers at every argument: also at what holds itself, or is far too wide to be walked.
func TestWidenWithoutEnd(t *testing.T) {
	endless := []kind{}
	for _, sort := range []int{impl.TreeList, impl.TreeForm, impl.TreeMaybe} {
		kids := make([]kind, 1)
		k := kind{Sort: sort, Kids: kids}
		if sort == impl.TreeForm {
			k.Names = []string{"a"}
		}
		kids[0] = k
		endless = append(endless, k)
	}
	wide := kNum
	for range 40 {
		wide = kForm("a b c d e f g h", wide, wide, wide, wide, wide, wide, wide, wide)
	}
	endless = append(endless, wide, kind{Sort: impl.TreeForm, Names: make([]string, 1000000), Kids: make([]kind, 1000000)})
	trees := make([]tree, 1)
	trees[0] = list(trees...)
	for _, k := range endless {
		for _, other := range append(endless, kNum, kList(kNum), kMaybe(kNum), kForm(""), kForm("a", kMaybe(kNum))) {
			if impl.KindFits(k, other) || impl.KindFits(other, k) {
				t.Error("what has no end fits")
			}
			if _, ok := impl.KindJoin(k, other); ok {
				t.Error("what has no end has a join")
			}
			if _, ok := impl.KindJoin(other, k); ok {
				t.Error("what has no end has a join")
			}
			for _, x := range []tree{num(1), list(), form(""), maybe(), trees[0]} {
				if _, ok := impl.KindWiden(k, other, x); ok {
					t.Error("what has no end is widened")
				}
				if _, ok := impl.KindWiden(other, k, x); ok {
					t.Error("what has no end is widened into")
				}
			}
		}
	}
	if _, ok := impl.KindWiden(kList(kNum), kList(kNum), tree{Sort: impl.TreeList, Kids: trees}); ok {
		t.Error("a tree without end is widened")
	}
}

// The empty list and the nil list are the same value.
func TestWidenEmptyAndNil(t *testing.T) {
	for _, sort := range []int{impl.TreeNum, impl.TreeText, impl.TreeFlag, impl.TreeForm} {
		empty := kind{Sort: sort, Names: []string{}, Kids: []kind{}}
		first := tree{Sort: sort, Names: []string{}, Kids: []tree{}}
		wantJoin(t, empty, kind{Sort: sort}, kind{Sort: sort})
		wantWide(t, empty, kMaybe(kind{Sort: sort}), first, maybe(tree{Sort: sort}))
		wantWide(t, kind{Sort: sort}, kMaybe(empty), tree{Sort: sort}, maybe(first))
	}
	some := kind{Sort: impl.TreeMaybe, Names: []string{}, Kids: []kind{kNum}}
	wantWide(t, some, kMaybe(some), tree{Sort: impl.TreeMaybe, Names: []string{}, Kids: []tree{}}, maybe())
	wantJoin(t, some, kNum, kMaybe(kNum))
	wantJoin(t, kForm("a", some), kind{Sort: impl.TreeForm, Names: []string{}, Kids: []kind{}}, kForm("a", kMaybe(kNum)))
}

// Nothing is written into an argument, or behind its end.
func TestWidenArgumentsStay(t *testing.T) {
	names := []string{"b", "d", "behind"}
	kids := []kind{kList(kNum), kForm("c d", kMaybe(kFlag), kText), kFlag}
	moreNames := []string{"a", "b", "c", "d", "behind"}
	moreKids := []kind{kMaybe(kNum), kMaybe(kList(kNum)), kMaybe(kFlag), kForm("c d e", kMaybe(kFlag), kText, kMaybe(kNum)), kFlag}
	treeNames := []string{"b", "d", "behind"}
	treeKids := []tree{list(num(1), num(2)), form("c d", maybe(flag(1)), text("x")), num(99)}
	all, more, allTree := kind{Names: names, Kids: kids}, kind{Names: moreNames, Kids: moreKids}, tree{Names: treeNames, Kids: treeKids}
	before, moreBefore, treeBefore := copyKind(all), copyKind(more), copyTree(allTree)

	from := kind{Sort: impl.TreeForm, Names: names[:2], Kids: kids[:2]}
	to := kind{Sort: impl.TreeForm, Names: moreNames[:4], Kids: moreKids[:4]}
	x := tree{Sort: impl.TreeForm, Names: treeNames[:2], Kids: treeKids[:2]}
	wantFits(t, from, to, true)
	wide, ok := impl.KindWiden(from, to, x)
	spoilAll(wide)
	joined, fits := impl.KindJoin(from, to)
	spoilAllKinds(joined)
	other, _ := impl.KindJoin(to, from)
	spoilAllKinds(other)
	if !ok || !fits {
		t.Errorf("widened %v, joined %v", ok, fits)
	}
	if !sameKind(all, before) || !sameKind(more, moreBefore) || !sameTree(allTree, treeBefore) {
		t.Errorf("%v has become %v, %v %v, %v %v", before, all, moreBefore, more, treeBefore, allTree)
	}
}

// spoilAll writes into each list of a tree, its spare room included, from below.
func spoilAll(t tree) {
	for _, kid := range t.Kids {
		spoilAll(kid)
	}
	spoilSpare(t)
	for i := range t.Names {
		t.Names[i] = "spoilt"
	}
	for i := range t.Kids {
		t.Kids[i] = num(77)
	}
}

func spoilAllKinds(k kind) {
	for _, kid := range k.Kids {
		spoilAllKinds(kid)
	}
	spoilKindSpare(k)
	for i := range k.Names {
		k.Names[i] = "spoilt"
	}
	for i := range k.Kids {
		k.Kids[i] = kind{Sort: 77}
	}
}

// Every answer is new memory: no two lists of one share any, and its texts are its own.
func TestWidenAnswersAreNew(t *testing.T) {
	from, to := readKind(t, "{a:[{t:text}],k:?{l:text,m:[num]}}"), readKind(t, "{a:[{b:?num,c:?num,t:?text}],k:?{l:?text,m:[num],n:?{}},z:?num}")
	x := readTree(t, `{a:[{t:"one"},{t:"two"},{t:"one"}],k:?{l:"three",m:[1,2,3]}}`)
	wide, ok := impl.KindWiden(from, to, x)
	again, _ := impl.KindWiden(from, to, x)
	const want = `{a:[{b:~,c:~,t:?"one"},{b:~,c:~,t:?"two"},{b:~,c:~,t:?"one"}],k:?{l:?"three",m:[1,2,3],n:~},z:~}`
	spoilSpare(wide)
	if !ok || impl.TreeWrite(wide) != want {
		t.Errorf("lists of an answer share their memory: %v %q", ok, impl.TreeWrite(wide))
	}
	wantTreesApart(t, wide, x, from, to)
	list := wide.Kids[0]
	list.Kids[0].Names[0], list.Kids[0].Kids[2].Kids[0] = "x", num(5)
	if impl.TreeWrite(list.Kids[1]) != `{b:~,c:~,t:?"two"}` || impl.TreeWrite(again) != want {
		t.Errorf("two lists share their memory: %q %q", impl.TreeWrite(list.Kids[1]), impl.TreeWrite(again))
	}
	same, _ := impl.KindWiden(from, from, x)
	wantTreesApart(t, same, x, from, from)
	spoilAll(same)
	if impl.TreeWrite(x) != `{a:[{t:"one"},{t:"two"},{t:"one"}],k:?{l:"three",m:[1,2,3]}}` {
		t.Errorf("an answer shares memory with the tree: %q", impl.TreeWrite(x))
	}

	a, b := readKind(t, "{a:{b:num,c:?{d:text}},e:[{f:num}],g:{h:{}}}"), readKind(t, "{e:?[{i:?num}],j:?{k:?num,l:flag}}")
	for range 2 {
		both, ok := impl.KindJoin(a, b)
		other, _ := impl.KindJoin(a, b)
		const want = "{a:?{b:num,c:?{d:text}},e:?[{f:?num,i:?num}],g:?{h:{}},j:?{k:?num,l:flag}}"
		spoilKindSpare(both)
		if !ok || impl.KindWrite(both) != want {
			t.Errorf("lists of a join share their memory: %v %q", ok, impl.KindWrite(both))
		}
		wantKindsApart(t, both, a, b)
		spoilAllKinds(both)
		if impl.KindWrite(other) != want || impl.KindWrite(a) == "" || impl.KindWrite(b) == "" {
			t.Errorf("a join shares memory with another one, or its schemas: %q %q %q", impl.KindWrite(other), impl.KindWrite(a), impl.KindWrite(b))
		}
		a, b = b, a
	}
}

// textsOf are all texts and names that stand in a tree.
func textsOf(t tree) []string {
	texts := append([]string{t.Text}, t.Names...)
	for _, kid := range t.Kids {
		texts = append(texts, textsOf(kid)...)
	}
	return texts
}

func namesOf(k kind) []string {
	names := slices.Clone(k.Names)
	for _, kid := range k.Kids {
		names = append(names, namesOf(kid)...)
	}
	return names
}

func wantTextsApart(t *testing.T, own []string, others []string) {
	t.Helper()
	for _, a := range own {
		for _, b := range others {
			if a != "" && lies(a, b) {
				t.Errorf("%q shares memory with an argument", a)
			}
		}
	}
}

func wantTreesApart(t *testing.T, answer, x tree, kinds ...kind) {
	t.Helper()
	wantTextsApart(t, textsOf(answer), textsOf(x))
	for _, k := range kinds {
		wantTextsApart(t, textsOf(answer), namesOf(k))
	}
}

func wantKindsApart(t *testing.T, answer kind, kinds ...kind) {
	t.Helper()
	for _, k := range kinds {
		wantTextsApart(t, namesOf(answer), namesOf(k))
	}
}
