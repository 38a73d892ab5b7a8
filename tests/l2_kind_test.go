package tests

import (
	"fmt"
	"math"
	"math/rand"
	"slices"
	"strings"
	"testing"

	"loop.example/teagle/impl"
)

type kind = impl.Kind

var (
	kNum  = kind{Sort: impl.TreeNum}
	kText = kind{Sort: impl.TreeText}
	kFlag = kind{Sort: impl.TreeFlag}
)

func kList(kids ...kind) kind  { return kind{Sort: impl.TreeList, Kids: kids} }
func kMaybe(kids ...kind) kind { return kind{Sort: impl.TreeMaybe, Kids: kids} }

func kForm(names string, kids ...kind) kind {
	return kind{Sort: impl.TreeForm, Names: strings.Fields(names), Kids: kids}
}

// kFields is a form of n kids, with names of all eight bytes that ascend.
func kFields(n int, kid kind) kind {
	k := kind{Sort: impl.TreeForm}
	for i := range n {
		k.Names = append(k.Names, fmt.Sprintf("name%04d", i))
		k.Kids = append(k.Kids, kid)
	}
	return k
}

// kWithin puts a schema below some levels.
func kWithin(k kind, levels int, around func(...kind) kind) kind {
	for range levels {
		k = around(k)
	}
	return k
}

func kForms(kids ...kind) kind { return kForm("a", kids...) }

// sameKind holds two schemas against each other; a nil list is an empty one.
func sameKind(a, b kind) bool {
	return a.Sort == b.Sort && slices.Equal(a.Names, b.Names) && slices.EqualFunc(a.Kids, b.Kids, sameKind)
}

func copyKind(k kind) kind {
	k.Names = slices.Clone(k.Names)
	k.Kids = slices.Clone(k.Kids)
	for i := range k.Kids {
		k.Kids[i] = copyKind(k.Kids[i])
	}
	return k
}

func kParts(k kind) int {
	n := 1
	for _, kid := range k.Kids {
		n += kParts(kid)
	}
	return n
}

func kLevels(k kind) int {
	most := 0
	for _, kid := range k.Kids {
		most = max(most, kLevels(kid))
	}
	return most + 1
}

// okKind says by itself what the document says of schemas.
func okKind(k kind) bool {
	return kParts(k) <= 40 && kLevels(k) <= 6 && okKindInside(k)
}

func okKindInside(k kind) bool {
	for _, kid := range k.Kids {
		if !okKindInside(kid) {
			return false
		}
	}
	if k.Sort == 5 {
		return len(k.Names) == len(k.Kids) && okNames(k.Names)
	}
	kids, is := map[int]int{1: 0, 2: 0, 3: 0, 4: 1, 6: 1}[k.Sort]
	return is && len(k.Kids) == kids && len(k.Names) == 0
}

// textOf and firstOf say by themselves what the text and the first tree of an ok schema are.
func textOf(k kind) string {
	switch k.Sort {
	case 4:
		return "[" + textOf(k.Kids[0]) + "]"
	case 5:
		var fields []string
		for i, name := range k.Names {
			fields = append(fields, name+":"+textOf(k.Kids[i]))
		}
		return "{" + strings.Join(fields, ",") + "}"
	case 6:
		return "?" + textOf(k.Kids[0])
	}
	return strings.Fields("num text flag")[k.Sort-1]
}

func firstOf(k kind) tree {
	first := tree{Sort: k.Sort}
	if k.Sort == 5 {
		first.Names = k.Names
		for _, kid := range k.Kids {
			first.Kids = append(first.Kids, firstOf(kid))
		}
	}
	return first
}

// isOf says by itself whether an ok tree is of an ok schema.
func isOf(k kind, t tree) bool {
	if k.Sort != t.Sort || !slices.Equal(k.Names, t.Names) {
		return false
	}
	for i, kid := range t.Kids {
		own := 0
		if k.Sort == 5 {
			own = i
		}
		if !isOf(k.Kids[own], kid) {
			return false
		}
	}
	return true
}

// wantKind: the schema is ok, has this text, is read back, and its first tree is of it.
func wantKind(t *testing.T, k kind, written string) {
	t.Helper()
	if !impl.KindOk(k) || impl.KindWrite(k) != written || written == "" || len(written) > impl.KindMaxWrite {
		t.Errorf("%q: ok %v, text %q", written, impl.KindOk(k), impl.KindWrite(k))
	}
	back, ok := impl.KindRead(written)
	if !ok || !sameKind(back, k) {
		t.Errorf("%q is read back as %v %v", written, back, ok)
	}
	wantFirst(t, k, written)
}

// P4.
func wantFirst(t *testing.T, k kind, what string) {
	t.Helper()
	first := impl.KindFirst(k)
	if !sameTree(first, firstOf(k)) {
		t.Errorf("%q: the first tree is %v", what, first)
	}
	if !impl.TreeOk(first) || impl.TreeParts(first) > impl.KindMaxParts || !impl.KindHas(k, first) {
		t.Errorf("%q: the first tree is ok %v, has %d parts, is of it %v", what, impl.TreeOk(first), impl.TreeParts(first), impl.KindHas(k, first))
	}
}

func wantNoKind(t *testing.T, what string, k kind) {
	t.Helper()
	if impl.KindOk(k) || impl.KindWrite(k) != "" || !sameTree(impl.KindFirst(k), tree{}) {
		t.Errorf("%s: ok %v, text %q, first %v", what, impl.KindOk(k), impl.KindWrite(k), impl.KindFirst(k))
	}
	for _, x := range []tree{{}, num(0), text(""), flag(0), list(), form(""), maybe(), form("a", num(0)), {Sort: k.Sort}, {Sort: k.Sort, Names: k.Names}} {
		if impl.KindHas(k, x) {
			t.Errorf("%s: it has %v", what, x)
		}
	}
}

func wantKindUnread(t *testing.T, s string) {
	t.Helper()
	k, ok := impl.KindRead(s)
	if ok || !sameKind(k, kind{}) {
		t.Errorf("%q is read as %v %v", s, k, ok)
	}
}

// P3, P4: ordinary schemas of all six sorts.
func TestKindOfEachSort(t *testing.T) {
	for _, c := range []struct {
		kind kind
		text string
	}{
		{kNum, "num"}, {kText, "text"}, {kFlag, "flag"},
		{kList(kNum), "[num]"}, {kList(kList(kText)), "[[text]]"},
		{kMaybe(kFlag), "?flag"}, {kMaybe(kMaybe(kNum)), "??num"}, {kMaybe(kList(kNum)), "?[num]"}, {kList(kMaybe(kNum)), "[?num]"},
		{kForm(""), "{}"}, {kForm("a", kNum), "{a:num}"}, {kForm("a b", kForm(""), kText), "{a:{},b:text}"},
		{kForm("flag num text", kText, kFlag, kNum), "{flag:text,num:flag,text:num}"},
		{kForm("id tags to", kNum, kList(kText), kMaybe(kForm("city", kMaybe(kText)))), "{id:num,tags:[text],to:?{city:?text}}"},
		{kList(kForm("a", kNum)), "[{a:num}]"}, {kMaybe(kForm("")), "?{}"},
	} {
		wantKind(t, c.kind, c.text)
	}
}

// P3, P4: limits that are just met.
func TestKindLimitsMet(t *testing.T) {
	wantKind(t, kForm("abcdefg9", kNum), "{abcdefg9:num}")
	wantKind(t, kForm("a a0 aa b z zz zzzzzzzz", kNum, kNum, kNum, kNum, kNum, kNum, kNum), "{a:num,a0:num,aa:num,b:num,z:num,zz:num,zzzzzzzz:num}")
	wantKind(t, kWithin(kNum, 5, kMaybe), "?????num")
	wantKind(t, kWithin(kText, 5, kList), "[[[[[text]]]]]")
	wantKind(t, kWithin(kFlag, 5, kForms), "{a:{a:{a:{a:{a:flag}}}}}")
	wantKind(t, kWithin(kForm(""), 5, kForms), "{a:{a:{a:{a:{a:{}}}}}}")
	wantKind(t, kForm("a b", kNum, kWithin(kNum, 4, kList)), "{a:num,b:[[[[num]]]]}")

	for _, k := range []kind{
		kFields(39, kNum),
		kForm("a b c", kFields(18, kNum), kFields(18, kNum), kNum),
		kForm("a b c", kFields(12, kMaybe(kNum)), kFields(6, kList(kFlag)), kNum),
	} {
		if kParts(k) != 40 {
			t.Errorf("%d parts of 40", kParts(k))
		}
		wantKind(t, k, textOf(k))
	}
	longest := kFields(39, kText)
	if n := len(textOf(longest)); n != 547 {
		t.Errorf("the longest text has %d bytes", n)
	}
	wantKind(t, longest, textOf(longest))
}

// P3, P4: limits that are passed by one, and by much.
func TestKindLimitsPassed(t *testing.T) {
	for what, k := range map[string]kind{
		"name of 9":           kForm("abcdefghi", kNum),
		"a form of 41 parts":  kFields(40, kNum),
		"41 parts, spread":    kForm("a b c", kFields(18, kNum), kFields(19, kNum), kNum),
		"41 parts, the last":  kForm("a b c", kFields(12, kMaybe(kNum)), kFields(6, kList(kFlag)), kList(kNum)),
		"120 parts":           kFields(119, kNum),
		"7 levels of maybes":  kWithin(kNum, 6, kMaybe),
		"7 levels of lists":   kWithin(kNum, 6, kList),
		"7 levels of forms":   kWithin(kForm(""), 6, kForms),
		"7 levels, last kid":  kForm("a b", kNum, kWithin(kNum, 5, kList)),
		"7 levels, first kid": kForm("a b", kWithin(kNum, 5, kList), kNum),
	} {
		if okKind(k) {
			t.Errorf("%s is ok", what)
		}
		wantNoKind(t, what, k)
		wantKindUnread(t, textOf(k))
	}
}

// badKinds are schemas that are not ok in one part that the chapter names.
func badKinds() map[string]kind {
	bad := map[string]kind{
		"nothing": {}, "sort 7": {Sort: 7}, "sort 7 with a kid": {Sort: 7, Kids: []kind{kNum}}, "sort -1": {Sort: -1}, "sort far off": {Sort: math.MinInt}, "sort farther": {Sort: math.MaxInt}, "sort 257": {Sort: 257},
		"list of none": kList(), "list of two": kList(kNum, kNum), "maybe of none": kMaybe(), "maybe of two": kMaybe(kNum, kNum),
		"form without names": {Sort: impl.TreeForm, Kids: []kind{kNum}}, "form without kids": kForm("a"),
		"more names": kForm("a b", kNum), "more kids": kForm("a", kNum, kNum),
		"names descend": kForm("b a", kNum, kNum), "names alike": kForm("a a", kNum, kNum), "longer name first": kForm("aa a", kNum, kNum),
		"late names descend": kForm("a c b", kNum, kNum, kNum), "late names alike": kForm("a b b", kNum, kNum, kNum), "names alike, apart": kForm("a b a", kNum, kNum, kNum),
	}
	for _, name := range []string{"", "A", "a-b", "a b", "9a", "0", "_", "a_", "ä", "a\x00", "a\n", "Ab", "aB", "a{", "`", "a:", "?", "[a]"} {
		bad[fmt.Sprintf("name %q", name)] = kind{Sort: impl.TreeForm, Names: []string{name}, Kids: []kind{kNum}}
	}
	for sort := 1; sort <= 6; sort++ {
		if sort <= 3 {
			bad[fmt.Sprintf("sort %d with a kid", sort)] = kind{Sort: sort, Kids: []kind{kNum}}
			bad[fmt.Sprintf("sort %d with a name and a kid", sort)] = kind{Sort: sort, Names: []string{"a"}, Kids: []kind{kNum}}
			bad[fmt.Sprintf("sort %d with a name", sort)] = kind{Sort: sort, Names: []string{"a"}}
		} else if sort != impl.TreeForm {
			bad[fmt.Sprintf("sort %d with a name", sort)] = kind{Sort: sort, Names: []string{"a"}, Kids: []kind{kNum}}
			bad[fmt.Sprintf("sort %d with an empty name", sort)] = kind{Sort: sort, Names: []string{""}, Kids: []kind{kNum}}
		}
	}
	return bad
}

func TestKindNotOk(t *testing.T) {
	for what, k := range badKinds() {
		if okKind(k) {
			t.Errorf("%s is ok", what)
		}
		wantNoKind(t, what, k)
		wantNoKind(t, what+" in a list", kList(k))
		wantNoKind(t, what+" in a maybe", kMaybe(k))
		wantNoKind(t, what+" first in a form", kForm("a b", k, kNum))
		wantNoKind(t, what+" last in a form", kForm("a b", kNum, k))
		wantNoKind(t, what+" far below", kForm("a", kList(kMaybe(kList(k)))))
	}
}

// P3: texts that are no schema's text.
func TestKindUnread(t *testing.T) {
	for _, s := range []string{
		"", "n", "nu", "nums", "num ", " num", "Num", "NUM", "numnum", "num,num", "num\n", "num\x00", "int", "1", "0", "tex", "texts", "t", "f", "fla", "flags", "yes", "no", "~", `""`, `"num"`, "text]", "a", "maybe", "list",
		"[", "]", "[]", "[num", "num]", "[num,num]", "[num,]", "[,num]", "[ num]", "[num ]", "[num]]", "[[num]", "[num}", "[]num", "[1]", "[num][num]", "[?]", "[a:num]",
		"?", "??", "?~", "? num", "?num?", "num?", "?[", "?]", "?[]", "?{", "?1", "?numtext",
		"{", "}", "{a", "{a}", "{a:", "{a:}", "{a:num", "{a:num,", "{a:num,}", "{,a:num}", "{,}", "{:num}", "{:}", "{a:num]", "{a :num}", "{a: num}", "{ a:num}", "{a:num }", "{ }", "{a:num, b:num}", "{a num}", "{a=num}", `{"a":num}`, "{a:num,,b:num}", "{a:num:num}", "{a::num}", "{num}", "{[num]}", "{a:1}",
		"{b:num,a:num}", "{a:num,a:num}", "{a:num,a:text}", "{aa:num,a:num}", "{a:num,c:num,b:num}", "{A:num}", "{9a:num}", "{9:num}", "{a_:num}", "{ä:num}", "{abcdefghi:num}", "{a:num}{b:num}", "{a:num;b:num}", "{a:num}}", "{{a:num}", "{}{}",
		"??????num", "[[[[[[num]]]]]]", "{a:{a:{a:{a:{a:{a:num}}}}}}", "{a:num,b:?????num}", "{a:?????num,b:num}",
		strings.Repeat("[", 400) + strings.Repeat("]", 400), strings.Repeat("?", 797) + "num", strings.Repeat("?", 798) + "num", strings.Repeat("?", 1000000), strings.Repeat("{a:", 100000), strings.Repeat("[", 1000000),
	} {
		wantKindUnread(t, s)
	}
}

// P3: texts of KindMaxWrite bytes and around it: no schema has so long a one, so none of these may be read.
func TestKindLongTexts(t *testing.T) {
	for n := 795; n <= 805; n++ {
		wantKindUnread(t, strings.Repeat("?", n-3)+"num")
		wantKindUnread(t, strings.Repeat("num", n)[:n])
		wantKindUnread(t, "num"+strings.Repeat(" ", n-3))
		wantKindUnread(t, strings.Repeat("[", (n-4)/2)+"text"+strings.Repeat("]", (n-4)/2))
		wantKindUnread(t, "{a:num"+strings.Repeat(" ", n-7)+"}")
		fields := textOf(kFields(100, kText))
		wantKindUnread(t, fields[:n-1]+"}")
	}
	// A schema of forms that fills 800 bytes as nearly as a name allows it has too many parts.
	wantKindUnread(t, textOf(kFields(57, kText)))
}

// wantOneKindText: what is read is a schema that is ok, and this is its text; what is not read is nothing.
func wantOneKindText(t *testing.T, s string) {
	t.Helper()
	k, ok := impl.KindRead(s)
	if !ok && !sameKind(k, kind{}) {
		t.Errorf("%q is not read, but beside that there is %v", s, k)
	}
	if ok && (!okKind(k) || !impl.KindOk(k) || impl.KindWrite(k) != s || textOf(k) != s) {
		t.Errorf("%q is read as what is written %q", s, impl.KindWrite(k))
	}
}

// P3: each text that lies a byte beside a schema's text.
func TestKindOneText(t *testing.T) {
	for _, s := range []string{"num", "text", "flag", "[num]", "?text", "{}", "?????flag", "[[[[[num]]]]]", "{a:num,ab:?{c:[flag]}}", "{a:{},abcdefgh:text}"} {
		if _, ok := impl.KindRead(s); !ok {
			t.Errorf("%q is not read", s)
		}
		for i := range len(s) + 1 {
			wantOneKindText(t, s[:i])
			wantOneKindText(t, s[i:])
			for b := range 256 {
				c := string([]byte{byte(b)})
				wantOneKindText(t, s[:i]+c+s[i:])
				if i < len(s) {
					wantOneKindText(t, s[:i]+c+s[i+1:])
				}
			}
			if i < len(s) {
				wantOneKindText(t, s[:i]+s[i+1:])
			}
		}
	}
}

// P3: all texts of a few of the words of which schemas are made.
func TestKindShortTexts(t *testing.T) {
	t.Parallel()
	words := []string{"num", "text", "flag", "[", "]", "{", "}", "?", "a", "b", ":", ",", " ", "a:", "b:num"}
	read := 0
	var all func(s string, left int)
	all = func(s string, left int) {
		wantOneKindText(t, s)
		if _, ok := impl.KindRead(s); ok {
			read++
		}
		if left == 0 {
			return
		}
		for _, word := range words {
			all(s+word, left-1)
		}
	}
	all("", 5)
	if read < 100 {
		t.Errorf("only %d texts are read", read)
	}
}

// P4, P5: trees that are of a schema, and trees that are not, in each part that the chapter names.
func TestKindHas(t *testing.T) {
	for _, c := range []struct{ kind, of, not string }{
		{"num", `0 5 -999999999`, `"5" "" yes no [] [1] {} {a:1} ~ ?5`},
		{"text", `"" "x" "5"`, `5 yes [] ["x"] {} {a:"x"} ~ ?"x"`},
		{"flag", `yes no`, `0 1 "yes" [] [no] {} ~ ?yes`},
		{"[num]", `[] [1] [1,2,3]`, `1 ["1"] [1,yes] [yes,1] [1,"",3] [[1]] [?1] [~] {} {a:1} ~ ?[1] ?1`},
		{"[[num]]", `[] [[]] [[1],[],[2,3]]`, `[1] [[],1] [[yes]] [[1],[no]] [[[]]] [~]`},
		{"?num", `~ ?0 ?7`, `0 7 ?~ ??7 ?"7" ?yes [7] [] {} ?[7] ?{a:7}`},
		{"??num", `~ ?~ ??7`, `?7 ???7 ??~ ??yes 7`},
		{"[?num]", `[] [~] [?1,~,?2]`, `[1] [?1,2] ?[1] [?yes] [??1]`},
		{"?[num]", `~ ?[] ?[1]`, `[] [1] [?1] ?1 ?[yes] ?~`},
		{"{}", `{}`, `{a:1} [] ~ 0 ?{}`},
		{"{a:num}", `{a:1}`, `{} {b:1} {a:yes} {a:1,b:2} {a:1,aa:2} {aa:1} {a:?1} {a:~} {a:{a:1}} [1] 1 ?{a:1}`},
		{"{a:num,b:text}", `{a:1,b:"1"}`, `{a:1} {b:"1"} {} {a:"1",b:1} {a:1,b:1} {a:"1",b:"1"} {a:1,c:"1"} {a:1,b:"1",c:1} {aa:1,b:"1"} {a:1,bb:"1"}`},
		{"{a:?num,b:{c:[flag]}}", `{a:~,b:{c:[]}} {a:?1,b:{c:[yes,no]}}`, `{a:1,b:{c:[]}} {b:{c:[]}} {a:~,b:{c:[1]}} {a:~,b:{}} {a:~,b:{c:~}} {a:~,b:{c:[],d:~}} {a:~} {a:~,b:{d:[]}}`},
		{"[{a:num}]", `[] [{a:1}] [{a:1},{a:2}]`, `[{}] [{a:1},{}] [{a:1},{b:1}] [{a:1},{a:~}] {a:1} [1]`},
		{"?{a:num}", `~ ?{a:1}`, `{a:1} ?{} ?{b:1} ?~ ?1`},
		{"?????num", `~ ?~ ??~ ???~ ????~ ?????1`, `?????~ ????1 1`},
	} {
		k, ok := impl.KindRead(c.kind)
		if !ok {
			t.Fatalf("%q is not read", c.kind)
		}
		for _, s := range strings.Fields(c.of) {
			wantHas(t, k, s, true)
		}
		for _, s := range strings.Fields(c.not) {
			wantHas(t, k, s, false)
		}
	}
}

func wantHas(t *testing.T, k kind, s string, wanted bool) {
	t.Helper()
	x, ok := impl.TreeRead(s)
	if !ok {
		t.Fatalf("%q is no tree", s)
	}
	if impl.KindHas(k, x) != wanted {
		t.Errorf("%q has %q: %v", impl.KindWrite(k), s, !wanted)
	}
}

// P5: a schema or a tree that is not ok is nothing's.
func TestKindHasOnlyWhatIsOk(t *testing.T) {
	for what, x := range badTrees() {
		for _, k := range []kind{kNum, kText, kFlag, kList(kNum), kMaybe(kNum), kForm(""), kForm("a", kNum), kForm("a b", kNum, kNum)} {
			if impl.KindHas(k, x) || impl.KindHas(kList(k), list(x)) || impl.KindHas(kMaybe(k), maybe(x)) || impl.KindHas(kForm("a", k), form("a", x)) {
				t.Errorf("%s is of %s", what, textOf(k))
			}
		}
	}
	for what, c := range map[string]struct {
		kind kind
		tree tree
	}{
		"list of 21":    {kList(kNum), list(repeat(num(1), 21)...)},
		"121 parts":     {kList(kList(kNum)), list(repeat(list(repeat(num(1), 5)...), 20)...)},
		"a big number":  {kNum, num(1000000000)},
		"a long text":   {kText, text(strings.Repeat("x", 61))},
		"7 levels":      {kWithin(kList(kNum), 4, kMaybe), within(list(list(num(1))), 4)},
		"41 parts":      {kFields(40, kNum), fields(40, num(0))},
		"schema levels": {kWithin(kNum, 6, kMaybe), maybe()},
		"a bad kid":     {kList(kind{Sort: 9}), list()},
		"a bad kid's":   {kMaybe(kList()), maybe()},
	} {
		if impl.KindHas(c.kind, c.tree) {
			t.Errorf("%s: it is of it", what)
		}
	}
	full := list(append(repeat(list(repeat(num(1), 5)...), 19), list(repeat(num(1), 4)...))...)
	if parts(full) != 120 || !impl.KindHas(kList(kList(kNum)), full) {
		t.Errorf("120 parts are not of it")
	}
	if !impl.KindHas(kList(kNum), list(repeat(num(1), 20)...)) || !impl.KindHas(kWithin(kNum, 5, kMaybe), within(num(1), 5)) || !impl.KindHas(kFields(39, kNum), fields(39, num(0))) {
		t.Error("a limit that is met is refused")
	}
}

// anyKind makes a schema, often an ok one; one in some hundred parts is spoilt.
func anyKind(r *rand.Rand, deep int) kind {
	k := kind{Sort: 1 + r.Intn(6)}
	if deep <= 1 && k.Sort > 3 && r.Intn(10) > 0 {
		k.Sort -= 3
	}
	kids := 0
	switch k.Sort {
	case 4, 6:
		kids = 1
	case 5:
		kids = r.Intn(6)
	}
	for i := range kids {
		if k.Sort == 5 {
			k.Names = append(k.Names, fmt.Sprintf("%c%s", 'a'+i, strings.Repeat("x9", 4)[:r.Intn(7)]))
		}
		k.Kids = append(k.Kids, anyKind(r, deep-1))
	}
	if r.Intn(60) == 0 {
		spoilKind(r, &k)
	}
	return k
}

func spoilKind(r *rand.Rand, k *kind) {
	switch r.Intn(5) {
	case 0:
		k.Sort = r.Intn(9) - 1
	case 1:
		k.Names = append(k.Names, "a")
	case 2:
		k.Kids = append(k.Kids, kNum)
	case 3:
		slices.Reverse(k.Names)
	case 4:
		k.Kids = k.Kids[:len(k.Kids)/2]
	}
}

// treeOfKind makes a tree of an ok schema, but for the limits of trees.
func treeOfKind(r *rand.Rand, k kind) tree {
	t := tree{Sort: k.Sort, Names: slices.Clone(k.Names)}
	switch k.Sort {
	case 1:
		t.Num = r.Intn(201) - 100
	case 2:
		t.Text = strings.Repeat("~ a!", 2)[:r.Intn(5)]
	case 3:
		t.Num = r.Intn(2)
	case 4:
		for range r.Intn(5) {
			t.Kids = append(t.Kids, treeOfKind(r, k.Kids[0]))
		}
	case 5:
		for _, kid := range k.Kids {
			t.Kids = append(t.Kids, treeOfKind(r, kid))
		}
	case 6:
		for range r.Intn(2) {
			t.Kids = append(t.Kids, treeOfKind(r, k.Kids[0]))
		}
	}
	return t
}

// nudge changes one part of a tree, so that it is still a tree, but often of another schema.
func nudge(r *rand.Rand, t tree) tree {
	if len(t.Kids) > 0 && r.Intn(4) > 0 {
		t.Kids = slices.Clone(t.Kids)
		at := r.Intn(len(t.Kids))
		t.Kids[at] = nudge(r, t.Kids[at])
		return t
	}
	if t.Sort == 5 && len(t.Kids) > 0 {
		at := r.Intn(len(t.Kids))
		if r.Intn(2) == 0 {
			t.Names = slices.Delete(slices.Clone(t.Names), at, at+1)
			t.Kids = slices.Delete(slices.Clone(t.Kids), at, at+1)
		} else {
			t.Names = slices.Clone(t.Names)
			t.Names[at] = t.Names[at][:1] + "y"
		}
		return t
	}
	return []tree{num(1), text("a"), flag(1), list(), form(""), maybe(), form("a", num(1)), maybe(t), list(t)}[r.Intn(9)]
}

// P3, P4, P5: many schemas and trees, held against what the document says as it is told here.
func TestKindMany(t *testing.T) {
	t.Parallel()
	r := rand.New(rand.NewSource(2))
	fine, spoilt, of, not := 0, 0, 0, 0
	for range 8000 {
		k := anyKind(r, 1+r.Intn(8))
		if !okKind(k) {
			spoilt++
			wantNoKind(t, fmt.Sprint(k), k)
			continue
		}
		fine++
		wantKind(t, k, textOf(k))
		for range 10 {
			x := treeOfKind(r, k)
			if r.Intn(2) == 0 {
				x = nudge(r, x)
			}
			if wantSameBehind(t, k, x) {
				of++
			} else {
				not++
			}
		}
	}
	if fine < 3000 || spoilt < 300 || of < 10000 || not < 10000 {
		t.Errorf("%d fine, %d spoilt, %d of it, %d not: too few to tell anything", fine, spoilt, of, not)
	}
}

// wantSameBehind: a tree is of a schema, or not, also when both were written and read; it says whether it is.
func wantSameBehind(t *testing.T, k kind, x tree) bool {
	t.Helper()
	has := okTree(x) && isOf(k, x)
	if impl.KindHas(k, x) != has {
		t.Errorf("%s has %v: %v", textOf(k), x, !has)
	}
	if !okTree(x) {
		return has
	}
	kindBehind, _ := impl.KindRead(impl.KindWrite(k))
	treeBehind, _ := impl.TreeRead(impl.TreeWrite(x))
	if impl.KindHas(kindBehind, treeBehind) != has || impl.KindHas(kindBehind, x) != has || impl.KindHas(k, treeBehind) != has {
		t.Errorf("%s has %s: %v, but not so when they are written and read", textOf(k), impl.TreeWrite(x), has)
	}
	return has
}

// P5: each of some schemas against the trees of all of them.
func TestKindEachAgainstEach(t *testing.T) {
	leaves := []kind{kNum, kText, kFlag, kForm("")}
	kinds := slices.Clone(leaves)
	for _, a := range leaves {
		kinds = append(kinds, kList(a), kMaybe(a), kForm("a", a), kForm("b", a), kList(kMaybe(a)), kMaybe(kList(a)), kList(kForm("a", a)))
		for _, b := range leaves {
			kinds = append(kinds, kForm("a b", a, b), kForm("a c", a, b))
		}
	}
	r := rand.New(rand.NewSource(3))
	var trees []tree
	for _, k := range kinds {
		for range 6 {
			trees = append(trees, treeOfKind(r, k))
		}
	}
	for _, k := range kinds {
		for _, x := range trees {
			wantSameBehind(t, k, x)
		}
	}
}

// Every function answers at every argument: also at a schema that holds itself, and at one far too wide to be walked.
func TestKindWithoutEnd(t *testing.T) {
	for _, sort := range []int{impl.TreeList, impl.TreeForm, impl.TreeMaybe} {
		kids := make([]kind, 1)
		k := kind{Sort: sort, Kids: kids}
		if sort == impl.TreeForm {
			k.Names = []string{"a"}
		}
		kids[0] = k
		wantNoKind(t, "holds itself", k)
	}
	endless := make([]tree, 1)
	endless[0] = list(endless...)
	if impl.KindHas(kList(kNum), tree{Sort: impl.TreeList, Kids: endless}) {
		t.Error("an endless tree is of a schema")
	}
	wide := kNum
	for range 40 {
		wide = kForm("a b c d e f g h", wide, wide, wide, wide, wide, wide, wide, wide)
	}
	wantNoKind(t, "8 times 8 ..", wide)
	// A reader that went down so far would run out of its stack, which nothing can recover from.
	wantKindUnread(t, strings.Repeat("[", 30000000))
	for _, sort := range []int{1, 2, 3, 4, 5, 6} {
		wantNoKind(t, "a million kids", kind{Sort: sort, Kids: make([]kind, 1000000)})
		wantNoKind(t, "a million names", kind{Sort: sort, Names: make([]string, 1000000)})
		wantNoKind(t, "a million of both", kind{Sort: sort, Names: make([]string, 1000000), Kids: make([]kind, 1000000)})
	}
}

// The empty list and the nil list are the same value.
func TestKindEmptyAndNil(t *testing.T) {
	for sort, s := range map[int]string{impl.TreeNum: "num", impl.TreeText: "text", impl.TreeFlag: "flag", impl.TreeForm: "{}"} {
		for _, k := range []kind{{Sort: sort}, {Sort: sort, Names: []string{}, Kids: []kind{}}} {
			wantKind(t, k, s)
			for _, x := range []tree{{Sort: sort}, {Sort: sort, Names: []string{}, Kids: []tree{}}} {
				if !impl.KindHas(k, x) {
					t.Errorf("%s has not its first tree", s)
				}
			}
		}
	}
	wantKind(t, kind{Sort: impl.TreeList, Names: []string{}, Kids: []kind{kNum}}, "[num]")
	wantKind(t, kind{Sort: impl.TreeMaybe, Names: []string{}, Kids: []kind{kNum}}, "?num")
	if !impl.KindHas(kMaybe(kNum), tree{Sort: impl.TreeMaybe, Names: []string{}, Kids: []tree{}}) {
		t.Error("?num has not ~")
	}
}

// Nothing is written into an argument, or behind its end.
func TestKindArgumentsStay(t *testing.T) {
	names := []string{"a", "b", "behind"}
	kids := []kind{kList(kNum), kForm("c d", kMaybe(kFlag), kText), kFlag}
	all := kind{Names: names, Kids: kids}
	before := copyKind(all)
	treeNames := []string{"a", "b", "behind"}
	treeKids := []tree{list(num(1), num(2)), form("c d", maybe(flag(1)), text("x")), num(99)}
	x := tree{Sort: impl.TreeForm, Names: treeNames[:2], Kids: treeKids[:2]}
	allTree := tree{Names: treeNames, Kids: treeKids}
	treeBefore := copyTree(allTree)
	for i, k := range []kind{
		{Sort: impl.TreeForm, Names: names[:2], Kids: kids[:2]},
		{Sort: impl.TreeForm, Names: names[:1], Kids: kids[:2]},
		{Sort: impl.TreeForm, Names: names[:1], Kids: kids[:1]},
	} {
		impl.KindOk(k)
		impl.KindWrite(k)
		spoilSpare(impl.KindFirst(k))
		if impl.KindHas(k, x) != (i == 0) {
			t.Errorf("case %d", i)
		}
	}
	if !sameKind(all, before) || !sameTree(allTree, treeBefore) {
		t.Errorf("%v has become %v, %v %v", before, all, treeBefore, allTree)
	}
}

// spoilKindSpare writes into the spare room of each list of a schema.
func spoilKindSpare(k kind) {
	names := k.Names[:cap(k.Names)]
	for i := len(k.Names); i < len(names); i++ {
		names[i] = "spoilt"
	}
	kids := k.Kids[:cap(k.Kids)]
	for i := len(k.Kids); i < len(kids); i++ {
		kids[i] = kind{Sort: 77}
	}
	for _, kid := range k.Kids {
		spoilKindSpare(kid)
	}
}

func wantOwnNames(t *testing.T, k kind, s string) {
	t.Helper()
	for _, name := range k.Names {
		if lies(name, s) {
			t.Errorf("%q shares memory with what was read", name)
		}
	}
	for _, kid := range k.Kids {
		wantOwnNames(t, kid, s)
	}
}

// Every answer is new memory: no two lists of one share any, and its texts are its own.
func TestKindAnswersAreNew(t *testing.T) {
	s := strings.Clone("{a:[num],b:{c:?text,d:flag,e:?[flag]},f:[{g:num,h:num,i:num}],j:text,k:{l:{m:num},n:{},o:num}}")
	k, ok := impl.KindRead(s)
	other, _ := impl.KindRead(s)
	if !ok {
		t.Fatal("not read")
	}
	spoilKindSpare(k)
	if impl.KindWrite(k) != s || impl.KindWrite(other) != s {
		t.Errorf("lists of an answer share their memory: %q", impl.KindWrite(k))
	}
	wantOwnNames(t, k, s)

	first, again := impl.KindFirst(k), impl.KindFirst(k)
	written := impl.TreeWrite(first)
	spoilSpare(first)
	if impl.TreeWrite(first) != written {
		t.Errorf("lists of a first tree share their memory: %q", impl.TreeWrite(first))
	}
	wantNamesApart(t, first, k)
	first.Names[0], first.Kids[1].Names[0], first.Kids[0] = "z", "z", num(9)
	if impl.KindWrite(k) != s || impl.TreeWrite(again) != written {
		t.Errorf("a first tree shares memory with its schema, or another one: %q %q", impl.KindWrite(k), impl.TreeWrite(again))
	}
	k.Names[0], k.Kids[0] = "z", kFlag
	if impl.KindWrite(other) != s {
		t.Error("two answers share their memory")
	}
}

// wantNamesApart: the names of a first tree lie elsewhere than those of its schema.
func wantNamesApart(t *testing.T, first tree, k kind) {
	t.Helper()
	for i, name := range first.Names {
		if lies(name, k.Names[i]) {
			t.Errorf("%q shares memory with the schema", name)
		}
	}
	for i, kid := range first.Kids {
		wantNamesApart(t, kid, k.Kids[i])
	}
}
