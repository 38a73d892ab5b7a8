package tests

import (
	"fmt"
	"math"
	"math/rand"
	"strings"
	"testing"
	"unsafe"

	"loop.example/teagle/impl"
)

type tree = impl.Tree

func num(n int) tree          { return tree{Sort: impl.TreeNum, Num: n} }
func text(s string) tree      { return tree{Sort: impl.TreeText, Text: s} }
func flag(n int) tree         { return tree{Sort: impl.TreeFlag, Num: n} }
func list(kids ...tree) tree  { return tree{Sort: impl.TreeList, Kids: kids} }
func maybe(kids ...tree) tree { return tree{Sort: impl.TreeMaybe, Kids: kids} }

func form(names string, kids ...tree) tree {
	return tree{Sort: impl.TreeForm, Names: strings.Fields(names), Kids: kids}
}

func repeat(t tree, n int) []tree {
	var ts []tree
	for range n {
		ts = append(ts, t)
	}
	return ts
}

// within puts a tree below some levels of what may be nothing.
func within(t tree, levels int) tree {
	for range levels {
		t = maybe(t)
	}
	return t
}

// fields is a form of n kids, with names of all eight bytes that ascend.
func fields(n int, kid tree) tree {
	var names []string
	for i := range n {
		names = append(names, fmt.Sprintf("name%04d", i))
	}
	return form(strings.Join(names, " "), repeat(kid, n)...)
}

// sameTree holds two trees against each other; a nil list is an empty one.
func sameTree(a, b tree) bool {
	if a.Sort != b.Sort || a.Num != b.Num || a.Text != b.Text || len(a.Names) != len(b.Names) || len(a.Kids) != len(b.Kids) {
		return false
	}
	for i := range a.Names {
		if a.Names[i] != b.Names[i] {
			return false
		}
	}
	for i := range a.Kids {
		if !sameTree(a.Kids[i], b.Kids[i]) {
			return false
		}
	}
	return true
}

// copyTree copies all of a tree, so that a write into it can be seen.
func copyTree(t tree) tree {
	t.Names = append([]string(nil), t.Names...)
	kids := t.Kids
	t.Kids = nil
	for _, kid := range kids {
		t.Kids = append(t.Kids, copyTree(kid))
	}
	return t
}

func parts(t tree) int {
	n := 1
	for _, kid := range t.Kids {
		n += parts(kid)
	}
	return n
}

func levels(t tree) int {
	most := 0
	for _, kid := range t.Kids {
		most = max(most, levels(kid))
	}
	return most + 1
}

func wantOk(t *testing.T, x tree, wanted string) {
	t.Helper()
	got := impl.TreeWrite(x)
	if !impl.TreeOk(x) || impl.TreeParts(x) != parts(x) || got != wanted {
		t.Errorf("%q: ok %v, %d parts of %d, text %q", wanted, impl.TreeOk(x), impl.TreeParts(x), parts(x), got)
	}
	wantThereAndBack(t, x)
}

func wantThereAndBack(t *testing.T, x tree) {
	t.Helper()
	written := impl.TreeWrite(x)
	if written == "" || len(written) > impl.TreeMaxWrite {
		t.Errorf("%v is written in %d bytes", x, len(written))
	}
	back, ok := impl.TreeRead(written)
	if !ok || !sameTree(back, x) {
		t.Errorf("%q is read back as %v %v", written, back, ok)
	}
}

func wantNotOk(t *testing.T, what string, x tree) {
	t.Helper()
	if impl.TreeOk(x) || impl.TreeParts(x) != 0 || impl.TreeWrite(x) != "" {
		t.Errorf("%s: ok %v, %d parts, text %q", what, impl.TreeOk(x), impl.TreeParts(x), impl.TreeWrite(x))
	}
}

func wantUnread(t *testing.T, s string) {
	t.Helper()
	x, ok := impl.TreeRead(s)
	if ok || !sameTree(x, tree{}) {
		t.Errorf("%q is read as %v %v", s, x, ok)
	}
}

// P1: ordinary trees of all six sorts.
func TestTreeOfEachSort(t *testing.T) {
	for _, c := range []struct {
		tree tree
		text string
	}{
		{num(0), "0"}, {num(7), "7"}, {num(-7), "-7"}, {num(10), "10"}, {num(-100), "-100"},
		{text(""), `""`}, {text("a b"), `"a b"`}, {text("[1,{}]~?"), `"[1,{}]~?"`}, {text(`\`), `"\"`},
		{flag(1), "yes"}, {flag(0), "no"},
		{list(), "[]"}, {list(num(1)), "[1]"}, {list(num(1), text("x"), list()), `[1,"x",[]]`},
		{form(""), "{}"}, {form("a", num(1)), "{a:1}"}, {form("a aa b b0 bb", num(5), num(4), num(3), num(2), num(1)), "{a:5,aa:4,b:3,b0:2,bb:1}"},
		{form("end no yes", flag(1), flag(0), flag(1)), "{end:yes,no:no,yes:yes}"},
		{maybe(), "~"}, {maybe(maybe()), "?~"}, {maybe(num(5)), "?5"}, {maybe(maybe(text("~"))), `??"~"`},
		{form("a b", num(1), maybe(form("c", flag(0)))), "{a:1,b:?{c:no}}"},
		{list(form("n", maybe()), form("n", maybe(list(flag(1), num(-1))))), "[{n:~},{n:?[yes,-1]}]"},
	} {
		wantOk(t, c.tree, c.text)
	}
}

// P1: limits that are just met.
func TestTreeLimitsMet(t *testing.T) {
	wantOk(t, num(999999999), "999999999")
	wantOk(t, num(-999999999), "-999999999")
	sixty := strings.Repeat("x", 60)
	wantOk(t, text(sixty), `"`+sixty+`"`)
	for b := 32; b <= 126; b++ {
		if b != '"' {
			wantOk(t, text(string(rune(b))), `"`+string(rune(b))+`"`)
		}
	}
	wantOk(t, form("abcdefg9", num(1)), "{abcdefg9:1}")
	wantOk(t, form("a z", num(1), num(2)), "{a:1,z:2}")
	wantOk(t, list(repeat(num(1), 20)...), "[1"+strings.Repeat(",1", 19)+"]")
	wantOk(t, within(num(1), 5), "?????1")
	wantOk(t, list(list(list(list(list(list()))))), "[[[[[[]]]]]]")
	wantOk(t, form("a", form("a", form("a", form("a", form("a", num(1)))))), "{a:{a:{a:{a:{a:1}}}}}")

	full := fields(119, num(1))
	if impl.TreeParts(full) != 120 {
		t.Errorf("%d parts of 120", impl.TreeParts(full))
	}
	wantThereAndBack(t, full)
	spread := list(repeat(list(num(1), num(1), num(1), num(1)), 20)...)
	both := form("a b", spread, list(repeat(num(1), 17)...))
	if impl.TreeParts(both) != 120 {
		t.Errorf("%d parts of 120", impl.TreeParts(both))
	}
	wantThereAndBack(t, both)
	longest := fields(119, text(sixty))
	if n := len(impl.TreeWrite(longest)); n != 8569 {
		t.Errorf("the longest text has %d bytes", n)
	}
	wantThereAndBack(t, longest)
}

// P1: limits that are passed by one, and by much.
func TestTreeLimitsPassed(t *testing.T) {
	for _, n := range []int{1000000000, -1000000000, math.MaxInt, math.MinInt} {
		wantNotOk(t, "number", num(n))
	}
	wantNotOk(t, "text of 61", text(strings.Repeat("x", 61)))
	wantNotOk(t, "name of 9", form("abcdefghi", num(1)))
	wantNotOk(t, "list of 21", list(repeat(num(1), 21)...))
	wantNotOk(t, "form of 121 parts", fields(120, num(1)))
	spread := list(repeat(list(num(1), num(1), num(1), num(1)), 20)...)
	wantNotOk(t, "121 parts in lists", form("a b", spread, list(repeat(num(1), 18)...)))
	wantNotOk(t, "7 levels", within(num(1), 6))
	wantNotOk(t, "7 levels behind a flat kid", list(num(1), within(list(), 5)))
	wantNotOk(t, "7 levels of forms", form("a", form("a", form("a", form("a", form("a", form("a", num(1))))))))
}

// P1: trees that have not what their sort has, or more than that.
func badTrees() map[string]tree {
	one := num(1)
	bad := map[string]tree{
		"nothing": {}, "sort 7": {Sort: 7}, "sort -1": {Sort: -1}, "sort far off": {Sort: math.MinInt}, "sort 256": {Sort: 256},
		"flag 2": flag(2), "flag -1": flag(-1),
		"form without names": {Sort: impl.TreeForm, Kids: []tree{one}},
		"form without kids":  {Sort: impl.TreeForm, Names: []string{"a"}},
		"more names":         form("a b", one), "more kids": form("a", one, one),
		"names descend": form("b a", one, one), "names alike": form("a a", one, one), "longer name first": form("aa a", one, one),
		"late names descend": form("a c b", one, one, one),
		"maybe of two":       maybe(one, one),
	}
	for _, name := range []string{"", "A", "a-b", "a b", "9a", "0", "_", "a_", "ä", "a\x00", "a\n", "Ab", "aB", "a{", "`", "a:"} {
		bad[fmt.Sprintf("name %q", name)] = tree{Sort: impl.TreeForm, Names: []string{name}, Kids: []tree{one}}
	}
	for b := range 256 {
		if b < 32 || b > 126 || b == '"' {
			bad[fmt.Sprintf("text with byte %d", b)] = text("a" + string([]byte{byte(b)}))
		}
	}
	for sort, has := range map[int]string{1: "n", 2: "t", 3: "n", 4: "k", 5: "", 6: "k"} {
		for _, field := range []string{"n", "t", "s", "k"} {
			if !strings.Contains(has, field) {
				x := tree{Sort: sort}
				switch field {
				case "n":
					x.Num = 1
				case "t":
					x.Text = "a"
				case "s":
					x.Names = []string{"a"}
				case "k":
					x.Kids = []tree{one}
				}
				bad[fmt.Sprintf("sort %d with %s", sort, field)] = x
			}
		}
	}
	return bad
}

func TestTreeNotOk(t *testing.T) {
	for what, x := range badTrees() {
		wantNotOk(t, what, x)
		wantNotOk(t, what+" in a list", list(num(1), x))
		wantNotOk(t, what+" in a form", form("a b", x, num(1)))
		wantNotOk(t, what+" in a maybe", maybe(x))
		wantNotOk(t, what+" far below", form("a", list(maybe(list(x)))))
	}
}

// P2: texts that are no tree's text.
func TestTreeUnread(t *testing.T) {
	for _, s := range []string{
		"", "-", "+1", "00", "01", "-0", "-01", "-00", "--1", "1-", "1.0", "0x1", "1_0", "1e3", "1000000000", "-1000000000", "99999999999999999999", "1 ", " 1", "\t1", "1\n", "1\x00", "\x00",
		`"`, `"a`, `a"`, `"a"b`, `"""`, `"a""b"`, "\"\x1f\"", "\"\x7f\"", "\"\xff\"", "\"a\nb\"", "'a'", ` "a"`, `"a" `,
		"y", "ye", "yess", "yesno", "n", "nope", "YES", "No", "true", "1yes",
		"[", "]", "[1", "1]", "[1,", "[1,]", "[,1]", "[,]", "[1,,2]", "[1 ,2]", "[1, 2]", "[ 1]", "[1 ]", "[ ]", "[1;2]", "[1]]", "[[1]", "[1}", "[12 3]", "[01]",
		"{", "}", "{a", "{a}", "{a:", "{a:}", "{a:1", "{a:1,", "{a:1,}", "{,a:1}", "{:1}", "{a:1]", "{a :1}", "{a: 1}", "{ a:1}", "{a:1 }", "{ }", "{a:1, b:2}", "{a=1}", `{"a":1}`,
		"{b:1,a:2}", "{a:1,a:2}", "{aa:1,a:2}", "{a:1,c:2,b:3}", "{A:1}", "{9a:1}", "{9:1}", "{a_:1}", "{ä:1}", "{abcdefghi:1}", "{a:1}{b:2}", "{a:1;b:2}",
		"?", "??", "~1", "~~", "? 1", "?~1", "?1?1", "?~~", "? ~", "a", "_", "@", ",", ":",
		"??????1", "??????~", "[[[[[[1]]]]]]", "[[[[[[[]]]]]]]", "{a:{a:{a:{a:{a:{a:1}}}}}}",
		strings.Repeat("[", 5000), strings.Repeat("?", 9999) + "1", strings.Repeat("[", 5000) + strings.Repeat("]", 5000),
		`"` + strings.Repeat("x", 61) + `"`, `"` + strings.Repeat("x", 9998) + `"`, `"` + strings.Repeat("x", 9999) + `"`,
		"[1" + strings.Repeat(",1", 20) + "]", strings.Repeat("9", 10000), strings.Repeat("9", 10001), strings.Repeat("0", 10000) + "1",
		"{a:1," + strings.Repeat(" ", 9990) + "b:1}",
	} {
		wantUnread(t, s)
	}
	var s strings.Builder
	for i := range 120 {
		fmt.Fprintf(&s, ",n%03d:1", i)
	}
	wantUnread(t, "{"+s.String()[1:]+"}")
	for b := range 256 {
		if b < 32 || b > 126 || b == '"' {
			wantUnread(t, `"a`+string([]byte{byte(b)})+`"`)
		}
	}
}

// wantOneText: what is read is a tree that is ok, and this is its text; what is not read is nothing.
func wantOneText(t *testing.T, s string) {
	t.Helper()
	x, ok := impl.TreeRead(s)
	if !ok && !sameTree(x, tree{}) {
		t.Errorf("%q is not read, but beside that there is %v", s, x)
	}
	if ok && (!impl.TreeOk(x) || impl.TreeWrite(x) != s) {
		t.Errorf("%q is read as what is written %q", s, impl.TreeWrite(x))
	}
}

// P2: each text that lies a byte beside a tree's text.
func TestTreeOneText(t *testing.T) {
	for _, s := range []string{"0", "-70", "999999999", `""`, `"a b"`, "yes", "no", "~", "??~", "?????1", "[]", `[1,"x",[]]`, "{}", "{a:1,ab:?{c:no}}", "[[[[[1]]]]]", "{a:[-1,{b:~}],abcdefgh:yes}"} {
		if _, ok := impl.TreeRead(s); !ok {
			t.Errorf("%q is not read", s)
		}
		for i := range len(s) + 1 {
			wantOneText(t, s[:i])
			wantOneText(t, s[i:])
			for b := range 256 {
				c := string([]byte{byte(b)})
				wantOneText(t, s[:i]+c+s[i:])
				if i < len(s) {
					wantOneText(t, s[:i]+c+s[i+1:])
				}
			}
			if i < len(s) {
				wantOneText(t, s[:i]+s[i+1:])
			}
		}
	}
}

// P2: all texts of a few bytes of which trees are made.
func TestTreeShortTexts(t *testing.T) {
	const bytes = "01-\"[]{}:,?~a yesno"
	read := map[string]bool{}
	var all func(s string, left int)
	all = func(s string, left int) {
		wantOneText(t, s)
		if _, ok := impl.TreeRead(s); ok {
			read[s] = true
		}
		if left == 0 {
			return
		}
		for i := range len(bytes) {
			all(s+bytes[i:i+1], left-1)
		}
	}
	all("", 4)
	for _, s := range []string{"0", "1", "10", "-1", "-101", `""`, `"a "`, "yes", "?yes", "no", "[no]", "[]", "[-1]", "{}", "~", "???~", "[[]]", "[{}]"} {
		if !read[s] {
			t.Errorf("%q is not read", s)
		}
	}
}

// okTree says by itself what the document's table says.
func okTree(t tree) bool {
	return parts(t) <= 120 && levels(t) <= 6 && okInside(t)
}

func okInside(t tree) bool {
	for _, kid := range t.Kids {
		if !okInside(kid) {
			return false
		}
	}
	rest := t
	rest.Sort = 0
	ok := false
	switch t.Sort {
	case 1:
		rest.Num, ok = 0, t.Num >= -999999999 && t.Num <= 999999999
	case 2:
		rest.Text, ok = "", len(t.Text) <= 60 && strings.Trim(t.Text, " !#$%&'()*+,-./0123456789:;<=>?@ABCDEFGHIJKLMNOPQRSTUVWXYZ[\\]^_`abcdefghijklmnopqrstuvwxyz{|}~") == ""
	case 3:
		rest.Num, ok = 0, t.Num == 0 || t.Num == 1
	case 4:
		rest.Kids, ok = nil, len(t.Kids) <= 20
	case 5:
		rest.Names, rest.Kids, ok = nil, nil, len(t.Names) == len(t.Kids) && okNames(t.Names)
	case 6:
		rest.Kids, ok = nil, len(t.Kids) <= 1
	}
	return ok && sameTree(rest, tree{})
}

func okNames(names []string) bool {
	for i, name := range names {
		if i > 0 && strings.Compare(names[i-1], name) >= 0 {
			return false
		}
		if name == "" || len(name) > 8 || strings.Trim(name, "abcdefghijklmnopqrstuvwxyz0123456789") != "" || strings.ContainsAny(name[:1], "0123456789") {
			return false
		}
	}
	return true
}

// anyTree makes a tree, often an ok one; one in some hundred parts is spoilt.
func anyTree(r *rand.Rand, deep int) tree {
	t := tree{Sort: 1 + r.Intn(6)}
	if deep <= 1 && t.Sort > 3 && r.Intn(10) > 0 {
		t.Sort -= 3
	}
	kids := 0
	switch t.Sort {
	case 1:
		t.Num = r.Intn(2000000001) - 1000000000
		if r.Intn(2) == 0 {
			t.Num = r.Intn(201) - 100
		}
	case 2:
		t.Text = strings.Repeat("~ a!", 16)[:r.Intn(5)]
		if r.Intn(20) == 0 {
			t.Text = strings.Repeat("x", 58+r.Intn(4))
		}
	case 3:
		t.Num = r.Intn(2)
	case 4:
		kids = r.Intn(5)
		if r.Intn(20) == 0 {
			kids = 18 + r.Intn(5)
		}
	case 5:
		kids = r.Intn(5)
	case 6:
		kids = r.Intn(2)
	}
	for i := range kids {
		if t.Sort == 5 {
			t.Names = append(t.Names, fmt.Sprintf("%c%d", 'a'+i, r.Intn(1000)))
		}
		t.Kids = append(t.Kids, anyTree(r, deep-1))
	}
	if r.Intn(300) == 0 {
		spoil(r, &t)
	}
	return t
}

func spoil(r *rand.Rand, t *tree) {
	switch r.Intn(6) {
	case 0:
		t.Sort = r.Intn(9) - 1
	case 1:
		t.Num++
	case 2:
		t.Text += "a"
	case 3:
		t.Names = append(t.Names, "a")
	case 4:
		t.Kids = append(t.Kids, num(1))
	case 5:
		for i := range t.Names {
			t.Names[i] = t.Names[len(t.Names)-1-i]
		}
	}
}

// P1, P2: many trees, held against the table of the document as it is told here.
func TestTreeMany(t *testing.T) {
	r := rand.New(rand.NewSource(1))
	fine, spoilt := 0, 0
	seen := map[string]tree{}
	for range 20000 {
		x := anyTree(r, 1+r.Intn(7))
		if !okTree(x) {
			spoilt++
			wantNotOk(t, fmt.Sprint(x), x)
			continue
		}
		fine++
		wantOk(t, x, impl.TreeWrite(x))
		written := impl.TreeWrite(x)
		if y, is := seen[written]; is && !sameTree(x, y) {
			t.Errorf("%q is the text of %v and of %v", written, x, y)
		}
		seen[written] = x
	}
	if fine < 2000 || spoilt < 500 {
		t.Errorf("%d fine, %d spoilt: too few to tell anything", fine, spoilt)
	}
}

// Every function answers at every argument: also at a tree that holds itself, and at one far too wide to be walked.
func TestTreeWithoutEnd(t *testing.T) {
	for _, sort := range []int{impl.TreeList, impl.TreeForm, impl.TreeMaybe} {
		kids := make([]tree, 1)
		x := tree{Sort: sort, Kids: kids}
		if sort == impl.TreeForm {
			x.Names = []string{"a"}
		}
		kids[0] = x
		wantNotOk(t, "holds itself", x)
	}
	wide := num(1)
	for range 12 {
		wide = list(repeat(wide, 20)...)
	}
	wantNotOk(t, "20 times 20 ..", wide)
	wantNotOk(t, "a million kids", list(make([]tree, 1000000)...))
	wantNotOk(t, "a million names", tree{Sort: impl.TreeForm, Names: make([]string, 1000000)})
	wantNotOk(t, "a long text", text(strings.Repeat("x", 1000000)))
	wantUnread(t, strings.Repeat("[", 1000000))
}

// The empty list and the nil list are the same value.
func TestTreeEmptyAndNil(t *testing.T) {
	for sort, s := range map[int]string{impl.TreeNum: "0", impl.TreeText: `""`, impl.TreeFlag: "no", impl.TreeList: "[]", impl.TreeForm: "{}", impl.TreeMaybe: "~"} {
		wantOk(t, tree{Sort: sort}, s)
		wantOk(t, tree{Sort: sort, Names: []string{}, Kids: []tree{}}, s)
	}
}

// Nothing is written into an argument, or behind its end.
func TestTreeArgumentsStay(t *testing.T) {
	names := []string{"a", "b", "behind"}
	kids := []tree{list(num(1), text("x")), maybe(flag(1)), num(99)}
	x := tree{Sort: impl.TreeForm, Names: names[:2], Kids: kids[:2]}
	all := tree{Names: names, Kids: kids}
	before := copyTree(all)
	for _, y := range []tree{x, {Sort: impl.TreeForm, Names: names[:1], Kids: kids[:2]}} {
		impl.TreeOk(y)
		impl.TreeParts(y)
		impl.TreeWrite(y)
	}
	if !sameTree(all, before) {
		t.Errorf("%v has become %v", before, all)
	}
}

// spoilSpare writes into the spare room of each list of a tree.
func spoilSpare(x tree) {
	names := x.Names[:cap(x.Names)]
	for i := len(x.Names); i < len(names); i++ {
		names[i] = "spoilt"
	}
	kids := x.Kids[:cap(x.Kids)]
	for i := len(x.Kids); i < len(kids); i++ {
		kids[i] = tree{Sort: 77}
	}
	for _, kid := range x.Kids {
		spoilSpare(kid)
	}
}

// lies says whether a text lies in the memory of another one.
func lies(part, whole string) bool {
	at := uintptr(unsafe.Pointer(unsafe.StringData(part)))
	from := uintptr(unsafe.Pointer(unsafe.StringData(whole)))
	return part != "" && at >= from && at < from+uintptr(len(whole))
}

func wantOwnTexts(t *testing.T, x tree, s string) {
	t.Helper()
	for _, part := range append([]string{x.Text}, x.Names...) {
		if lies(part, s) {
			t.Errorf("%q shares memory with what was read", part)
		}
	}
	for _, kid := range x.Kids {
		wantOwnTexts(t, kid, s)
	}
}

// Every answer is new memory: no two lists of one share any, and its texts are its own.
func TestTreeAnswersAreNew(t *testing.T) {
	s := strings.Clone(`{a:[1,2,[3,[],4]],b:{c:?"longer text",d:~,e:?[yes]},f:[{},{g:1,h:2,i:3}],j:"t"}`)
	x, ok := impl.TreeRead(s)
	other, _ := impl.TreeRead(s)
	if !ok {
		t.Fatal("not read")
	}
	spoilSpare(x)
	if impl.TreeWrite(x) != s || impl.TreeWrite(other) != s {
		t.Errorf("lists of an answer share their memory: %q", impl.TreeWrite(x))
	}
	wantOwnTexts(t, x, s)
	x.Names[0], x.Kids[0].Kids[0] = "z", num(9)
	if impl.TreeWrite(other) != s {
		t.Error("two answers share their memory")
	}
}
