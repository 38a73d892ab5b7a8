package tests

import (
	"math/rand"
	"slices"
	"strings"
	"testing"

	"loop.example/teagle/impl"
)

// toldReadBook is by itself the book that a text is, or what is wrong with it.
func toldReadBook(text string) ([]chainType, chainFault) {
	if len(text) > 40000 {
		return nil, chainFault{Code: 8}
	}
	var book []chainType
	type auto struct{ line, kind, version int }
	var autos []auto
	last := ""
	for i, line := range strings.Split(text, "\n") {
		if line == "" {
			continue
		}
		bad := chainFault{Code: 9, Line: i + 1}
		word, rest, _ := strings.Cut(line+"\x00", " ")
		rest = strings.TrimSuffix(rest, "\x00")
		at := len(book) - 1
		switch word {
		case "type":
			if !okNames([]string{rest}) {
				return nil, bad
			}
			book = append(book, chainType{Name: rest})
		case "version":
			k, ok := impl.KindRead(rest)
			if !ok || last != "type" && last != "lift" {
				return nil, bad
			}
			book[at].Versions = append(book[at].Versions, chainVersion{Kind: k})
		case "lift":
			n := node{}
			if rest != "auto" {
				n, bad.Lift = toldLift(rest)
			}
			if bad.Lift.Code != 0 || last != "version" {
				return nil, bad
			}
			version := len(book[at].Versions) - 1
			book[at].Versions[version].Lift = n
			if rest == "auto" {
				autos = append(autos, auto{i + 1, at, version})
			}
		default:
			return nil, bad
		}
		last = word
	}
	for _, a := range autos {
		vs := book[a.kind].Versions
		if a.version == len(vs)-1 {
			return nil, chainFault{Code: 9, Line: a.line}
		}
		made, ok := toldMake(vs[a.version].Kind, vs[a.version+1].Kind)
		if !ok {
			return nil, chainFault{Code: 9, Line: a.line}
		}
		vs[a.version].Lift = made
	}
	if f := toldBook(book); f.Code != 0 {
		return nil, f
	}
	return book, chainFault{}
}

// wantBookRead: a text is this book, or has this fault; P34 and P35 hold. The tests themselves tell the same.
func wantBookRead(t *testing.T, text string, wanted []chainType, fault chainFault) {
	t.Helper()
	book, f := impl.ChainRead(text)
	if f != fault || !sameBook(book, wanted) {
		t.Errorf("%.300q: %+v %.300q, wanted %+v %.300q", text, f, impl.ChainWrite(book), fault, toldLines(wanted))
	}
	if told, f := toldReadBook(text); f != fault || !sameBook(told, wanted) {
		t.Errorf("%.300q: the tests themselves tell %+v, wanted %+v", text, f, fault)
	}
	wantReadAgain(t, text, book, f)
}

// wantReadAgain is P35: what is read as a book is one, and is written so that it is read again as it; a line is told just with ChainBadLine.
func wantReadAgain(t *testing.T, text string, book []chainType, f chainFault) {
	t.Helper()
	if (f.Line != 0) != (f.Code == impl.ChainBadLine) || f.Line > strings.Count(text, "\n")+1 || f.Code != 0 && len(book) != 0 || f.Code == impl.ChainBadLine && (f.Type != 0 || f.Version != 0) {
		t.Errorf("%.300q: %+v of %d lines", text, f, strings.Count(text, "\n")+1)
	}
	if f.Code != 0 {
		return
	}
	if f := impl.ChainCheck(book); f != (chainFault{}) {
		t.Errorf("%.300q is read as a book with %+v", text, f)
	}
	wantWritten(t, book)
}

// wantWritten is P34: a book that is ok is written as the tests tell, and read back as it.
func wantWritten(t *testing.T, book []chainType) {
	t.Helper()
	written := impl.ChainWrite(book)
	if written != toldLines(book) {
		t.Errorf("written %.300q, wanted %.300q", written, toldLines(book))
	}
	if again, f := impl.ChainRead(written); f != (chainFault{}) || !sameBook(again, book) {
		t.Errorf("%.300q is read back with %+v as %.300q", written, f, impl.ChainWrite(again))
	}
}

// wantLine: a text has a fault at a line.
func wantLine(t *testing.T, text string, line int) {
	t.Helper()
	wantBookRead(t, text, nil, chainFault{Code: impl.ChainBadLine, Line: line})
}

// P34: ordinary books whose texts are known, in both directions; the document's own.
func TestBookTextOrdinary(t *testing.T) {
	for _, s := range []string{
		"", "type a\nversion {}\n", "type a\nversion {}\nlift drop\nversion {}\n", "type a\nversion {a:num}\nlift emit form b get a old end\nversion {b:num}\nlift fail 3\nversion {}\ntype bb\nversion {x:?[text]}\n", "type a\nversion {}\nlift send c 1 old\nversion {}\ntype b\nversion {}\ntype c\nversion {}\n", "type type\nversion {version:num}\nlift emit form lift get version old end\nversion {lift:num}\ntype lift\nversion {type:text}\ntype version\nversion {auto:flag}\ntype auto\nversion {}\n",
		"type a\nversion {t:text}\nlift emit form t \"a  b\" end\nversion {t:text}\n",
	} {
		book := bookOf(t, s)
		wantBookRead(t, s, book, chainFault{})
		if written := impl.ChainWrite(book); written != s {
			t.Errorf("%q is written %q", s, written)
		}
	}
	written := strings.Replace(theExample, "lift auto", "lift emit form id get id old tag none text end", 1)
	book := bookOf(t, theExample)
	wantBookRead(t, theExample, book, chainFault{})
	wantBookRead(t, written, book, chainFault{})
	if s := impl.ChainWrite(book); s != written {
		t.Errorf("the example is written %q", s)
	}
	// As LiftParse reads: more spaces within; written with one.
	wantBookRead(t, "type a\nversion {}\nlift  both drop   drop \nversion {}", bookOf(t, "type a\nversion {}\nlift both drop drop\nversion {}"), chainFault{})
	wantBookRead(t, "type a\nversion {}\nlift auto\nversion {a:?num}\nlift auto\nversion {a:?num,b:?text}\ntype b\nversion {}\nlift auto\nversion {}", bookOf(t, "type a\nversion {}\nlift emit form a none num end\nversion {a:?num}\nlift emit form a get a old b none text end\nversion {a:?num,b:?text}\ntype b\nversion {}\nlift emit old\nversion {}"), chainFault{})
}

// P35: empty lines, the end of the text, and all that stands around.
func TestBookTextLines(t *testing.T) {
	book := bookOf(t, theExample)
	lines := strings.Split(strings.TrimSuffix(theExample, "\n"), "\n")
	wantBookRead(t, strings.Join(lines, "\n"), book, chainFault{})
	for i := range len(lines) + 1 {
		for _, empty := range []int{1, 2, 5} {
			more := slices.Insert(slices.Clone(lines), i, slices.Repeat([]string{""}, empty)...)
			wantBookRead(t, strings.Join(more, "\n"), book, chainFault{})
			wantBookRead(t, strings.Join(more, "\n")+"\n\n", book, chainFault{})
		}
		// A line that is none, wherever it stands.
		for _, line := range []string{" ", "what", "types a", "Type a", "type", "version", "lift", "type ", "version ", "\t", "\r", "type\ta", "type a\r", "type  a", "type a ", " type a", "version  {}", "version {} ", " version {}", "version { }", "version num,", "lift\tdrop", "auto", "type a b", "type 1a", "type A", "type ninebytes", "#", "version {a:num", "version {b:num,a:num}", "end"} {
			more := slices.Insert(slices.Clone(lines), i, line)
			wantLine(t, strings.Join(more, "\n"), i+1)
		}
		wantLine(t, strings.Join(slices.Insert(slices.Clone(lines), i, "", "what"), "\n"), i+2)
	}
	for i := range lines {
		// A carriage return at the end of a line.
		spoilt := slices.Clone(lines)
		spoilt[i] += "\r"
		if _, f := impl.ChainRead(strings.Join(spoilt, "\n")); f.Code != 9 || f.Line != i+1 {
			t.Errorf("the line %d: %+v", i+1, f)
		}
		// A line twice, and one that is not there.
		for _, other := range [][]string{slices.Insert(slices.Clone(lines), i, lines[i]), slices.Delete(slices.Clone(lines), i, i+1)} {
			told, f := toldReadBook(strings.Join(other, "\n"))
			wantBookRead(t, strings.Join(other, "\n"), told, f)
		}
	}
	for n := range 5 {
		wantBookRead(t, strings.Repeat("\n", n), nil, chainFault{})
	}
	wantBookRead(t, strings.Repeat("\n", 40000), nil, chainFault{})
	wantBookRead(t, strings.Repeat("\n", 40001), nil, chainFault{Code: impl.ChainLong})
}

// P35: which line may stand where.
func TestBookTextOrder(t *testing.T) {
	for _, row := range []struct {
		text string
		line int
	}{
		{"version {}", 1}, {"lift drop", 1}, {"lift auto", 1}, {"\n\nversion {}", 3}, {"type a\nlift drop", 2}, {"type a\n\n\nlift drop", 4}, {"type a\nlift auto", 2}, {"type a\nversion {}\nversion {}", 3}, {"type a\nversion {}\n\nversion {}", 4}, {"type a\nversion {}\nlift drop\nlift drop", 4}, {"type a\nversion {}\nlift drop\n\n\nlift auto", 6}, {"type a\nversion {}\nlift auto\nlift drop\nversion {}", 4}, {"type a\nversion {}\ntype b\nlift drop", 4}, {"type a\nversion {}\nlift drop\ntype b\nlift drop", 5},
		// `lift auto` without a next version, or between schemas that do not fit.
		{"type a\nversion {}\nlift auto", 3}, {"type a\nversion {}\nlift auto\n", 3}, {"type a\nversion {}\nlift auto\ntype b\nversion {}", 3}, {"type a\nversion {}\nlift drop\nversion {}\nlift auto\n\ntype b\nversion {}", 5}, {"type a\nversion {a:num}\nlift auto\nversion {}", 3}, {"type a\nversion {}\nlift auto\nversion {a:num}", 3}, {"type a\nversion num\nlift auto\nversion num", 3}, {"type a\nversion {}\nlift auto\nversion num", 3}, {"type a\nversion {a:num}\nlift auto\nversion {a:text}", 3},
		// Several of them: the first one in order; a line further down is found ahead of them.
		{"type a\nversion {}\nlift auto\nversion {}\nlift auto\nversion {a:num}", 5}, {"type a\nversion {a:num}\nlift auto\nversion {}\nlift auto\nversion {a:num}", 3}, {"type a\nversion {a:num}\nlift auto\nversion {}\nwhat", 5}, {"type a\nversion {}\nlift auto\ntype b\nversion {}\nversion {}", 6}, {"type a\nversion {}\nlift auto\nversion {a:?num}\nlift auto\nversion {}\nlift auto\n\nlift auto", 9}, {"type a\nversion {}\nlift auto\nversion {}\nlift auto", 5},
		{"type a\nversion {}\nlift auto\nversion {a:num}\ntype a\nversion {}", 3},
	} {
		wantLine(t, row.text, row.line)
	}
	// Not just `auto`.
	for _, rest := range []string{"auto ", " auto", "auto auto", "Auto", "auto\r", "auto drop", "aut", "autos"} {
		wantBookRead(t, "type a\nversion {}\nlift "+rest+"\nversion {}", nil, chainFault{Code: 9, Line: 3, Lift: fault{Code: 2}})
	}
	// What LiftParse finds is told, with its line.
	for _, row := range []struct {
		words string
		f     fault
	}{
		{"emit", fault{Code: 2, At: 1}}, {"emit 5 6", fault{Code: 2, At: 2}}, {"", fault{Code: 2}}, {"what", fault{Code: 2}}, {"5", fault{Code: 2}}, {"both drop", fault{Code: 2, At: 2}}, {"fail 100", fault{Code: 2, At: 1}}, {"take add 1 drop", fault{Code: 2, At: 1}}, {strings.Repeat("both drop ", 24) + "drop", fault{Code: 3, At: 47}}, {"drop" + spaces(3000), fault{Code: 1}},
	} {
		_, told := toldLift(row.words)
		if told.Code != row.f.Code {
			t.Errorf("%.50q: the tests themselves tell %v", row.words, told)
		}
		wantBookRead(t, "type a\nversion {}\nlift "+row.words+"\nversion {}", nil, chainFault{Code: 9, Line: 3, Lift: told})
		wantBookRead(t, "\ntype a\nversion {}\nlift drop\nversion {}\n\nlift "+row.words+"\nwhat", nil, chainFault{Code: 9, Line: 7, Lift: told})
		// Wherever it stands.
		wantBookRead(t, "type a\nlift "+row.words, nil, chainFault{Code: 9, Line: 2, Lift: told})
	}
	wantLine(t, "type a\nversion {}\nlift", 3)
}

// P35: what ChainCheck finds, with Line 0; behind all lines.
func TestBookTextFaults(t *testing.T) {
	for _, row := range []struct {
		text   string
		wanted chainFault
	}{
		{"type a", chainFault{Code: 3, Type: 1}}, {"type a\n\n", chainFault{Code: 3, Type: 1}}, {"type a\nversion {}\ntype b", chainFault{Code: 3, Type: 2}}, {"type a\ntype b\nversion {}", chainFault{Code: 3, Type: 1}}, {"type a\nversion num", chainFault{Code: 4, Type: 1, Version: 1}}, {"type a\nversion {}\nlift drop\nversion [num]", chainFault{Code: 4, Type: 1, Version: 2}}, {"type a\nversion {}\nlift drop", chainFault{Code: 5, Type: 1, Version: 1}}, {"type a\nversion {}\nlift drop\ntype b\nversion {}", chainFault{Code: 5, Type: 1, Version: 1}},
		{"type a\nversion {}\ntype a\nversion {}", chainFault{Code: 2, Type: 2}}, {"type a\nversion {}\nlift emit 5\nversion {}", chainFault{Code: 6, Type: 1, Version: 1, Lift: fault{Code: 6, At: 1}}}, {"type a\nversion {}\nlift send b 1 old\nversion {}", chainFault{Code: 6, Type: 1, Version: 1, Lift: fault{Code: 5}}}, {strings.Repeat("type a\n", 9), chainFault{Code: 1}}, {"type a\n" + strings.Repeat("version {}\nlift drop\n", 12) + "version {}", chainFault{Code: 3, Type: 1}}, {"type a\n" + strings.Repeat("version {}\nlift auto\n", 12) + "version {}", chainFault{Code: 3, Type: 1}},
		{"type a\nversion {l:[num]}\nlift each x get l old emit old\nversion {l:[num]}\nlift each x get l old both emit old emit old\nversion {l:[num]}", chainFault{Code: 7, Type: 1, Version: 1}},
		// An auto that cannot be derived comes first, whatever ChainCheck finds.
		{"type a\nversion {}\nlift auto\nversion {a:num}\ntype a", chainFault{Code: 9, Line: 3}},
	} {
		wantBookRead(t, row.text, nil, row.wanted)
	}
	// Just ChainMaxText bytes, and one more, with lines that are none or are empty too.
	for _, bytes := range []int{39999, 40000, 40001, 40002} {
		text := toldLines(longBook(t, bytes))
		if bytes <= 40000 {
			wantBookRead(t, text, longBook(t, bytes), chainFault{})
			wantLine(t, "x"+text[1:], 1)
			continue
		}
		wantBookRead(t, text, nil, chainFault{Code: impl.ChainLong})
		wantBookRead(t, "x"+text[1:], nil, chainFault{Code: impl.ChainLong})
	}
	exact := toldLines(longBook(t, 40000))
	wantBookRead(t, exact+"\n", nil, chainFault{Code: impl.ChainLong})
	wantBookRead(t, strings.TrimSuffix(exact, "\n"), longBook(t, 40000), chainFault{})
	// A text that is short enough, whose book's own text is too long: without its last newline, and by what is derived.
	over := toldLines(longBook(t, 40001))
	wantBookRead(t, strings.TrimSuffix(over, "\n"), nil, chainFault{Code: impl.ChainLong})
	auto := "type c\nversion {}\nlift auto\nversion {}\n"
	derived := toldLines(longBook(t, 40000-len(auto))) + auto
	wantBookRead(t, derived, nil, chainFault{Code: impl.ChainLong})
	wantBookRead(t, strings.Replace(derived, "lift auto", "lift drop", 1), bookOf(t, strings.Replace(derived, "lift auto", "lift drop", 1)), chainFault{})
	// Books that are not ok have no text.
	for i, s := range spoilings(t) {
		if written := impl.ChainWrite(s.spoil(goodBook(t))); written != "" {
			t.Errorf("fault %d: %.100q", i, written)
		}
	}
	if impl.ChainWrite(nil) != "" || impl.ChainWrite([]chainType{{}}) != "" {
		t.Error("nothing is written")
	}
	wantWritten(t, goodBook(t))
	wantWritten(t, longBook(t, 40000))
}

// P34, P35: books by chance, and texts that are nearly ones.
func TestBookTextMany(t *testing.T) {
	r := rand.New(rand.NewSource(34))
	codes, books := map[int]int{}, 0
	pieces := []string{"type a", "type b", "version {}", "version {a:num}", "version {a:?num}", "lift drop", "lift auto", "lift emit old", "lift emit", "", "what", "version num", "lift send b 1 old", "type"}
	for range 20000 {
		lines := []string{}
		for range r.Intn(8) {
			lines = append(lines, pieces[r.Intn(len(pieces)*3)%len(pieces)])
		}
		text := strings.Join(lines, "\n")
		book, f := impl.ChainRead(text)
		if told, want := toldReadBook(text); f != want || !sameBook(book, told) {
			t.Fatalf("%q: %+v, but the tests tell %+v", text, f, want)
		}
		wantReadAgain(t, text, book, f)
		codes[f.Code]++
	}
	for range 400 {
		book := chanceBook(t, r)
		text := toldLines(book)
		if impl.ChainCheck(book).Code != 0 {
			if impl.ChainWrite(book) != "" {
				t.Errorf("%q is written", text)
			}
			continue
		}
		books++
		wantWritten(t, book)
		for range 5 {
			at := r.Intn(len(text))
			near := []string{text[:at] + text[at+1:], text[:at] + " " + text[at:], text[:at] + "\n" + text[at:], text[:at] + string("abn:{}[]? \n01"[r.Intn(13)]) + text[at+1:]}[r.Intn(4)]
			book, f := impl.ChainRead(near)
			if told, want := toldReadBook(near); f != want || !sameBook(book, told) {
				t.Fatalf("%q: %+v, but the tests tell %+v", near, f, want)
			}
			wantReadAgain(t, near, book, f)
			codes[f.Code]++
		}
	}
	if books < 150 || codes[0] < 500 || codes[9] < 1000 || codes[3] < 50 || codes[5] < 20 || codes[6] < 20 {
		t.Errorf("%d books, %v", books, codes)
	}
}

// Every function answers at every argument, and nothing is shared or changed.
func TestBookTextMemory(t *testing.T) {
	for _, s := range []string{strings.Repeat("x", 3000000), strings.Repeat("type a\n", 1000000), "\xff", "type \x00", "type a\nversion " + strings.Repeat("[", 30000), "type a\nversion {}\nlift " + strings.Repeat("both ", 7000)} {
		if book, f := impl.ChainRead(s); f.Code == 0 || len(book) != 0 {
			t.Errorf("%.20q is a book", s)
		}
	}
	kinds := make([]kind, 1)
	kinds[0] = kind{Sort: impl.TreeForm, Names: []string{"a"}, Kids: kinds}
	if impl.ChainWrite([]chainType{{Name: "a", Versions: []chainVersion{{Kind: kinds[0]}}}}) != "" || impl.ChainWrite(make([]chainType, 1000000)) != "" {
		t.Error("a book without end is written")
	}
	plain := bookOf(t, theExample)
	book := spareBook(plain)
	written := impl.ChainWrite(book)
	if !sameBook(book, plain) || written != impl.ChainWrite(plain) {
		t.Error("the book was changed")
	}
	wantSpareBook(t, "a book", book)
	read, _ := impl.ChainRead(theExample)
	for _, one := range read {
		wantTextsApart(t, []string{one.Name}, []string{theExample})
		for _, v := range one.Versions {
			wantTextsApart(t, append(namesOf(v.Kind), liftTexts(v.Lift)...), []string{theExample})
		}
	}
	wantBooksApart(t, "ChainRead", func() []chainType { book, _ := impl.ChainRead(theExample); return book })
}

// wantBooksApart writes into one list of a book after another: all others stay, and so does the next answer.
func wantBooksApart(t *testing.T, what string, answer func() []chainType) {
	t.Helper()
	wanted := copyBook(answer())
	for i, one := range wanted {
		for j := range one.Versions {
			for _, spoil := range []func(v *chainVersion){
				func(v *chainVersion) { spoilAllKinds(v.Kind); v.Kind = kind{} },
				func(v *chainVersion) { spoilAllLifts(v.Lift); v.Lift = node{} },
			} {
				book := answer()
				spoil(&book[i].Versions[j])
				for k := range book {
					for l := range book[k].Versions {
						v, w := book[k].Versions[l], wanted[k].Versions[l]
						if same := sameKind(v.Kind, w.Kind) && sameNode(v.Lift, w.Lift); (k != i || l != j) && !same {
							t.Errorf("%s: %d@%d and %d@%d share something", what, i, j+1, k, l+1)
						}
					}
				}
			}
		}
		book := answer()
		vs := book[i].Versions[:cap(book[i].Versions)]
		for j := range vs {
			vs[j] = chainVersion{}
		}
		for k := range book {
			if k != i && !sameBook(book[k:k+1], wanted[k:k+1]) {
				t.Errorf("%s: the types %d and %d share something", what, i, k)
			}
		}
	}
	book := answer()
	for i := range book[:cap(book)] {
		book[:cap(book)][i] = chainType{}
	}
	if !sameBook(answer(), wanted) {
		t.Errorf("%s: an answer shares something", what)
	}
	for i, one := range answer() {
		for j := range one.Versions {
			wantNodesApart(t, what, func() node { return answer()[i].Versions[j].Lift })
		}
	}
}
