package tests

import (
	"fmt"
	"math"
	"math/rand"
	"regexp"
	"slices"
	"strconv"
	"strings"
	"testing"

	"loop.example/teagle/impl"
)

func sameAct(a, b logAct) bool {
	return a.Kind == b.Kind && a.Data == b.Data && a.Cuts == b.Cuts && a.After == b.After && a.Moves == b.Moves && slices.Equal(a.Keep, b.Keep)
}

func sameHappening(a, b teaEvent) bool {
	return a.Kind == b.Kind && a.Key == b.Key && sameEvent(a.Event, b.Event) && a.Part == b.Part && a.Many == b.Many && a.Name == b.Name && sameKind(a.Form, b.Form) && sameNode(a.Lift, b.Lift) && samePlanOfFold(a.Plan, b.Plan) && sameAct(a.Power, b.Power)
}

// toldCanWrite says by itself whether something that happens can be written.
func toldCanWrite(e teaEvent) bool {
	just := teaEvent{Kind: e.Kind}
	numbers := []int{e.Part, e.Many}
	names, ok := []string{}, true
	switch e.Kind {
	case 1:
		just.Key, just.Event, names, ok = e.Key, e.Event, []string{e.Key}, okEvent(e.Event)
	case 2, 3, 4:
	case 5:
		just.Part, just.Many = e.Part, e.Many
	case 6:
		just.Name, just.Form, just.Lift, names = e.Name, e.Form, e.Lift, []string{e.Name}
		ok = okKind(e.Form) && (nothingIn(e.Lift) || okAs(e.Lift, "A"))
	case 7:
		just.Plan, names, ok = e.Plan, []string{e.Plan.Name}, toldPlanWritable(e.Plan)
	case 8:
		just.Name, just.Many, names = e.Name, e.Many, []string{e.Name}
	default:
		return false
	}
	if e.Power.Cuts && e.Kind != 6 && e.Kind != 7 {
		just.Power = logAct{Cuts: true, After: e.Power.After, Moves: e.Power.Moves, Keep: e.Power.Keep}
		numbers = append(append(numbers, e.Power.After, e.Power.Moves), e.Power.Keep...)
	}
	for _, n := range numbers {
		ok = ok && n >= 0 && n <= 999999
	}
	for _, name := range names {
		ok = ok && okNames([]string{name})
	}
	return ok && sameHappening(e, just)
}

func toldPlanWritable(p foldPlan) bool {
	if len(p.States) < 1 || len(p.States) > 4 || len(p.Steps) > 8 || !okTree(p.Start) {
		return false
	}
	value := func(n node) bool { return okAs(nEmit(n), "A") }
	for i, s := range p.States {
		last := i == len(p.States)-1
		if !okKind(s.Kind) || last && (!nothingIn(s.Save) || !nothingIn(s.Lift)) || !last && (!value(s.Save) || !value(s.Lift)) {
			return false
		}
	}
	for _, s := range p.Steps {
		if !okNames([]string{s.Type}) || !value(s.Do) {
			return false
		}
	}
	return true
}

// scriptWords are the words of the kinds of what happens.
var scriptWords = []string{"", "append", "sync", "roll", "mend", "rewrite", "version", "fold", "snap"}

// toldHappening is by itself the lines of something that can be written.
func toldHappening(e teaEvent) string {
	s := ""
	if e.Power.Cuts {
		words := []string{"power", strconv.Itoa(e.Power.After), strconv.Itoa(e.Power.Moves)}
		for _, n := range e.Power.Keep {
			words = append(words, strconv.Itoa(n))
		}
		s = strings.Join(words, " ") + "\n"
	}
	s += scriptWords[e.Kind]
	switch e.Kind {
	case 1:
		s += " " + e.Key + " " + textOfEvent(e.Event)
	case 5:
		s += fmt.Sprintf(" %d %d", e.Part, e.Many)
	case 6:
		s += " " + e.Name + " " + textOf(e.Form)
		if words, ok := toldText(e.Lift); ok {
			s += " " + words
		}
	case 7:
		s = toldFoldLines(e.Plan) + "end"
	case 8:
		s += fmt.Sprintf(" %s %d", e.Name, e.Many)
	}
	return s + "\n"
}

// toldScript is by itself the text of what happens; empty, if it cannot be written.
func toldScript(list []teaEvent) string {
	s := ""
	for _, e := range list {
		if !toldCanWrite(e) {
			return ""
		}
		s += toldHappening(e)
	}
	if len(list) > 200 || len(s) > 60000 {
		return ""
	}
	return s
}

// linesOfScripts tell by themselves how lines of scripts are built, but for events, schemas and upcasters.
var linesOfScripts = regexp.MustCompile(`\A(?:(append) (NAME) (.*)|(sync)|(roll)|(mend)|(rewrite) (NUM) (NUM)|(version) (NAME) ([^ ]*)( .*)?|(snap) (NAME) (NUM)|(power) (NUM) (NUM)((?: NUM)*))\z`)

func init() {
	pattern := strings.ReplaceAll(linesOfScripts.String(), "NUM", "(?:0|[1-9][0-9]{0,5})")
	linesOfScripts = regexp.MustCompile(strings.ReplaceAll(pattern, "NAME", "[a-z][a-z0-9]{0,7}"))
}

// toldLineOf is by itself what a line says: something that happens, or, with Kind 0, a loss of power.
func toldLineOf(line string) (teaEvent, bool) {
	m := linesOfScripts.FindStringSubmatch(line)
	if m == nil {
		return teaEvent{}, false
	}
	num := func(s string) int { n, _ := strconv.Atoi(s); return n }
	switch {
	case m[1] != "":
		e, ok := impl.EventRead(m[3])
		return teaEvent{Kind: 1, Key: m[2], Event: e}, ok
	case m[4] != "":
		return teaEvent{Kind: 2}, true
	case m[5] != "":
		return teaEvent{Kind: 3}, true
	case m[6] != "":
		return teaEvent{Kind: 4}, true
	case m[7] != "":
		return teaEvent{Kind: 5, Part: num(m[8]), Many: num(m[9])}, true
	case m[10] != "":
		e := teaEvent{Kind: 6, Name: m[11]}
		k, ok := impl.KindRead(m[12])
		if e.Form = k; m[13] != "" {
			n, f := toldLift(m[13][1:])
			e.Lift, ok = n, ok && f.Code == 0
		}
		return e, ok
	case m[14] != "":
		return teaEvent{Kind: 8, Name: m[15], Many: num(m[16])}, true
	}
	e := teaEvent{Power: logAct{Cuts: true, After: num(m[18]), Moves: num(m[19])}}
	for _, word := range strings.Fields(m[20]) {
		e.Power.Keep = append(e.Power.Keep, num(word))
	}
	return e, true
}

// toldScriptRead is by itself what the lines of a text say, or the first that is wrong.
func toldScriptRead(s string) ([]teaEvent, int) {
	if len(s) > 60000 {
		return nil, -1
	}
	var list []teaEvent
	power := logAct{}
	lines := strings.Split(s, "\n")
	for at := 0; at < len(lines); at++ {
		line := lines[at]
		switch {
		case line == "":
			continue
		case len(list) == 200:
			return nil, at + 1
		case strings.HasPrefix(line, "fold "):
			if power.Cuts {
				return nil, at + 1
			}
			end := at
			for end < len(lines) && lines[end] != "end" {
				end++
			}
			p, bad, started := toldFoldIn(lines[at:end])
			switch {
			case bad != 0:
				return nil, at + bad
			case end == len(lines):
				return nil, len(lines)
			case !started || len(p.States) > 4 || len(p.Steps) > 8:
				return nil, end + 1
			}
			list, at = append(list, teaEvent{Kind: 7, Plan: p}), end
			continue
		}
		e, ok := toldLineOf(line)
		if !ok || power.Cuts && (e.Kind == 0 || e.Kind == 6) {
			return nil, at + 1
		}
		if e.Kind == 0 {
			power = e.Power
			continue
		}
		e.Power, power = power, logAct{}
		list = append(list, e)
	}
	if power.Cuts {
		return nil, len(lines)
	}
	return list, 0
}

// toldTold is by itself what a script tells.
func toldTold(s string) string {
	list, bad := toldScriptRead(s)
	if bad != 0 {
		return fmt.Sprintf("bad line %d\n", bad)
	}
	told, w := "", teaWorld{}
	for _, e := range list {
		next, pos, code := toldTea(w, e)
		told, w = told+fmt.Sprintf("%s %d %d\n", scriptWords[e.Kind], code, pos), next
	}
	told += toldTeaBoard(w)
	if store := toldStore(w.Disk); store.Code == 0 {
		told += toldBoard(toldReplay(w.Book, store.Records, 1, nil))
	}
	return told
}

// wantScriptRead: a text is read as what the tests themselves tell, or has this line; P85 holds.
func wantScriptRead(t *testing.T, s string, bad int) []teaEvent {
	t.Helper()
	list, got := impl.TeaRead(s)
	told, toldBad := toldScriptRead(s)
	if got != bad || toldBad != bad || !slices.EqualFunc(list, told, sameHappening) {
		t.Errorf("%.300q: line %d, the tests themselves tell %d, wanted %d", s, got, toldBad, bad)
	}
	if got != 0 {
		if len(list) != 0 {
			t.Errorf("%.300q: beside the line %d something happens", s, got)
		}
		if told := impl.TeaScript(s); told != fmt.Sprintf("bad line %d\n", got) {
			t.Errorf("%.300q tells %.300q", s, told)
		}
		return nil
	}
	written := impl.TeaWrite(list)
	if toldText := toldScript(list); written != toldText {
		t.Errorf("%.300q is written %.300q, but the tests tell %.300q", s, written, toldText)
	}
	if written != "" {
		if again, bad := impl.TeaRead(written); bad != 0 || !slices.EqualFunc(again, list, sameHappening) {
			t.Errorf("%.300q is read again with %d", written, bad)
		}
	}
	for _, e := range list {
		if !toldCanWrite(e) {
			t.Errorf("%.300q is read as something that cannot be written: %v", s, e)
		}
	}
	return list
}

// wantScript is P84: what happens is written as the tests themselves tell, and read back.
func wantScript(t *testing.T, list []teaEvent) string {
	t.Helper()
	s := impl.TeaWrite(list)
	if told := toldScript(list); s != told || len(s) > impl.TeaMaxScript {
		t.Errorf("written %.300q, but the tests tell %.300q", s, told)
	}
	if s != "" || len(list) == 0 {
		if again, bad := impl.TeaRead(s); bad != 0 || !slices.EqualFunc(again, list, sameHappening) {
			t.Errorf("%.300q is read back with %d", s, bad)
		}
	}
	return s
}

// wantTold is P86: a script tells of each that happens a line, and then the boards.
func wantTold(t *testing.T, s string) string {
	t.Helper()
	told := impl.TeaScript(s)
	if wanted := toldTold(s); told != wanted {
		t.Errorf("%.300q tells\n%.900s, but the tests tell\n%.900s", s, told, wanted)
	}
	list, bad := impl.TeaRead(s)
	if bad != 0 {
		return told
	}
	w, codes := impl.TeaPlay(list)
	lines := strings.SplitAfter(told, "\n")
	for i, e := range list {
		if !strings.HasPrefix(lines[i], fmt.Sprintf("%s %d ", scriptWords[e.Kind], codes[i])) {
			t.Errorf("%d: %q, code %d", i, lines[i], codes[i])
		}
	}
	if rest := strings.Join(lines[len(list):], ""); rest != impl.TeaBoard(w)+impl.DeadBoard(impl.TeaReplay(w, impl.HoldKey)) {
		t.Errorf("behind the lines of what happens: %.600s", rest)
	}
	return told
}

const exampleScript = `mend
version a {n:num}
append x a@1{n:3}
append x a@1{n:0}
append y a@1{n:4}
version a {n:num} emit form n div 12 get n old end
roll
power 3 1
rewrite 0 1
mend
rewrite 0 1
append x a@2{n:6}
`

const exampleTold = `mend 0 0
version 0 0
append 0 1
append 0 2
append 0 3
version 0 0
roll 0 0
rewrite 6 0
mend 0 0
rewrite 0 0
append 0 4
closed s3 1 to 3, 60 bytes
open s2 from 4, 20 bytes
next 5
1 x a@2{n:4}
2 x a@1{n:0}
3 y a@2{n:3}
4 x a@2{n:6}
1 x a@2{n:4}
3 y a@2{n:3}
2 x dead 2 0 a@1
4 x dead 10 behind 2
held x behind 2
`

// everyKind is a script with every row of the table.
const everyKind = "mend\nsync\nroll\n" + totalLines + "end\npower 1 2 0 9\nsnap total 1\nversion a {} drop\nversion longname [num]\nversion b {o:{a:?[text]},z:flag} each x empty num emit form a \"b  c\" end\npower 0 0\nappend k a@12{}\nappend longname b@1{t:\"two  words \"}\nrewrite 0 1\nrewrite 999999 0\npower 999999 999999 999999\nrewrite 12 7\npower 3 1\nroll\npower 2 0 1 2 3 4 5 6 7 8 9\nsync\npower 0 5\nmend\nsnap s 999999\nfold x\nstate num\nstart yes\nend\n"

// P84, P85, P86: ordinary scripts whose lists are known, in both directions; the document's own.
func TestScriptOrdinary(t *testing.T) {
	if told := wantTold(t, exampleScript); told != exampleTold {
		t.Errorf("%s", told)
	}
	list := wantScriptRead(t, exampleScript, 0)
	var rows []teaEvent
	for _, row := range exampleRows(t) {
		rows = append(rows, row.e)
	}
	if !slices.EqualFunc(list, rows, sameHappening) || wantScript(t, rows) != exampleScript {
		t.Errorf("%v", list)
	}
	list = wantScriptRead(t, everyKind, 0)
	cut := func(after, moves int, keep ...int) logAct {
		return logAct{Cuts: true, After: after, Moves: moves, Keep: keep}
	}
	wanted := []teaEvent{
		tMend, tSync, tRoll, tFold(totalPlan(t)), {Kind: 8, Name: "total", Many: 1, Power: cut(1, 2, 0, 9)}, tVersion(t, "a", "{}", "drop"), tVersion(t, "longname", "[num]", ""), tVersion(t, "b", "{o:{a:?[text]},z:flag}", `each x empty num emit form a "b  c" end`),
		{Kind: 1, Key: "k", Event: eventOf(t, "a@12{}"), Power: cut(0, 0)}, {Kind: 1, Key: "longname", Event: eventOf(t, `b@1{t:"two  words "}`)}, tRite(0, 1), tRite(999999, 0), {Kind: 5, Part: 12, Many: 7, Power: cut(999999, 999999, 999999)}, {Kind: 3, Power: cut(3, 1)}, {Kind: 2, Power: cut(2, 0, 1, 2, 3, 4, 5, 6, 7, 8, 9)}, {Kind: 4, Power: cut(0, 5)}, tSnap("s", 999999),
		tFold(foldPlan{Name: "x", States: []foldState{{Kind: kNum}}, Start: flag(1)}),
	}
	if !slices.EqualFunc(list, wanted, sameHappening) || wantScript(t, wanted) != everyKind {
		t.Errorf("%v", list)
	}
	wantTold(t, everyKind)
	if told := wantTold(t, ""); told != "no log 1\n" {
		t.Errorf("%q", told)
	}
	if told := wantTold(t, "mend\nversion a {n:num}\n"+totalLines+"end\nappend x a@1{n:7}\nsnap total 1\nsnap total 9\nsnap nobody 1\npower 0 0\nsync\nroll\nroll\nappend y b@1{}\n"); told != "mend 0 0\nversion 0 0\nfold 0 0\nappend 0 1\nsnap 0 1\nsnap 26 0\nsnap 24 0\nsync 6 0\nroll 0 0\nroll 0 0\nappend 0 2\nclosed s1 1 to 1, 20 bytes\nclosed s2 2 to 1, 0 bytes\nopen s3 from 2, 15 bytes\nnext 3\n1 x a@1{n:7}\n2 y b@1{}\nfold total saved at 1, 0 missed, {n:7}\n1 x a@1{n:7}\n2 y dead 8 0 b@1\nheld y behind 2\n" {
		t.Errorf("%s", told)
	}
}

// Empty lines, no newline behind the last line, an empty text.
func TestScriptLines(t *testing.T) {
	for _, s := range []string{"", "\n", "\n\n\n\n", "sync", "sync\n", "\nsync", "\n\nsync\n\n\n"} {
		if list := wantScriptRead(t, s, 0); len(list) != strings.Count(s, "sync") {
			t.Errorf("%q: %v", s, list)
		}
	}
	wanted := wantScriptRead(t, everyKind, 0)
	lines := strings.Split(strings.TrimSuffix(everyKind, "\n"), "\n")
	for i := range len(lines) + 1 {
		s := strings.Join(slices.Insert(slices.Clone(lines), i, "", ""), "\n")
		if list := wantScriptRead(t, s, 0); !slices.EqualFunc(list, wanted, sameHappening) {
			t.Errorf("empty lines ahead of %d: %v", i, list)
		}
	}
	wantScriptRead(t, "\n\n"+strings.Join(lines, "\n\n\n"), 0)
	// Each line alone, without it, twice, with a space more, with a word more, with a word less.
	for i, line := range lines {
		words := strings.Split(line, " ")
		for _, changed := range [][]string{{}, {line, line}, {line + " "}, {" " + line}, {strings.Join(words, "  ")}, {line + " 1"}, {line + " x"}, {strings.Join(words[:len(words)-1], " ")}, {"x" + line}, {strings.ToUpper(line)}, {line + "\t"}, {line + "\r"}, {"what"}, {"power 1 1", line}, {line, "end"}} {
			s := strings.Join(slices.Concat(lines[:i], changed, lines[i+1:]), "\n")
			_, bad := toldScriptRead(s)
			wantScriptRead(t, s, bad)
			s = strings.Join(changed, "\n")
			_, bad = toldScriptRead(s)
			wantScriptRead(t, s, bad)
		}
	}
}

// Each kind of line that is wrong, and in which line; two that are wrong: the first.
func TestScriptWrong(t *testing.T) {
	for _, row := range []struct {
		s   string
		bad int
	}{
		{"what", 1}, {"sync\nwhat", 2}, {"sync\n\n\nwhat\nwhat", 4}, {" ", 1}, {"sync ", 1}, {" sync", 1}, {"sync 1", 1}, {"roll ", 1}, {"mend x", 1}, {"Sync", 1}, {"syncs", 1}, {"sync\t", 1}, {"sync\r\n", 1},
		{"append", 1}, {"append ", 1}, {"append x", 1}, {"append x ", 1}, {"append a x@1{} ", 1}, {"append a  x@1{}", 1}, {"append  a x@1{}", 1}, {"append A x@1{}", 1}, {"append ninebytes x@1{}", 1}, {"append a x@13{}", 1}, {"append a x@0{}", 1}, {"append a x@01{}", 1}, {"append a x@1", 1}, {"append a X@1{}", 1}, {"append a x@1{} x@1{}", 1}, {"append a x@1{b:1,a:1}", 1}, {"append a x@1[]", 1}, {"append x@1{}", 1}, {"append a x@12{}", 0}, {"append abcdefgh x@1{t:\" \"}", 0},
		{"rewrite", 1}, {"rewrite 0", 1}, {"rewrite 0 ", 1}, {"rewrite 0 1 1", 1}, {"rewrite 0  1", 1}, {"rewrite  0 1", 1}, {"rewrite 0 1 ", 1}, {"rewrite 0 01", 1}, {"rewrite 00 1", 1}, {"rewrite -1 1", 1}, {"rewrite +1 1", 1}, {"rewrite 0 -0", 1}, {"rewrite 1000000 1", 1}, {"rewrite 1 1000000", 1}, {"rewrite 999999 999999", 0}, {"rewrite 0 0", 0}, {"rewrite 1 x", 1}, {"rewrite 0x1 1", 1}, {"rewrite 1_0 1", 1}, {"rewrite 99999999999999999999 1", 1}, {"rewrite 1,1", 1},
		{"snap", 1}, {"snap s", 1}, {"snap s ", 1}, {"snap S 1", 1}, {"snap s 1 1", 1}, {"snap s 01", 1}, {"snap s -1", 1}, {"snap s 1000000", 1}, {"snap s 999999", 0}, {"snap s 0", 0}, {"snap s  1", 1}, {"snap 1", 1}, {"snap 1 1", 1},
		{"version", 1}, {"version a", 1}, {"version a ", 1}, {"version a num", 0}, {"version a {}", 0}, {"version a {} ", 1}, {"version a {} emit", 1}, {"version a {} drop", 0}, {"version a {} drop drop", 1}, {"version A {}", 1}, {"version a  {}", 1}, {"version a what", 1}, {"version a {b:num,a:num}", 1}, {"version a {a: num}", 1}, {"version a {} old", 1}, {"version a {}\tdrop", 1}, {"version ninebytes {}", 1},
		{"power", 1}, {"power 1\nsync", 1}, {"power 1 \nsync", 1}, {"power 1 1\nsync", 0}, {"power 1 1 \nsync", 1}, {"power 1 1 1\nsync", 0}, {"power  1 1\nsync", 1}, {"power 1  1\nsync", 1}, {"power 1 1  1\nsync", 1}, {"power 1 -1\nsync", 1}, {"power 1000000 1\nsync", 1}, {"power 1 1000000\nsync", 1}, {"power 1 1 1000000\nsync", 1}, {"power 1 1 01\nsync", 1}, {"power 1 1 x\nsync", 1}, {"power 999999 999999 999999 0\nsync", 0},
		{"power 1 1\npower 1 1\nsync", 2}, {"power 1 1\n\npower 1 1\nsync", 3}, {"power 1 1\n\nsync", 0}, {"power 1 1", 1}, {"power 1 1\n", 2}, {"power 1 1\n\n\n", 4}, {"sync\npower 1 1", 2}, {"power 1 1\nversion a {}", 2}, {"power 1 1\nfold a\nstate {}\nstart {}\nend", 2}, {"power 1 1\nend", 2}, {"power 1 1\nwhat", 2}, {"power 1 1\nstate {}", 2}, {"power 1 1\nsync\npower 1 1\nroll\npower 0 0\nmend\npower 0 0\nappend x a@1{}\npower 0 0\nrewrite 0 1\npower 0 0\nsnap x 1", 0}, {"power 1 1\nsync\nversion a {}", 0},
		{"end", 1}, {"sync\nend", 2}, {"fold", 1}, {"fold ", 1}, {"fold A", 1}, {"fold a ", 1}, {"fold a", 1}, {"fold a\n", 2}, {"fold a\n\n\n", 4}, {"fold a\nend", 2}, {"fold a\nstate {}\nend", 3}, {"fold a\nstate {}\nsave old\nend", 4}, {"fold a\nstate {}\nsave old\nlift old\nend", 5}, {"fold a\nstate {}\nstart {}", 3}, {"fold a\nstate {}\nstart {}\n", 4}, {"fold a\nstate {}\nstart {}\nend", 0}, {"fold a\nstate {}\nstart {}\nend ", 4}, {"fold a\nstate {}\nstart {}\n end", 4}, {"fold a\nstate {}\nstart {}\nend\nend", 5}, {"fold a\nstate {}\nstart {}\n\nend\n\n", 0},
		{"fold a\nstate num\nstart yes\nend", 0}, {"fold a\nstate num\nstart yes\non zz what\nend", 0}, {"fold a\nsync", 2}, {"fold a\nstate {}\nsync\nstart {}\nend", 3}, {"fold a\nstate {}\nstart {}\nsync\nend", 4}, {"fold a\nfold a\nstate {}\nstart {}\nend", 2}, {"fold a\nstate {}\nstart {}\npower 1 1\nend", 4}, {"fold a\nstate {}\nstate {}\nwhat", 3}, {"fold a\nstate {}\nstart {}\nend\nfold a\nstate {}\nstart {}\nend\nsync", 0}, {"state {}", 1}, {"start {}", 1}, {"on a old", 1}, {"save old", 1}, {"lift old", 1},
		{"fold a\nstate {}\nsave  old\nlift old \nstate {}\nstart {}\non a   old\nend", 0}, {"version a {}  drop", 0}, {"version a {} emit  old ", 0},
		{"sync\nwhat\npower 1 1", 2}, {"power 1 1\nversion a\nwhat", 2},
	} {
		wantScriptRead(t, row.s, row.bad)
	}
	// States and steps: as many as there may be, and one more.
	fold := func(states, steps int) string {
		s := "fold a\n" + strings.Repeat("state {}\nsave old\nlift old\n", states-1) + "state {}\nstart {}\n"
		return s + strings.Repeat("on a old\n", steps) + "end"
	}
	for states := 1; states <= 6; states++ {
		for _, steps := range []int{0, 1, 8, 9, 10} {
			s, bad := fold(states, steps), 0
			if states > 4 || steps > 8 {
				bad = strings.Count(s, "\n") + 1
			}
			wantScriptRead(t, s, bad)
			wantScriptRead(t, "sync\n"+s+"\nsync", map[bool]int{true: bad + 1}[bad > 0])
		}
	}
}

// As much as may happen, and a line more; as many bytes as there may be, and one more.
func TestScriptBounds(t *testing.T) {
	syncs := strings.Repeat("sync\n", impl.TeaMaxEvents)
	small := "fold a\nstate {}\nstart {}\nend\n"
	for _, row := range []struct {
		s   string
		bad int
	}{
		{syncs, 0}, {syncs + "\n\n\n", 0}, {syncs + "sync", 201}, {syncs + "\n\nsync", 203}, {syncs + "what", 201}, {syncs + "power 1 1\nsync", 201}, {syncs + "fold a", 201}, {syncs + " ", 201}, {syncs + "end", 201},
		{syncs[5:] + "power 1 1\nsync\n", 0}, {syncs[5:] + "power 1 1\n", 201}, {syncs[5:] + small, 0}, {syncs[5:] + small + "sync", 204}, {syncs[5:] + small + small, 204}, {syncs[5:] + "fold a\nstate {}\nstart {}", 202}, {syncs[5:] + "sync\npower 1 1", 201},
	} {
		wantScriptRead(t, row.s, row.bad)
	}
	for n, ok := range map[int]bool{0: false, 1: true, 199: true, 200: true, 201: false, 20000: false} {
		if s := impl.TeaWrite(slices.Repeat([]teaEvent{tSync}, n)); (s != "") != ok || ok && s != strings.Repeat("sync\n", n) {
			t.Errorf("%d: %d bytes", n, len(s))
		}
	}
	// Bytes of a text that is read, and of one that is written.
	for _, more := range []int{-1, 0} {
		wantScriptRead(t, strings.Repeat("\n", impl.TeaMaxScript+more), 0)
		wantScriptRead(t, "sync"+strings.Repeat("\n", impl.TeaMaxScript+more-4), 0)
		wantScriptRead(t, strings.Repeat("\n", impl.TeaMaxScript+more-4)+"what", impl.TeaMaxScript+more-3)
	}
	for _, s := range []string{strings.Repeat("\n", impl.TeaMaxScript+1), "what" + strings.Repeat("\n", impl.TeaMaxScript), strings.Repeat("x", 30000000)} {
		wantScriptRead(t, s, -1)
		if told := impl.TeaScript(s); told != "bad line -1\n" {
			t.Errorf("%q", told)
		}
	}
	keep := func(bytes int) []teaEvent {
		e := losing(tSync, 1, 1)
		for left := bytes - len("power 1 1\nsync\n"); left > 0; left -= 2 {
			if left%2 == 1 {
				e.Power.Keep, left = append(e.Power.Keep, 10), left-1
				continue
			}
			e.Power.Keep = append(e.Power.Keep, 1)
		}
		return []teaEvent{e}
	}
	for bytes := 59998; bytes <= 60003; bytes++ {
		list := keep(bytes)
		if told := toldHappening(list[0]); len(told) != bytes {
			continue
		}
		if s := wantScript(t, list); (s != "") != (bytes <= impl.TeaMaxScript) {
			t.Errorf("%d bytes: %d", bytes, len(s))
		}
	}
	// What is read may be longer when it is written: then it is not written.
	full := strings.Repeat("q", 60)
	line := `version abcdefgh {n:num} take x join "` + full + `""` + full + `"take y join "` + full + `""`
	line += strings.Repeat("q", 299-len(line)-len(`"drop`)) + `"drop`
	list := wantScriptRead(t, strings.Repeat(line+"\n", 200), 0)
	if len(list) != 200 || impl.TeaWrite(list) != "" || impl.TeaWrite(list[:190]) == "" {
		t.Errorf("%d lines of %d bytes", len(list), len(line))
	}
}

// Each reason for which something cannot be written, by itself: ahead of others, behind others, alone.
func TestScriptUnwritten(t *testing.T) {
	fold := tFold(totalPlan(t))
	goods := map[string]teaEvent{"append": tAppend(t, "x", "a@1{}"), "sync": tSync, "roll": tRoll, "mend": tMend, "rewrite": tRite(1, 2), "version": tVersion(t, "a", "{}", "drop"), "type": tVersion(t, "a", "{}", ""), "fold": fold, "snap": tSnap("s", 1)}
	not := func(what string, e teaEvent) {
		t.Helper()
		for _, list := range [][]teaEvent{{e}, {tSync, e}, {e, tSync}} {
			if s := wantScript(t, list); s != "" {
				t.Errorf("%s is written %q", what, s)
			}
		}
		if toldCanWrite(e) {
			t.Errorf("%s can be written", what)
		}
	}
	for what, good := range goods {
		if s := wantScript(t, []teaEvent{good}); s == "" {
			t.Errorf("%s is not written", what)
		}
		powered := losing(good, 0, 999999, 0, 999999)
		if s := wantScript(t, []teaEvent{powered}); (s != "") != (good.Kind != impl.TeaVersion && good.Kind != impl.TeaFold) {
			t.Errorf("%s with a loss of power: %q", what, s)
		}
		bare := losing(good, 0, 0)
		if s := wantScript(t, []teaEvent{bare}); (s != "") != (good.Kind != impl.TeaVersion && good.Kind != impl.TeaFold) {
			t.Errorf("%s with nothing but a loss of power: %q", what, s)
		}
		// One field more than the lines say.
		for field, put := range map[string]func(e *teaEvent){
			"Key": func(e *teaEvent) { e.Key = "x" }, "Event's type": func(e *teaEvent) { e.Event.Type = "a" }, "Event's version": func(e *teaEvent) { e.Event.Version = 1 }, "Event's body": func(e *teaEvent) { e.Event.Body = form("") }, "Part": func(e *teaEvent) { e.Part = 1 }, "Many": func(e *teaEvent) { e.Many = 1 }, "Name": func(e *teaEvent) { e.Name = "a" }, "Form": func(e *teaEvent) { e.Form = kForm("") }, "Form's names": func(e *teaEvent) { e.Form.Names = []string{"a"} }, "Lift": func(e *teaEvent) { e.Lift = nDrop() }, "Lift's number": func(e *teaEvent) { e.Lift = node{Num: 1} },
			"Plan's name": func(e *teaEvent) { e.Plan.Name = "a" }, "Plan's states": func(e *teaEvent) { e.Plan.States = make([]foldState, 1) }, "Plan's start": func(e *teaEvent) { e.Plan.Start = num(0) }, "Plan's steps": func(e *teaEvent) { e.Plan.Steps = make([]foldStep, 1) },
			"Power's kind": func(e *teaEvent) { e.Power.Kind = 1 }, "Power's data": func(e *teaEvent) { e.Power.Data = "x" }, "After": func(e *teaEvent) { e.Power.After = 1 }, "Moves": func(e *teaEvent) { e.Power.Moves = 1 }, "Keep": func(e *teaEvent) { e.Power.Keep = []int{0} }, "Kind and Data": func(e *teaEvent) { e.Power.Kind, e.Power.Data = -1, "x" },
		} {
			e := roomy(good)
			if put(&e); toldCanWrite(e) {
				// It is one of its own.
				if s := wantScript(t, []teaEvent{e}); s == "" {
					t.Errorf("%s with another %s is not written", what, field)
				}
				continue
			}
			not(what+" with "+field, e)
		}
		if good.Kind == impl.TeaVersion || good.Kind == impl.TeaFold {
			continue
		}
		for field, put := range map[string]func(a *logAct){"Kind": func(a *logAct) { a.Kind = 1 }, "Data": func(a *logAct) { a.Data = "x" }, "After": func(a *logAct) { a.After = -1 }, "a great After": func(a *logAct) { a.After = 1000000 }, "Moves": func(a *logAct) { a.Moves = -1 }, "great Moves": func(a *logAct) { a.Moves = math.MaxInt }, "Keep": func(a *logAct) { a.Keep[0] = -1 }, "a great Keep": func(a *logAct) { a.Keep[1] = 1000000 }} {
			e := roomy(powered)
			put(&e.Power)
			not(what+" and power with "+field, e)
		}
	}
	for _, n := range []int{-1, 1000000, math.MaxInt, math.MinInt} {
		not("Part", tRite(n, 1))
		not("Many", tRite(1, n))
		not("a snap's Many", tSnap("s", n))
	}
	for _, name := range []string{"", "X", "ninebytes", "a b", "a\n"} {
		not("a key", teaEvent{Kind: 1, Key: name, Event: eventOf(t, "a@1{}")})
		not("a version's name", teaEvent{Kind: 6, Name: name, Form: kNum})
		not("a snap's name", tSnap(name, 1))
		p := copyFold(fold.Plan)
		p.Name = name
		not("a fold's name", tFold(p))
		p = copyFold(fold.Plan)
		p.Steps[0].Type = name
		not("a step's type", tFold(p))
	}
	for _, kind := range []int{0, -1, 9, math.MaxInt} {
		not("a kind", teaEvent{Kind: kind})
	}
	not("no event", teaEvent{Kind: 1, Key: "x"})
	not("an event that is not ok", teaEvent{Kind: 1, Key: "x", Event: ev("a", 13, form(""))})
	not("no schema", teaEvent{Kind: 6, Name: "a"})
	not("a schema that is not ok", teaEvent{Kind: 6, Name: "a", Form: kFields(40, kNum)})
	not("a lift that is a value", teaEvent{Kind: 6, Name: "a", Form: kNum, Lift: nNum(1)})
	not("a lift that is not ok", teaEvent{Kind: 6, Name: "a", Form: kNum, Lift: nEmit(node{})})
	for what, change := range map[string]func(p *foldPlan){
		"no states": func(p *foldPlan) { p.States = nil }, "five states": func(p *foldPlan) { p.States = slices.Concat(slices.Repeat(p.States[:1], 4), p.States[1:]) }, "nine steps": func(p *foldPlan) { p.Steps = slices.Repeat(p.Steps, 9) }, "no start": func(p *foldPlan) { p.Start = tree{} }, "a start that is not ok": func(p *foldPlan) { p.Start = num(1000000000) },
		"no schema": func(p *foldPlan) { p.States[0].Kind = kind{} }, "no last schema": func(p *foldPlan) { p.States[1].Kind = kind{} }, "no save": func(p *foldPlan) { p.States[0].Save = node{} }, "no lift": func(p *foldPlan) { p.States[0].Lift = node{} }, "a last save": func(p *foldPlan) { p.States[1].Save = nName("old") }, "a last lift": func(p *foldPlan) { p.States[1].Lift = nName("old") }, "a save that is an action": func(p *foldPlan) { p.States[0].Save = nDrop() }, "a lift that is too deep": func(p *foldPlan) { p.States[0].Lift = nWithin(nNum(1), impl.LiftSome, 23) },
		"no step": func(p *foldPlan) { p.Steps[0].Do = node{} }, "a step that is too deep": func(p *foldPlan) { p.Steps[0].Do = nWithin(nNum(1), impl.LiftSome, 23) }, "nothing": func(p *foldPlan) { *p = foldPlan{} },
	} {
		p := copyFold(fold.Plan)
		change(&p)
		not(what, tFold(p))
	}
	for what, change := range map[string]func(p *foldPlan){
		"four states": func(p *foldPlan) { p.States = slices.Concat(slices.Repeat(p.States[:1], 3), p.States[1:]) }, "eight steps": func(p *foldPlan) { p.Steps = slices.Repeat(p.Steps, 8) }, "no steps": func(p *foldPlan) { p.Steps = nil }, "another start": func(p *foldPlan) { p.Start = flag(0) }, "a schema that is no form's": func(p *foldPlan) { p.States[0].Kind = kNum }, "unknown names": func(p *foldPlan) { p.Steps[0] = foldStep{Type: "zz", Do: nName("nobody")} }, "one level less": func(p *foldPlan) { p.Steps[0].Do = nWithin(nNum(1), impl.LiftSome, 22) },
	} {
		p := copyFold(fold.Plan)
		change(&p)
		if s := wantScript(t, []teaEvent{tFold(p)}); s == "" {
			t.Errorf("%s is not written", what)
		}
	}
}

// P84, P85, P86: many scripts by chance, and texts that are changed.
func TestScriptMany(t *testing.T) {
	t.Parallel()
	r := rand.New(rand.NewSource(85))
	read, wrong, told := 0, 0, 0
	for round := range 60 {
		var w teaWorld
		var list []teaEvent
		for range 4 + r.Intn(30) {
			e := chanceTea(t, r, w, true)
			if !toldCanWrite(e) {
				if s := impl.TeaWrite([]teaEvent{e}); s != "" {
					t.Errorf("%.300q is written", s)
				}
				continue
			}
			w, _, _ = impl.TeaDo(w, e)
			list = append(list, e)
		}
		s := wantScript(t, list)
		wantScriptRead(t, s, 0)
		if round%4 == 0 {
			wantTold(t, s)
			told++
		}
		for range 8 {
			if s == "" {
				break
			}
			at, to := r.Intn(len(s)), r.Intn(len(s))
			changed := []string{s[:at] + s[at+1:], s[:at] + "\n" + s[at:], s[:at] + " " + s[at:], s[:at], s[:at] + s[to:], s[:at] + string(s[to]) + s[at:]}[r.Intn(6)]
			_, bad := toldScriptRead(changed)
			wantScriptRead(t, changed, bad)
			if bad == 0 {
				read++
			} else {
				wrong++
			}
		}
	}
	if read < 50 || wrong < 150 || told < 10 {
		t.Errorf("%d read, %d wrong, %d told", read, wrong, told)
	}
}

// What holds itself, or is far too wide.
func TestScriptWithoutEnd(t *testing.T) {
	k, n, x := endless()
	for what, e := range map[string]teaEvent{
		"an event": {Kind: 1, Key: "x", Event: ev("a", 1, x)}, "a schema": {Kind: 6, Name: "b", Form: k}, "a lift": {Kind: 6, Name: "a", Form: kForm(""), Lift: n}, "a start": tFold(foldPlan{Name: "x", States: []foldState{{Kind: kNum}}, Start: x}), "a state": tFold(foldPlan{Name: "x", States: []foldState{{Kind: k}}, Start: num(1)}), "a step": tFold(foldPlan{Name: "x", States: []foldState{{Kind: kNum}}, Start: num(1), Steps: []foldStep{{Type: "a", Do: n}}}),
		"very many states": tFold(foldPlan{Name: "x", States: make([]foldState, 3000000), Start: num(1)}), "very many steps": tFold(foldPlan{Name: "x", States: []foldState{{Kind: kNum}}, Start: num(1), Steps: make([]foldStep, 3000000)}), "very much that is kept": {Kind: 2, Power: logAct{Cuts: true, Keep: make([]int, 3000000)}}, "beside": {Kind: 2, Event: ev("", 0, x), Form: k, Lift: n},
	} {
		if s := impl.TeaWrite([]teaEvent{tSync, e}); s != "" {
			t.Errorf("%s is written %.100q", what, s)
		}
	}
}

// Nothing is written into an argument or behind its end, and every answer is new memory.
func TestScriptMemory(t *testing.T) {
	s := strings.Clone(everyKind)
	wantMemory(t, "TeaRead", func() any { list, _ := impl.TeaRead(s); return list }, s)
	wantMemory(t, "TeaScript", func() any { return impl.TeaScript(s) }, s)
	list, _ := impl.TeaRead(s)
	list = roomy(list)
	wantMemory(t, "TeaWrite", func() any { return impl.TeaWrite(list) }, list)
	one := strings.Clone(exampleScript)
	wantMemory(t, "TeaRead", func() any { list, _ := impl.TeaRead(one); return list }, one)
	wantMemory(t, "TeaScript", func() any { return impl.TeaScript(one) }, one)
}
