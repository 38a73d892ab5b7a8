package tests

import (
	"fmt"
	"math"
	"math/rand"
	"runtime"
	"slices"
	"strings"
	"testing"

	"loop.example/teagle/impl"
)

type deadDone = impl.DeadDone

type deadLetter = impl.DeadLetter

type deadHold = impl.DeadHold

func held(key string, behind int) deadHold {
	return deadHold{Key: key, Behind: behind}
}

func sameDead(a, b deadDone) bool {
	return a.Ok == b.Ok && slices.EqualFunc(a.Given, b.Given, sameRecord) && slices.Equal(a.Dead, b.Dead) && slices.Equal(a.Held, b.Held)
}

// deadText tells what came of a replay.
func deadText(d deadDone) string {
	text := fmt.Sprint(d.Ok)
	for _, r := range d.Given {
		text += "; " + recordText(r)
	}
	return text + fmt.Sprintf("; dead %v; held %v", d.Dead, d.Held)
}

// toldTakes is by itself whether a list of records is such as DeadReplay takes.
func toldTakes(list []record) bool {
	for i, r := range list {
		if !okRecord(r) || i > 0 && list[i-1].Pos >= r.Pos {
			return false
		}
	}
	return len(list) <= 200
}

// toldHolds is by itself whether keys are held as DeadReplay takes them.
func toldHolds(held []deadHold) bool {
	for i, h := range held {
		if !okNames([]string{h.Key}) || h.Behind < 1 || h.Behind > 999999 || i > 0 && held[i-1].Key >= h.Key {
			return false
		}
	}
	return len(held) <= 200
}

// toldReplay is by itself what comes of a replay.
func toldReplay(book []chainType, list []record, hold int, keys []deadHold) deadDone {
	if toldBook(book).Code != 0 || !toldTakes(list) || !toldHolds(keys) || hold < 0 || hold > 1 {
		return deadDone{}
	}
	done := deadDone{Ok: true, Held: slices.Clone(keys)}
	for _, r := range list {
		d := toldRecLift(book, r)
		at, is := slices.BinarySearchFunc(done.Held, r.Key, func(h deadHold, key string) int { return strings.Compare(h.Key, key) })
		switch {
		case d.Code == 0 && len(d.Outs) == 0:
		case is:
			done.Dead = append(done.Dead, deadLetter{Pos: r.Pos, Key: r.Key, Code: 10, Behind: done.Held[at].Behind})
		case d.Code == 0:
			done.Given = append(done.Given, record{Pos: r.Pos, Key: r.Key, Events: d.Outs})
		default:
			done.Dead = append(done.Dead, deadLetter{Pos: r.Pos, Key: r.Key, Code: d.Code, Why: d.Why, Type: d.Type, Version: d.Version})
			if hold == 1 {
				done.Held = slices.Insert(done.Held, at, held(r.Key, r.Pos))
			}
		}
	}
	return done
}

// toldAgain is by itself what comes of replaying the dead.
func toldAgain(book []chainType, list []record, hold int, dead []deadLetter) deadDone {
	if !toldTakes(list) || len(dead) > 200 {
		return deadDone{}
	}
	var those []record
	for _, r := range list {
		if slices.ContainsFunc(dead, func(l deadLetter) bool { return l.Pos == r.Pos }) {
			those = append(those, r)
		}
	}
	return toldReplay(book, those, hold, nil)
}

// toldBoard is by itself the board of what came of a replay, if it can be told.
func toldBoard(d deadDone) string {
	board := ""
	for _, r := range d.Given {
		board += recordText(r) + "\n"
	}
	for _, l := range d.Dead {
		if l.Code == 10 {
			board += fmt.Sprintf("%d %s dead 10 behind %d\n", l.Pos, l.Key, l.Behind)
		} else {
			board += fmt.Sprintf("%d %s dead %d %d %s@%d\n", l.Pos, l.Key, l.Code, l.Why, l.Type, l.Version)
		}
	}
	for _, h := range d.Held {
		board += fmt.Sprintf("held %s behind %d\n", h.Key, h.Behind)
	}
	return board
}

// wantReplay: a replay comes to just what the tests themselves tell; P66: its board has a line for each.
func wantReplay(t *testing.T, book []chainType, list []record, hold int, keys []deadHold) deadDone {
	t.Helper()
	got := impl.DeadReplay(book, list, hold, keys)
	if told := toldReplay(book, list, hold, keys); !sameDead(got, told) {
		t.Errorf("%.600s\nbut the tests tell\n%.600s", deadText(got), deadText(told))
	}
	if !got.Ok {
		if !sameDead(got, deadDone{}) || impl.DeadBoard(got) != "" {
			t.Errorf("nothing, but %.300s", deadText(got))
		}
		return got
	}
	wantJustOne(t, book, list, hold, keys, got)
	if len(got.Held) <= impl.DeadMaxRecords {
		board := impl.DeadBoard(got)
		if board != toldBoard(got) || strings.Count(board, "\n") != len(got.Given)+len(got.Dead)+len(got.Held) {
			t.Errorf("the board is\n%.600s\nbut the tests tell\n%.600s", board, toldBoard(got))
		}
	}
	return got
}

// wantJustOne is P62 and P63: every record is given, or dead, or gave nothing; behind a dead record of its key none is given.
func wantJustOne(t *testing.T, book []chainType, list []record, hold int, keys []deadHold, got deadDone) {
	t.Helper()
	given, dead := slices.Clone(got.Given), slices.Clone(got.Dead)
	behind := map[string]int{}
	for _, h := range keys {
		behind[h.Key] = h.Behind
	}
	for _, r := range list {
		d := impl.RecLift(book, r)
		switch {
		case len(given) > 0 && given[0].Pos == r.Pos:
			if d.Code != 0 || given[0].Key != r.Key || len(d.Outs) == 0 || !slices.EqualFunc(given[0].Events, d.Outs, sameEvent) || behind[r.Key] > 0 {
				t.Errorf("%.200s is given as %.200s, held behind %d", recordText(r), recordText(given[0]), behind[r.Key])
			}
			given = given[1:]
		case len(dead) > 0 && dead[0].Pos == r.Pos:
			wanted := deadLetter{Pos: r.Pos, Key: r.Key, Code: d.Code, Why: d.Why, Type: d.Type, Version: d.Version}
			if behind[r.Key] > 0 {
				wanted = deadLetter{Pos: r.Pos, Key: r.Key, Code: impl.StopParked, Behind: behind[r.Key]}
			} else if hold == impl.HoldKey {
				behind[r.Key] = r.Pos
			}
			if dead[0] != wanted || d.Code == 0 && len(d.Outs) == 0 || hold == impl.HoldAlone && len(keys) == 0 && dead[0].Code == impl.StopParked {
				t.Errorf("%.200s is dead as %v, wanted %v", recordText(r), dead[0], wanted)
			}
			dead = dead[1:]
		default:
			if d.Code != 0 || len(d.Outs) != 0 {
				t.Errorf("%.200s is neither given nor dead, but becomes %.200s", recordText(r), liftedText(d))
			}
		}
	}
	if len(given) > 0 || len(dead) > 0 {
		t.Errorf("%d are given and %d dead beside the records", len(given), len(dead))
	}
	if len(behind) != len(got.Held) {
		t.Errorf("%v is held, wanted %v", got.Held, behind)
	}
	for _, h := range got.Held {
		if behind[h.Key] != h.Behind {
			t.Errorf("%v is held, wanted behind %d", h, behind[h.Key])
		}
	}
}

// wantPieces is P64: cut anywhere, the keys that are held being handed on, records are replayed to the same.
func wantPieces(t *testing.T, book []chainType, list []record, hold int, keys []deadHold) {
	t.Helper()
	whole := impl.DeadReplay(book, list, hold, keys)
	for cut := range len(list) + 1 {
		first := impl.DeadReplay(book, list[:cut], hold, keys)
		second := impl.DeadReplay(book, list[cut:], hold, first.Held)
		both := deadDone{Ok: first.Ok && second.Ok, Given: append(first.Given, second.Given...), Dead: append(first.Dead, second.Dead...), Held: second.Held}
		if !sameDead(both, whole) {
			t.Errorf("cut at %d: %.500s\nat once %.500s", cut, deadText(both), deadText(whole))
		}
	}
}

// wantAgain: the dead, driven again, come to just what the tests themselves tell.
func wantAgain(t *testing.T, book []chainType, list []record, hold int, dead []deadLetter) deadDone {
	t.Helper()
	got := impl.DeadAgain(book, list, hold, dead)
	if told := toldAgain(book, list, hold, dead); !sameDead(got, told) {
		t.Errorf("again: %.500s\nbut the tests tell\n%.500s", deadText(got), deadText(told))
	}
	return got
}

// recordsOf are records of lines such as `3 key a@1{n:1} b@1{}`.
func recordsOf(t *testing.T, lines string) (list []record) {
	t.Helper()
	for _, line := range strings.Split(strings.TrimSpace(lines), "\n") {
		if words := strings.Fields(line); len(words) > 0 {
			var pos int
			fmt.Sscan(words[0], &pos)
			list = append(list, recordAt(t, pos, words[1], words[2:]...))
		}
	}
	return list
}

// wantBoard: a replay has just this board.
func wantBoard(t *testing.T, d deadDone, wanted string) {
	t.Helper()
	if got := impl.DeadBoard(d); got != wanted || !d.Ok {
		t.Errorf("%s\nwanted\n%s", got, wanted)
	}
}

const divLines = "type a\nversion {n:num}\nlift emit form n div 12 get n old end\nversion {n:num}\n"

const dropLines = `type a
version {n:num}
lift choose less get n old 0 drop choose less 100 get n old fail 9 emit form n div 12 get n old end
version {n:num}
type b
version {}
`

// The document's example, and the same with other holds.
func TestReplayExample(t *testing.T) {
	book := bookOf(t, divLines)
	list := recordsOf(t, "1 x a@1{n:3}\n2 x a@1{n:0}\n3 y a@1{n:4}\n4 x a@1{n:6}")
	wantBoard(t, wantReplay(t, book, list, impl.HoldKey, nil), "1 x a@2{n:4}\n3 y a@2{n:3}\n2 x dead 2 0 a@1\n4 x dead 10 behind 2\nheld x behind 2\n")
	wantBoard(t, wantReplay(t, book, list, impl.HoldAlone, nil), "1 x a@2{n:4}\n3 y a@2{n:3}\n4 x a@2{n:2}\n2 x dead 2 0 a@1\n")
	for _, hold := range []int{impl.HoldAlone, impl.HoldKey} {
		wantBoard(t, wantReplay(t, book, list, hold, []deadHold{held("y", 9)}), map[int]string{
			impl.HoldAlone: "1 x a@2{n:4}\n4 x a@2{n:2}\n2 x dead 2 0 a@1\n3 y dead 10 behind 9\nheld y behind 9\n",
			impl.HoldKey:   "1 x a@2{n:4}\n2 x dead 2 0 a@1\n3 y dead 10 behind 9\n4 x dead 10 behind 2\nheld x behind 2\nheld y behind 9\n",
		}[hold])
		wantPieces(t, book, list, hold, nil)
		wantPieces(t, book, list, hold, []deadHold{held("x", 7), held("y", 9)})
	}
}

// P62, P63, P64, P66: records of all sorts, whose replay is known.
func TestReplayOrdinary(t *testing.T) {
	book := bookOf(t, dropLines)
	list := recordsOf(t, `
2 z a@1{n:3} b@1{}
3 x a@1{n:200}
4 x a@1{n:-1}
5 x a@1{n:-1} b@1{}
7 y c@1{}
8 y a@1{n:0}
9 z b@1{n:1}
11 x a@1{n:300}
12 w a@2{n:1} a@1{n:-5} a@1{n:4}
20 y a@1{n:-9}
21 z a@1{n:1}
999999 w b@1{}`)
	wantBoard(t, wantReplay(t, book, list, impl.HoldKey, nil), `2 z a@2{n:4} b@1{}
12 w a@2{n:1} a@2{n:3}
999999 w b@1{}
3 x dead 5 9 a@1
5 x dead 10 behind 3
7 y dead 8 0 c@1
8 y dead 10 behind 7
9 z dead 9 0 b@1
11 x dead 10 behind 3
21 z dead 10 behind 9
held x behind 3
held y behind 7
held z behind 9
`)
	wantBoard(t, wantReplay(t, book, list, impl.HoldAlone, nil), `2 z a@2{n:4} b@1{}
5 x b@1{}
12 w a@2{n:1} a@2{n:3}
21 z a@2{n:12}
999999 w b@1{}
3 x dead 5 9 a@1
7 y dead 8 0 c@1
8 y dead 2 0 a@1
9 z dead 9 0 b@1
11 x dead 5 9 a@1
`)
	for _, hold := range []int{impl.HoldAlone, impl.HoldKey} {
		for _, keys := range [][]deadHold{nil, {held("w", 1)}, {held("a", 5), held("x", 2), held("zz", 999999)}} {
			wantReplay(t, book, list, hold, keys)
			wantPieces(t, book, list, hold, keys)
		}
	}
}

// A record of which nothing comes, whose key is held, and is not; one that would stop, whose key is held.
func TestReplayHeld(t *testing.T) {
	book := bookOf(t, dropLines)
	gone, stops, fine := recordsOf(t, "5 x a@1{n:-1}"), recordsOf(t, "5 x a@1{n:0}"), recordsOf(t, "5 x a@1{n:1}")
	for _, hold := range []int{impl.HoldAlone, impl.HoldKey} {
		wantBoard(t, wantReplay(t, book, gone, hold, nil), "")
		wantBoard(t, wantReplay(t, book, gone, hold, []deadHold{held("x", 3)}), "held x behind 3\n")
		wantBoard(t, wantReplay(t, book, stops, hold, []deadHold{held("x", 3)}), "5 x dead 10 behind 3\nheld x behind 3\n")
		wantBoard(t, wantReplay(t, book, fine, hold, []deadHold{held("x", 999999)}), "5 x dead 10 behind 999999\nheld x behind 999999\n")
		wantBoard(t, wantReplay(t, book, fine, hold, []deadHold{held("w", 1), held("y", 2)}), "5 x a@2{n:12}\nheld w behind 1\nheld y behind 2\n")
		wantBoard(t, wantReplay(t, book, nil, hold, []deadHold{held("a", 1), held("ab", 2), held("b", 3)}), "held a behind 1\nheld ab behind 2\nheld b behind 3\n")
		wantBoard(t, wantReplay(t, book, nil, hold, nil), "")
		wantBoard(t, wantReplay(t, nil, nil, hold, nil), "")
		wantBoard(t, wantReplay(t, []chainType{}, []record{}, hold, []deadHold{}), "")
	}
	wantBoard(t, wantReplay(t, book, stops, impl.HoldKey, nil), "5 x dead 2 0 a@1\nheld x behind 5\n")
	wantBoard(t, wantReplay(t, book, stops, impl.HoldAlone, nil), "5 x dead 2 0 a@1\n")
	// A key stays held behind the first that is dead, and keys are told in order.
	list := recordsOf(t, "1 b a@1{n:0}\n2 ab a@1{n:0}\n3 a a@1{n:0}\n4 z9 a@1{n:0}\n5 z a@1{n:0}\n6 b a@1{n:0}\n7 a a@1{n:500}\n8 a0 zz@3{}")
	wantBoard(t, wantReplay(t, book, list, impl.HoldKey, nil), "1 b dead 2 0 a@1\n2 ab dead 2 0 a@1\n3 a dead 2 0 a@1\n4 z9 dead 2 0 a@1\n5 z dead 2 0 a@1\n6 b dead 10 behind 1\n7 a dead 10 behind 3\n8 a0 dead 8 0 zz@3\nheld a behind 3\nheld a0 behind 8\nheld ab behind 2\nheld b behind 1\nheld z behind 5\nheld z9 behind 4\n")
	wantPieces(t, book, list, impl.HoldKey, nil)
}

// manyRecords are so many records with ascending positions.
func manyRecords(t *testing.T, n int) (list []record) {
	e := eventOf(t, "a@1{n:3}")
	for i := range n {
		list = append(list, record{Pos: i + 1, Key: "k" + fmt.Sprint(i%7), Events: []event{e}})
	}
	return list
}

func manyHeld(n int) (keys []deadHold) {
	for i := range n {
		keys = append(keys, held(fmt.Sprintf("q%03d", i), i+1))
	}
	return keys
}

func TestReplayBounds(t *testing.T) {
	book := bookOf(t, divLines)
	for _, n := range []int{0, 1, 199, impl.DeadMaxRecords} {
		if d := wantReplay(t, book, manyRecords(t, n), impl.HoldKey, nil); len(d.Given) != n || !d.Ok {
			t.Errorf("%d of %d are given", len(d.Given), n)
		}
		if d := wantReplay(t, book, nil, impl.HoldAlone, manyHeld(n)); len(d.Held) != n || !d.Ok {
			t.Errorf("%d of %d are held", len(d.Held), n)
		}
		if d := wantAgain(t, book, manyRecords(t, 5), impl.HoldKey, make([]deadLetter, n)); !d.Ok || len(d.Given) != 0 {
			t.Errorf("%d letters: %v", n, d)
		}
	}
	nothing := func(what string, d deadDone) {
		t.Helper()
		if !sameDead(d, deadDone{}) || impl.DeadBoard(d) != "" {
			t.Errorf("%s: %.300s", what, deadText(d))
		}
	}
	nothing("too many records", wantReplay(t, book, manyRecords(t, 201), impl.HoldKey, nil))
	nothing("too many records, again", wantAgain(t, book, manyRecords(t, 201), impl.HoldKey, nil))
	nothing("too many keys", wantReplay(t, book, nil, impl.HoldKey, manyHeld(201)))
	nothing("too many letters", wantAgain(t, book, nil, impl.HoldKey, make([]deadLetter, 201)))
	// More keys may be held then than at first; such a board is empty.
	list := recordsOf(t, "1 a a@1{n:0}\n2 b a@1{n:0}")
	if d := impl.DeadReplay(book, list, impl.HoldKey, manyHeld(200)); len(d.Held) != 202 || impl.DeadBoard(d) != "" {
		t.Errorf("%d are held", len(d.Held))
	}
	if d := wantReplay(t, book, list, impl.HoldKey, manyHeld(198)); len(d.Held) != 200 {
		t.Errorf("%d are held", len(d.Held))
	}
}

// Each reason for which nothing is told, by itself: at the first and at the last one of each list.
func TestReplayNothing(t *testing.T) {
	book := bookOf(t, dropLines)
	list := func() []record { return recordsOf(t, "3 x a@1{n:3}\n5 y a@1{n:0}\n9 x b@1{}") }
	keys := func() []deadHold { return []deadHold{held("c", 3), held("q", 5), held("y", 1)} }
	letters := []deadLetter{{Pos: 3}, {Pos: 9}}
	if d := wantReplay(t, book, list(), impl.HoldKey, keys()); !d.Ok {
		t.Fatal("a good one")
	}
	not := func(what string, book []chainType, list []record, hold int, keys []deadHold) {
		t.Helper()
		if d := wantReplay(t, book, list, hold, keys); !sameDead(d, deadDone{}) {
			t.Errorf("%s: %.300s", what, deadText(d))
		}
	}
	notAgain := func(what string, book []chainType, list []record, hold int) {
		t.Helper()
		for _, dead := range [][]deadLetter{letters, nil, {{Pos: 5}}, {{Pos: 77}}} {
			if d := wantAgain(t, book, list, hold, dead); !sameDead(d, deadDone{}) {
				t.Errorf("%s, again: %.300s", what, deadText(d))
			}
		}
	}
	for _, hold := range []int{-1, 2, 3, math.MaxInt, math.MinInt} {
		not("hold", book, list(), hold, keys())
		not("hold, and nothing else", nil, nil, hold, nil)
		notAgain("hold", book, list(), hold)
	}
	for i, s := range spoilings(t) {
		bad := s.spoil(copyBook(goodBook(t)))
		not("a book that is not ok", bad, list(), i%2, keys())
		not("a book that is not ok, no records", bad, nil, i%2, nil)
		notAgain("a book that is not ok", bad, list(), i%2)
	}
	for at := range 3 {
		for what, change := range map[string]func(r *record){
			"no events":       func(r *record) { r.Events = nil },
			"a wrong key":     func(r *record) { r.Key = "X" },
			"no key":          func(r *record) { r.Key = "" },
			"a wrong event":   func(r *record) { r.Events = []event{{}} },
			"too many events": func(r *record) { r.Events = slices.Repeat(r.Events, 41) },
			"too many bytes":  func(r *record) { r.Events = recordOfBytes(t, 2009).Events },
			"nothing":         func(r *record) { *r = record{} },
			"position 0":      func(r *record) { r.Pos = 0 },
			"position below":  func(r *record) { r.Pos = math.MinInt },
			"position beyond": func(r *record) { r.Pos = 1000000 },
			"position far":    func(r *record) { r.Pos = math.MaxInt },
		} {
			bad := list()
			change(&bad[at])
			not(fmt.Sprint(what, " at ", at), book, bad, impl.HoldKey, keys())
			notAgain(fmt.Sprint(what, " at ", at), book, bad, impl.HoldKey)
		}
		for what, change := range map[string]func(h *deadHold){
			"no key":        func(h *deadHold) { h.Key = "" },
			"a wrong key":   func(h *deadHold) { h.Key += "A" },
			"a long key":    func(h *deadHold) { h.Key += "aaaaaaaa" },
			"behind 0":      func(h *deadHold) { h.Behind = 0 },
			"behind below":  func(h *deadHold) { h.Behind = -1 },
			"behind beyond": func(h *deadHold) { h.Behind = 1000000 },
			"behind far":    func(h *deadHold) { h.Behind = math.MaxInt },
		} {
			bad := keys()
			change(&bad[at])
			not(fmt.Sprint(what, " at ", at), book, list(), impl.HoldKey, bad)
			not(fmt.Sprint(what, " at ", at), book, nil, impl.HoldAlone, bad)
		}
	}
	for _, pair := range [][2]int{{0, 1}, {1, 2}, {0, 2}} {
		bad := list()
		bad[pair[0]], bad[pair[1]] = bad[pair[1]], bad[pair[0]]
		not("positions that do not rise", book, bad, impl.HoldKey, nil)
		notAgain("positions that do not rise", book, bad, impl.HoldKey)
		bad = list()
		bad[pair[0]].Pos = bad[pair[1]].Pos
		not("a position twice", book, bad, impl.HoldKey, nil)
		notAgain("a position twice", book, bad, impl.HoldKey)
		wrong := keys()
		wrong[pair[0]], wrong[pair[1]] = wrong[pair[1]], wrong[pair[0]]
		not("keys that do not ascend", book, list(), impl.HoldKey, wrong)
		wrong = keys()
		wrong[pair[0]].Key = wrong[pair[1]].Key
		not("a key twice", book, list(), impl.HoldKey, wrong)
	}
}

// The dead, driven again.
func TestReplayAgain(t *testing.T) {
	book := bookOf(t, divLines)
	list := recordsOf(t, "1 x a@1{n:3}\n2 x a@1{n:0}\n3 y a@1{n:4}\n4 x a@1{n:6}\n7 y a@1{n:0}\n8 z zz@1{}")
	mended := bookOf(t, "type a\nversion {n:num}\nlift choose same get n old 0 drop emit form n div 12 get n old end\nversion {n:num}\ntype zz\nversion {}")
	for _, hold := range []int{impl.HoldAlone, impl.HoldKey} {
		first := wantReplay(t, book, list, hold, nil)
		wantCompleted(t, book, mended, list, hold)
		same := wantAgain(t, book, list, hold, first.Dead)
		if !slices.Equal(same.Dead, first.Dead) || !slices.Equal(same.Held, first.Held) || len(same.Given) != 0 {
			t.Errorf("by the same book: %.300s", deadText(same))
		}
		wantBoard(t, wantAgain(t, mended, list, hold, first.Dead), map[int]string{impl.HoldAlone: "8 z zz@1{}\n", impl.HoldKey: "4 x a@2{n:2}\n8 z zz@1{}\n"}[hold])
		// Letters by hand: only their positions count.
		wantBoard(t, wantAgain(t, book, list, hold, []deadLetter{{Pos: 3, Key: "no name", Code: 99, Behind: -5}}), "3 y a@2{n:3}\n")
		wantBoard(t, wantAgain(t, book, list, hold, []deadLetter{{Pos: 4}, {Pos: 1}, {Pos: 4}, {Pos: 4}, {Pos: 99}, {Pos: -1}, {}}), "1 x a@2{n:4}\n4 x a@2{n:2}\n")
		wantBoard(t, wantAgain(t, book, list, hold, nil), "")
		wantBoard(t, wantAgain(t, book, list, hold, []deadLetter{{Pos: 5}, {Pos: math.MaxInt}, {Pos: math.MinInt}}), "")
		wantBoard(t, wantAgain(t, book, nil, hold, first.Dead), "")
		var all []deadLetter
		for _, r := range list {
			all = append(all, deadLetter{Pos: r.Pos})
		}
		if got := wantAgain(t, book, list, hold, all); !sameDead(got, first) {
			t.Errorf("all of them: %.300s", deadText(got))
		}
	}
	// Keys that were held at first are not held again.
	parked := wantReplay(t, book, list[2:3], impl.HoldKey, []deadHold{held("y", 1)})
	wantBoard(t, parked, "3 y dead 10 behind 1\nheld y behind 1\n")
	wantBoard(t, wantAgain(t, book, list, impl.HoldKey, parked.Dead), "3 y a@2{n:3}\n")
}

// wantCompleted is P65: if a mended book lifts each record that is not dead just as the book did, what was given and what is given of the dead again is what a replay by the mended book gives. It says whether that was so.
func wantCompleted(t *testing.T, book, mended []chainType, list []record, hold int) bool {
	t.Helper()
	first := impl.DeadReplay(book, list, hold, nil)
	for _, r := range list {
		isDead := slices.ContainsFunc(first.Dead, func(l deadLetter) bool { return l.Pos == r.Pos })
		if !isDead && !sameChainDone(impl.RecLift(book, r), impl.RecLift(mended, r)) {
			return false
		}
	}
	again := impl.DeadAgain(mended, list, hold, first.Dead)
	whole := impl.DeadReplay(mended, list, hold, nil)
	if !slices.Equal(again.Dead, whole.Dead) || !slices.Equal(again.Held, whole.Held) || len(first.Given)+len(again.Given) != len(whole.Given) {
		t.Errorf("by hold %d: again %.400s\nwhole %.400s", hold, deadText(again), deadText(whole))
	}
	keyed := func(key string, lists ...[]record) (all []record) {
		for _, r := range slices.Concat(lists...) {
			if r.Key == key {
				all = append(all, r)
			}
		}
		if hold == impl.HoldAlone {
			slices.SortFunc(all, func(a, b record) int { return a.Pos - b.Pos })
		}
		return all
	}
	for _, r := range list {
		if a, b := keyed(r.Key, first.Given, again.Given), keyed(r.Key, whole.Given); !slices.EqualFunc(a, b, sameRecord) {
			t.Errorf("of the key %s %d records are given, %d by the mended book", r.Key, len(a), len(b))
		}
	}
	return true
}

// P65: books by chance that are broken in one place, and mended.
func TestReplayAgainMany(t *testing.T) {
	t.Parallel()
	r := rand.New(rand.NewSource(631))
	completed, dead, given := 0, 0, 0
	tests := []string{"less get n old 3", "same get n old 5", "less 7 get n old", "same get n old get n old", "less get n old 0"}
	actions := []string{"drop", "fail 4", "emit form n div 12 sub get n old 2 end", "both emit old emit old", "emit form n add get n old 999999995 end", "emit old"}
	for range 300 {
		cond, usual := tests[r.Intn(len(tests))], actions[r.Intn(len(actions))]
		bookWith := func(special string) []chainType {
			return bookOf(t, "type a\nversion {n:num}\nlift choose "+cond+" "+special+" "+usual+"\nversion {n:num}\ntype b\nversion {n:num}\nlift choose "+cond+" "+special+" emit old\nversion {n:num}")
		}
		book, mended := bookWith([]string{"fail 1", "fail 2", actions[r.Intn(6)]}[r.Intn(3)]), bookWith(actions[r.Intn(len(actions))])
		if r.Intn(4) == 0 {
			mended = append(mended, bookOf(t, "type c\nversion {n:num}")...)
		}
		var list []record
		pos := 0
		for range r.Intn(25) {
			pos += 1 + r.Intn(3)
			one := record{Pos: pos, Key: string(rune('x' + r.Intn(3)))}
			for range 1 + r.Intn(2) {
				one.Events = append(one.Events, ev(string(rune('a'+max(0, r.Intn(8)-5))), 1+r.Intn(2), form("n", num(r.Intn(12)-2))))
			}
			list = append(list, one)
		}
		for _, hold := range []int{impl.HoldAlone, impl.HoldKey} {
			got := wantReplay(t, book, list, hold, nil)
			wantAgain(t, mended, list, hold, got.Dead)
			dead, given = dead+len(got.Dead), given+len(got.Given)
			if wantCompleted(t, book, mended, list, hold) && len(got.Dead) > 0 {
				completed++
			}
		}
		if t.Failed() {
			t.FailNow()
		}
	}
	if completed < 100 || dead < 500 || given < 500 {
		t.Errorf("%d completed, %d dead, %d given", completed, dead, given)
	}
}

// grownBooks are the states of a book by chance that grows.
func grownBooks(t *testing.T, r *rand.Rand, adds int) [][]chainType {
	states := [][]chainType{}
	var book []chainType
	for range adds {
		name := string(rune('a' + r.Intn(3)))
		k := readKind(t, chanceForms[r.Intn(len(chanceForms))])
		lift := node{}
		if at := slices.IndexFunc(book, func(c chainType) bool { return c.Name == name }); at >= 0 {
			last := len(book[at].Versions) - 1
			more := copyBook(book)
			more[at].Versions = append(more[at].Versions, chainVersion{Kind: k})
			_, told := sinksBehind(more, at, last)
			for range 9 {
				lift = actionOf(r, bindings{{"old", textOf(book[at].Versions[last].Kind)}}, append(told, told[0], told[0]), 1+r.Intn(4))
				edgy(r, &lift)
				if toldFan(lift).Sign() > 0 {
					break
				}
			}
		}
		if more, f := impl.ChainAdd(book, name, k, lift); f.Code == 0 {
			book = more
			states = append(states, book)
		}
	}
	return states
}

// P61, P64: it does not matter whether records were written anew before they are replayed: by an older state of the book, by the book itself, or by both.
func TestReplayAnew(t *testing.T) {
	t.Parallel()
	r := rand.New(rand.NewSource(63))
	anews, dead, given, gone := 0, 0, 0, 0
	for i := range 40 {
		states := grownBooks(t, r, 12)
		if len(states) < 3 {
			continue
		}
		old := states[r.Intn(len(states))]
		book := states[len(states)-1]
		var list []record
		for pos := range 14 {
			if one := chanceRecordOf(t, r, old, 1+pos); okRecord(one) {
				list = append(list, one)
			}
		}
		for range 3 {
			var anew []record
			for _, one := range list {
				code := impl.AnewMade
				for _, by := range [][]chainType{old, book} {
					if r.Intn(2) == 0 && code != impl.AnewDropped {
						next, got := impl.RecAnew(by, one)
						if code = got; code != impl.AnewDropped {
							if !sameRecord(next, one) {
								anews++
							}
							one = next
						}
					}
				}
				if code == impl.AnewDropped {
					gone++
				} else {
					anew = append(anew, one)
				}
			}
			for _, hold := range []int{impl.HoldAlone, impl.HoldKey} {
				for _, keys := range [][]deadHold{nil, {held("key", 500), held("y", 3)}} {
					before, behind := wantReplay(t, book, list, hold, keys), impl.DeadReplay(book, anew, hold, keys)
					if !sameDead(before, behind) {
						t.Fatalf("%s\nbefore %.500s\nbehind %.500s", toldLines(book), deadText(before), deadText(behind))
					}
					dead, given = dead+len(before.Dead), given+len(before.Given)
				}
			}
		}
		if i%4 == 0 {
			wantPieces(t, book, list, impl.HoldKey, nil)
			wantPieces(t, book, list, impl.HoldAlone, []deadHold{held("x", 2)})
		}
	}
	if anews < 150 || dead < 300 || given < 500 || gone < 10 {
		t.Errorf("%d written anew, %d dead, %d given, %d gone", anews, dead, given, gone)
	}
}

// goodBoard is what a replay may come to, with each sort of line.
func goodBoard(t *testing.T) deadDone {
	return deadDone{
		Ok:    true,
		Given: recordsOf(t, "5 x a@2{n:4} b@1{}\n3 y a@2{n:3}\n9 zz b@12{}"),
		Dead:  []deadLetter{{Pos: 2, Key: "x", Code: 2, Type: "a", Version: 1}, {Pos: 4, Key: "x", Code: 10, Behind: 2}, {Pos: 1, Key: "q", Code: 5, Why: 99, Type: "abcdefgh", Version: 12}, {Pos: 7, Key: "w", Code: 6}},
		Held:  []deadHold{held("q", 1), held("x", 2), held("zz", 999999)},
	}
}

// P66: boards with each sort of line, and each reason for which one is empty.
func TestReplayBoard(t *testing.T) {
	const lines = "5 x a@2{n:4} b@1{}\n3 y a@2{n:3}\n9 zz b@12{}\n2 x dead 2 0 a@1\n4 x dead 10 behind 2\n1 q dead 5 99 abcdefgh@12\n7 w dead 6 0 @0\nheld q behind 1\nheld x behind 2\nheld zz behind 999999\n"
	wantBoard(t, goodBoard(t), lines)
	if toldBoard(goodBoard(t)) != lines {
		t.Error("the tests themselves tell others")
	}
	with := func(change func(d *deadDone)) deadDone {
		d := goodBoard(t)
		change(&d)
		return d
	}
	wantBoard(t, deadDone{Ok: true}, "")
	wantBoard(t, deadDone{Ok: true, Given: []record{}, Dead: []deadLetter{}, Held: []deadHold{}}, "")
	wantBoard(t, with(func(d *deadDone) { d.Dead, d.Held = nil, nil }), "5 x a@2{n:4} b@1{}\n3 y a@2{n:3}\n9 zz b@12{}\n")
	wantBoard(t, with(func(d *deadDone) { d.Given, d.Held = nil, nil }), "2 x dead 2 0 a@1\n4 x dead 10 behind 2\n1 q dead 5 99 abcdefgh@12\n7 w dead 6 0 @0\n")
	wantBoard(t, with(func(d *deadDone) { d.Given, d.Dead = nil, nil }), "held q behind 1\nheld x behind 2\nheld zz behind 999999\n")
	wantBoard(t, deadDone{Ok: true, Given: []record{{Pos: 1, Key: "k"}}}, "1 k\n")
	// What is told of a parked one is where it is parked, whatever else stands in it.
	wantBoard(t, deadDone{Ok: true, Dead: []deadLetter{{Pos: 1, Key: "k", Code: 10, Why: 9, Type: "a", Version: 3}}}, "1 k dead 10 behind 0\n")
	wantBoard(t, deadDone{Ok: true, Dead: []deadLetter{{Pos: 1, Key: "k", Code: 9, Why: 9, Type: "", Version: 3, Behind: 7}}}, "1 k dead 9 9 @3\n")
	for _, bounds := range []deadLetter{{Pos: 1, Key: "a", Code: 1}, {Pos: 999999, Key: "abcdefgh", Code: 10, Why: 99, Type: "abcdefgh", Version: 12, Behind: 999999}, {Pos: 1, Key: "a", Code: 9, Behind: 999999}} {
		wantBoard(t, deadDone{Ok: true, Dead: []deadLetter{bounds}}, toldBoard(deadDone{Dead: []deadLetter{bounds}}))
	}
	empty := func(what string, d deadDone) {
		t.Helper()
		if got := impl.DeadBoard(d); got != "" {
			t.Errorf("%s: %.200q", what, got)
		}
	}
	empty("it is not Ok", with(func(d *deadDone) { d.Ok = false }))
	empty("nothing", deadDone{})
	for at := range 3 {
		for what, change := range map[string]func(r *record){
			"position 0": func(r *record) { r.Pos = 0 }, "position below": func(r *record) { r.Pos = -1 }, "position beyond": func(r *record) { r.Pos = 1000000 }, "position far": func(r *record) { r.Pos = math.MaxInt },
			"no key": func(r *record) { r.Key = "" }, "a wrong key": func(r *record) { r.Key = "X" }, "a long key": func(r *record) { r.Key = "abcdefghi" },
			"a wrong event": func(r *record) { r.Events = append(r.Events, event{}) }, "a wrong event ahead": func(r *record) { r.Events = append([]event{ev("a", 13, form(""))}, r.Events...) },
			"too many events": func(r *record) { r.Events = slices.Repeat(r.Events[:1], 16001) },
		} {
			empty(fmt.Sprint(what, " at ", at), with(func(d *deadDone) { change(&d.Given[at]) }))
		}
	}
	for at := range 4 {
		for what, change := range map[string]func(l *deadLetter){
			"position 0": func(l *deadLetter) { l.Pos = 0 }, "position below": func(l *deadLetter) { l.Pos = math.MinInt }, "position beyond": func(l *deadLetter) { l.Pos = 1000000 },
			"no key": func(l *deadLetter) { l.Key = "" }, "a wrong key": func(l *deadLetter) { l.Key = "a b" }, "the code 0": func(l *deadLetter) { l.Code = 0 }, "the code 11": func(l *deadLetter) { l.Code = 11 }, "the code -1": func(l *deadLetter) { l.Code = -1 },
			"why below": func(l *deadLetter) { l.Why = -1 }, "why beyond": func(l *deadLetter) { l.Why = 100 }, "a wrong type": func(l *deadLetter) { l.Type = "A" }, "a long type": func(l *deadLetter) { l.Type = "abcdefghi" },
			"version below": func(l *deadLetter) { l.Version = -1 }, "version beyond": func(l *deadLetter) { l.Version = 13 }, "behind below": func(l *deadLetter) { l.Behind = -1 }, "behind beyond": func(l *deadLetter) { l.Behind = 1000000 },
			"far off": func(l *deadLetter) { l.Behind, l.Why = math.MaxInt, math.MaxInt },
		} {
			empty(fmt.Sprint(what, " at ", at), with(func(d *deadDone) { change(&d.Dead[at]) }))
		}
	}
	for at := range 3 {
		for what, change := range map[string]func(h *deadHold){
			"no key": func(h *deadHold) { h.Key = "" }, "a wrong key": func(h *deadHold) { h.Key += "A" }, "behind 0": func(h *deadHold) { h.Behind = 0 }, "behind below": func(h *deadHold) { h.Behind = -1 }, "behind beyond": func(h *deadHold) { h.Behind = 1000000 },
		} {
			empty(fmt.Sprint(what, " at ", at), with(func(d *deadDone) { change(&d.Held[at]) }))
		}
	}
	empty("keys that do not ascend", with(func(d *deadDone) { d.Held[0], d.Held[1] = d.Held[1], d.Held[0] }))
	empty("the last keys do not ascend", with(func(d *deadDone) { d.Held[1], d.Held[2] = d.Held[2], d.Held[1] }))
	empty("a key twice", with(func(d *deadDone) { d.Held[2].Key = "x" }))
	// So many in each of the lists.
	for _, n := range []int{200, 201} {
		many := deadDone{Ok: true, Given: slices.Repeat([]record{{Pos: 1, Key: "k"}}, n)}
		letters := deadDone{Ok: true, Dead: slices.Repeat([]deadLetter{{Pos: 1, Key: "k", Code: 1}}, n)}
		keys := deadDone{Ok: true, Held: manyHeld(n)}
		for _, d := range []deadDone{many, letters, keys} {
			if got := strings.Count(impl.DeadBoard(d), "\n"); got != map[int]int{200: 200, 201: 0}[n] {
				t.Errorf("%d of them: %d lines", n, got)
			}
		}
	}
	most := deadDone{Ok: true, Given: []record{{Pos: 1, Key: "k", Events: slices.Repeat([]event{eventOf(t, "b@1{}")}, 16000)}}}
	wantBoard(t, most, "1 k"+strings.Repeat(" b@1{}", 16000)+"\n")
}

// P62, P63: many books and records by chance.
func TestReplayMany(t *testing.T) {
	r := rand.New(rand.NewSource(632))
	oks, parked := 0, 0
	for range 250 {
		book := chanceBook(t, r)
		if toldBook(book).Code != 0 && r.Intn(10) > 0 {
			continue
		}
		var list []record
		for i := range r.Intn(9) {
			one := chanceRecordOf(t, r, book, 1+2*i)
			if okRecord(one) || r.Intn(9) == 0 {
				list = append(list, one)
			}
		}
		if len(list) > 1 && r.Intn(30) == 0 {
			list[0].Pos = list[1].Pos
		}
		keys := [][]deadHold{nil, {held("key", 3)}, {held("a", 1), held("x", 9)}}[r.Intn(3)]
		got := wantReplay(t, book, list, r.Intn(2), keys)
		if got.Ok {
			oks++
		}
		for _, l := range got.Dead {
			if l.Code == impl.StopParked {
				parked++
			}
		}
		if t.Failed() {
			t.FailNow()
		}
	}
	if oks < 100 || parked < 50 {
		t.Errorf("%d oks, %d parked", oks, parked)
	}
}

// Goroutines always come to the same, and none is left when a replay has told.
func TestReplaySame(t *testing.T) {
	before := runtime.NumGoroutine()
	book := bookOf(t, dropLines)
	list := manyRecords(t, 200)
	for i := range list {
		list[i].Events = []event{eventOf(t, fmt.Sprintf("a@1{n:%d}", i%40-3))}
	}
	wanted := wantReplay(t, book, list, impl.HoldKey, nil)
	alone := wantReplay(t, book, list, impl.HoldAlone, nil)
	sideBySide(6, 10, func(int) {
		if !sameDead(impl.DeadReplay(book, list, impl.HoldKey, nil), wanted) || !sameDead(impl.DeadReplay(book, list, impl.HoldAlone, nil), alone) {
			t.Error("not always the same")
		}
	})
	wantNoneLeft(t, before)
}

// Every function answers at every argument.
func TestReplayWithoutEnd(t *testing.T) {
	book := bookOf(t, divLines)
	trees := make([]tree, 1)
	trees[0] = tree{Sort: impl.TreeForm, Names: []string{"n"}, Kids: trees}
	self := event{Type: "a", Version: 1, Body: trees[0]}
	for what, d := range map[string]deadDone{
		"records":       impl.DeadReplay(book, make([]record, 3000000), impl.HoldKey, nil),
		"keys":          impl.DeadReplay(book, nil, impl.HoldKey, make([]deadHold, 3000000)),
		"a long key":    impl.DeadReplay(book, nil, impl.HoldKey, []deadHold{held(strings.Repeat("k", 30000000), 1)}),
		"letters":       impl.DeadAgain(book, nil, impl.HoldKey, make([]deadLetter, 3000000)),
		"records again": impl.DeadAgain(book, make([]record, 3000000), impl.HoldKey, nil),
		"holds itself":  impl.DeadReplay(book, []record{{Pos: 1, Key: "k", Events: []event{self}}}, impl.HoldKey, nil),
		"a great book":  impl.DeadReplay(make([]chainType, 3000000), nil, impl.HoldKey, nil),
	} {
		if !sameDead(d, deadDone{}) {
			t.Errorf("very many: %s", what)
		}
	}
	for what, d := range map[string]deadDone{
		"given":        {Ok: true, Given: make([]record, 3000000)},
		"dead":         {Ok: true, Dead: make([]deadLetter, 3000000)},
		"held":         {Ok: true, Held: make([]deadHold, 3000000)},
		"events":       {Ok: true, Given: []record{{Pos: 1, Key: "k", Events: make([]event, 3000000)}}},
		"holds itself": {Ok: true, Given: []record{{Pos: 1, Key: "k", Events: []event{self}}}},
		"a long key":   {Ok: true, Dead: []deadLetter{{Pos: 1, Key: strings.Repeat("k", 30000000), Code: 1}}},
	} {
		if impl.DeadBoard(d) != "" {
			t.Errorf("a board of very many: %s", what)
		}
	}
}

func textsOfDead(d deadDone) (all []string) {
	for _, r := range d.Given {
		all = append(all, textsOfRecord(r)...)
	}
	for _, l := range d.Dead {
		all = append(all, l.Key, l.Type)
	}
	for _, h := range d.Held {
		all = append(all, h.Key)
	}
	return all
}

func wipeDead(d deadDone) {
	for _, r := range d.Given {
		wipeRecord(r)
	}
	wipe(d.Given)
	wipe(d.Dead)
	wipe(d.Held)
}

// Nothing is written into an argument or behind its end, and every answer is new memory.
func TestReplayMemory(t *testing.T) {
	plainBook := bookOf(t, theExample+"type dead\nversion {s:text}\nlift fail 3\nversion {s:text}\n")
	var plain []record
	for i, s := range []string{`order@1{items:[4,9],who:"someone"}`, `dead@1{s:"a text of the dead"}`, `audit@1{who:"another one"}`, `unknown@1{s:"a text"}`, `order@3{id:1,tag:?"newest"}`} {
		plain = append(plain, recordAt(t, i+1, []string{"keya", "keyb", "keyc", "keyd", "keyb"}[i], s))
	}
	plainKeys := []deadHold{held("keyc", 9), held("other", 7)}
	arguments := func() ([]chainType, []record, []deadHold) {
		book := spareBook(plainBook)
		for i := range book {
			book[i].Name = strings.Clone(book[i].Name)
		}
		var list []record
		for _, r := range plain {
			list = append(list, spareRecord(r))
		}
		keys := slices.Clone(plainKeys)
		for i := range keys {
			keys[i].Key = strings.Clone(keys[i].Key)
		}
		return book, withSpare(list, record{Key: "spare"}), withSpare(keys, held("spare", 77))
	}
	letters := []deadLetter{{Pos: 1}, {Pos: 2}, {Pos: 4}, {Pos: 5, Key: "keys of letters"}}
	for at, tell := range []func(book []chainType, list []record, keys []deadHold, dead []deadLetter) deadDone{
		func(book []chainType, list []record, keys []deadHold, dead []deadLetter) deadDone {
			return impl.DeadReplay(book, list, impl.HoldKey, keys)
		},
		func(book []chainType, list []record, keys []deadHold, dead []deadLetter) deadDone {
			return impl.DeadReplay(book, list, impl.HoldAlone, keys)
		},
		func(book []chainType, list []record, keys []deadHold, dead []deadLetter) deadDone {
			return impl.DeadAgain(book, list, impl.HoldKey, dead)
		},
	} {
		book, list, keys := arguments()
		dead := withSpare(letters, deadLetter{Key: "spare"})
		var others []string
		for _, one := range book {
			others = append(others, one.Name)
		}
		for _, r := range list {
			others = append(others, textsOfRecord(r)...)
		}
		for _, h := range keys {
			others = append(others, h.Key)
		}
		got := tell(book, list, keys, dead)
		if len(got.Given) == 0 || len(got.Dead) == 0 || at != 1 && len(got.Held) == 0 {
			t.Errorf("%d: %.300s", at, deadText(got))
		}
		wantTextsApart(t, textsOfDead(got), others)
		wanted := deadText(got)
		for _, r := range got.Given {
			for _, e := range r.Events {
				spoilSpare(e.Body)
			}
			wipe(r.Events[len(r.Events):])
		}
		if deadText(got) != wanted {
			t.Errorf("%d: lists of an answer share their memory", at)
		}
		board := impl.DeadBoard(got)
		wantTextsApart(t, []string{board}, textsOfDead(got))
		if deadText(got) != wanted {
			t.Errorf("%d: the board changed what it tells of", at)
		}
		wipeDead(got)
		for i, r := range list {
			wantSpareRecord(t, r, plain[i])
		}
		wantSpareBook(t, "a replay", book)
		if !sameBook(book, plainBook) || !slices.Equal(keys, plainKeys) || !stillSpare(keys, held("spare", 77)) || !slices.Equal(dead, letters) || !stillSpare(dead, deadLetter{Key: "spare"}) || list[:6][5].Key != "spare" {
			t.Errorf("%d: an argument was changed", at)
		}
		if again := tell(book, list, keys, dead); deadText(again) != wanted {
			t.Errorf("%d: an answer shares something", at)
		}
	}
}
