package tests

import (
	"fmt"
	"math/big"
	"math/rand"
	"slices"
	"strings"
	"testing"

	"loop.example/teagle/impl"
)

type liftVar = impl.LiftVar

type liftSink = impl.LiftSink

func aVar(name string, k kind) liftVar { return liftVar{Name: name, Kind: k} }

func aSink(name string, version int, k kind) liftSink {
	return liftSink{Name: name, Version: version, Kind: k}
}

// The tests look at nodes by a table of their own, in which schemas are texts: ahead of ">" what the kids must be (=1 is
// the same as the first, =in1 as what stands within it), behind it the schema, 1 and 2 being those of the first kids.
var kidTable = map[int]string{
	1: "> num", 2: "> text", 3: "> flag", 7: "any > ?1", 8: "any > [1]",
	9: "num num > num", 10: "num num > num", 11: "num num > num", 12: "num num > num", 13: "num num > num",
	14: "num|text =1 > flag", 15: "any =1 > flag", 16: "flag flag > flag", 17: "flag flag > flag", 18: "flag > flag",
	19: "flag any =2 > 2", 20: "any any > 2", 21: "form > at", 22: "form any > put", 23: "form > cut",
	25: "list num > in1", 26: "list|text > num", 27: "list|text =1 > 1", 28: "list|text num num > 1", 29: "num > text", 30: "text > ?num",
	31: "maybe =in1 > 2", 32: "maybe any =2 > 2", 33: "list any > [2]", 34: "list flag > 1", 35: "list any =2 > 2",
	36: ">", 37: ">", 38: "=sink >", 39: "=sink >", 40: "any any >", 41: "flag any any >", 42: "any any >", 43: "list any >",
}

// sortWord is the word of a schema's text in the table of what kids must be.
func sortWord(k string) string {
	switch {
	case k == "":
		return "action"
	case k[0] == '[':
		return "list"
	case k[0] == '?':
		return "maybe"
	case k[0] == '{':
		return "form"
	}
	return k
}

// inside is what stands within the text of a list's or a maybe's schema.
func inside(k string) string {
	return strings.TrimSuffix(k[1:], map[byte]string{'[': "]", '?': ""}[k[0]])
}

// formTexts cuts the text of a form's schema into names and the texts of the schemas.
func formTexts(k string) (names, kids []string) {
	rest := k[1 : len(k)-1]
	for rest != "" {
		name, after, _ := strings.Cut(rest, ":")
		end, deep := 0, 0
		for end < len(after) && (deep > 0 || after[end] != ',') {
			deep += strings.Count("[{", after[end:end+1]) - strings.Count("]}", after[end:end+1])
			end++
		}
		names, kids = append(names, name), append(kids, after[:end])
		rest = strings.TrimPrefix(after[end:], ",")
	}
	return names, kids
}

func formText(fields map[string]string) string {
	var names, texts []string
	for name := range fields {
		names = append(names, name)
	}
	slices.Sort(names)
	for _, name := range names {
		texts = append(texts, name+":"+fields[name])
	}
	return "{" + strings.Join(texts, ",") + "}"
}

func fieldMap(k string) map[string]string {
	names, kids := formTexts(k)
	fields := map[string]string{}
	for i, name := range names {
		fields[name] = kids[i]
	}
	return fields
}

// measured are the parts and the levels of a schema, by its text.
func measured(k string) (parts, levels int) {
	var kids []string
	switch sortWord(k) {
	case "list", "maybe":
		kids = []string{inside(k)}
	case "form":
		_, kids = formTexts(k)
	}
	for _, kid := range kids {
		p, l := measured(kid)
		parts, levels = parts+p, max(levels, l)
	}
	return parts + 1, levels + 1
}

func fitsBounds(k string) bool {
	parts, levels := measured(k)
	return parts <= 40 && levels <= 6
}

// bindings are names with the texts of their schemas, the last ones counting.
type bindings [][2]string

func (b bindings) find(name string) (string, bool) {
	for i := len(b) - 1; i >= 0; i-- {
		if b[i][0] == name {
			return b[i][1], true
		}
	}
	return "", false
}

func (b bindings) and(name, k string) bindings {
	return append(slices.Clip(b), [2]string{name, k})
}

// looker looks at a node as the document tells; sinks are schemas' texts by name and version.
type looker struct {
	sinks map[string]string
	at    int
}

func sinkWord(n node) string {
	return strings.Join(n.Names, "") + "@" + fmt.Sprint(n.Num)
}

// kidWanted says whether a kid with this schema is what the word of the table says.
func (l *looker) kidWanted(n node, word string, kinds []string, k string) bool {
	switch word {
	case "any":
		return true
	case "=1":
		return k == kinds[0]
	case "=2":
		return k == kinds[1]
	case "=in1":
		return k == inside(kinds[0])
	case "=sink":
		return k == l.sinks[sinkWord(n)]
	}
	return slices.Contains(strings.Split(word, "|"), sortWord(k))
}

func boundFor(n node, bound bindings, kinds []string) bindings {
	switch x := len(kinds); {
	case (n.Op == impl.LiftLet || n.Op == impl.LiftTake) && x == 1:
		return bound.and(n.Names[0], kinds[0])
	case slices.Contains([]int{impl.LiftCase, impl.LiftMap, impl.LiftKeep, impl.LiftEach}, n.Op) && x == 1:
		return bound.and(n.Names[0], inside(kinds[0]))
	case n.Op == impl.LiftFold && x == 2:
		return bound.and(n.Names[0], kinds[1]).and(n.Names[1], inside(kinds[0]))
	}
	return bound
}

func (l *looker) look(n node, bound bindings) (string, fault) {
	place := l.at
	l.at++
	if n.Op == impl.LiftEmit || n.Op == impl.LiftSend {
		if _, is := l.sinks[sinkWord(n)]; !is {
			return "", fault{Code: 5, At: place}
		}
	}
	wants, own, _ := strings.Cut(kidTable[n.Op], ">")
	words := strings.Fields(wants)
	var kinds []string
	for i, kid := range n.Kids {
		at := l.at
		k, f := l.look(kid, boundFor(n, bound, kinds))
		if f.Code != 0 {
			return "", f
		}
		if n.Op != impl.LiftForm && !l.kidWanted(n, words[i], kinds, k) {
			return "", fault{Code: 6, At: at}
		}
		kinds = append(kinds, k)
	}
	if n.Op >= 36 {
		return "", fault{}
	}
	k, code := ownText(n, strings.TrimSpace(own), bound, kinds)
	if code == 0 && !fitsBounds(k) {
		code = 7
	}
	if code != 0 {
		return "", fault{Code: code, At: place}
	}
	return k, fault{}
}

// ownText is the schema of a value by those of its kids, as the table tells it, or a code.
func ownText(n node, own string, bound bindings, kinds []string) (string, int) {
	switch own {
	case "1", "?1", "[1]":
		return strings.Replace(own, "1", kinds[0], 1), 0
	case "2", "[2]":
		return strings.Replace(own, "2", kinds[1], 1), 0
	case "in1":
		return inside(kinds[0]), 0
	case "at", "cut":
		fields := fieldMap(kinds[0])
		k, is := fields[n.Names[0]]
		if !is {
			return "", 8
		}
		if own == "at" {
			return k, 0
		}
		delete(fields, n.Names[0])
		return formText(fields), 0
	case "put":
		fields := fieldMap(kinds[0])
		fields[n.Names[0]] = kinds[1]
		return formText(fields), 0
	}
	switch n.Op {
	case impl.LiftName:
		k, is := bound.find(n.Names[0])
		if !is {
			return "", 5
		}
		return k, 0
	case impl.LiftNone:
		return "?" + n.Text, 0
	case impl.LiftEmpty:
		return "[" + n.Text + "]", 0
	case impl.LiftForm:
		fields := map[string]string{}
		for i, name := range n.Names {
			fields[name] = kinds[i]
		}
		return formText(fields), 0
	}
	return own, 0
}

// toldCost is what the document says of costs, with numbers that have no end.
func toldCost(n node) *big.Int {
	cost := big.NewInt(1)
	for i, kid := range n.Kids {
		times := int64(1)
		if i == 1 && strings.Contains(" map keep each ", " "+strings.Fields(opTable[n.Op])[0]+" ") || i == 2 && n.Op == impl.LiftFold {
			times = 20
		}
		cost.Add(cost, new(big.Int).Mul(big.NewInt(times), toldCost(kid)))
	}
	return cost
}

func toldFan(n node) *big.Int {
	fans := []*big.Int{}
	for _, kid := range n.Kids {
		if kid.Op >= 36 {
			fans = append(fans, toldFan(kid))
		}
	}
	switch strings.Fields(opTable[n.Op])[0] {
	case "emit", "send":
		return big.NewInt(1)
	case "both":
		return fans[0].Add(fans[0], fans[1])
	case "choose":
		if fans[0].Cmp(fans[1]) < 0 {
			return fans[1]
		}
		return fans[0]
	case "take":
		return fans[0]
	case "each":
		return fans[0].Mul(fans[0], big.NewInt(20))
	}
	return big.NewInt(0)
}

// atMost is a number, or the next one behind a bound, if it is beyond that.
func atMost(n *big.Int, bound int64) int {
	if n.Cmp(big.NewInt(bound)) > 0 {
		return int(bound) + 1
	}
	return int(n.Int64())
}

// okAs says whether a node is ok as a value ("V") or an action ("A"); both have the same bounds.
func okAs(n node, as string) bool {
	words, shaped := nodeWords(n, as)
	return shaped && len(strings.Join(words, " ")) <= 3000 && nodesOf(n) <= 200 && nodeLevels(n) <= 24
}

func toldCheck(from string, sinks [][2]string, n node) fault {
	if !okAs(n, "A") {
		return fault{Code: 2}
	}
	l := looker{sinks: map[string]string{}}
	for _, sink := range sinks {
		if _, is := l.sinks[sink[0]]; !is {
			l.sinks[sink[0]] = sink[1]
		}
	}
	_, f := l.look(n, bindings{{"old", from}})
	switch {
	case f.Code != 0:
		return f
	case atMost(toldCost(n), 40000) > 40000:
		return fault{Code: 9}
	case atMost(toldFan(n), 400) > 400:
		return fault{Code: 10}
	}
	return fault{}
}

func toldKind(bound bindings, n node) (string, fault) {
	if !okAs(n, "V") {
		return "", fault{Code: 2}
	}
	l := looker{}
	return l.look(n, bound)
}

// varsOf makes names with schemas out of a text such as "a num, b [text]".
func varsOf(t *testing.T, s string) ([]liftVar, bindings) {
	t.Helper()
	var vars []liftVar
	var bound bindings
	for _, one := range strings.Split(s, ";") {
		if name, k, is := strings.Cut(strings.TrimSpace(one), " "); is {
			vars, bound = append(vars, liftVar{Name: name, Kind: readKind(t, k)}), bound.and(name, k)
		}
	}
	return vars, bound
}

// sinksOf makes sinks out of a text such as "@0 {n:num}; paid@2 {}".
func sinksOf(t *testing.T, s string) ([]liftSink, [][2]string) {
	t.Helper()
	var sinks []liftSink
	var told [][2]string
	for _, one := range strings.Split(s, ";") {
		if where, k, is := strings.Cut(strings.TrimSpace(one), " "); is {
			name, version, _ := strings.Cut(where, "@")
			sinks = append(sinks, liftSink{Name: name, Version: numOf(version), Kind: readKind(t, k)})
			told = append(told, [2]string{where, k})
		}
	}
	return sinks, told
}

// readLift is the action that a text is.
func readLift(t *testing.T, s string) node {
	t.Helper()
	n, f := impl.LiftParse(s)
	if f.Code != 0 {
		t.Fatalf("%q is no upcaster: %v", s, f)
	}
	return n
}

// readValue is the value that a text is.
func readValue(t *testing.T, s string) node {
	t.Helper()
	return readLift(t, "emit "+s).Kids[0]
}

// wantValue: a value has this schema, or this fault if the schema is empty.
func wantValue(t *testing.T, vars, s string, wanted string, code, at int) {
	t.Helper()
	list, bound := varsOf(t, vars)
	n := readValue(t, s)
	k, f := impl.LiftKind(list, n)
	if f != (fault{Code: code, At: at}) || wanted != "" && (!okKind(k) || textOf(k) != wanted) || wanted == "" && !sameKind(k, kind{}) {
		t.Errorf("%q: %v %v, wanted %q, %d at %d", s, k, f, wanted, code, at)
	}
	if told, f := toldKind(bound, n); told != wanted || f != (fault{Code: code, At: at}) {
		t.Errorf("%q: the tests themselves tell %q %v, wanted %q, %d at %d", s, told, f, wanted, code, at)
	}
	wantFaultThere(t, f, n)
}

// wantFaultThere (P21): what is wrong is told at a node that is there.
func wantFaultThere(t *testing.T, f fault, n node) {
	t.Helper()
	if f.At < 0 || f.At >= nodesOf(n) || f.Code == 0 && f.At != 0 {
		t.Errorf("%v is told of %d nodes: %v", f, nodesOf(n), n)
	}
}

const (
	someFrom  = "{a:num,b:text,f:flag,l:[num],m:?num,o:{x:num}}"
	someSinks = "@0 {n:num}; paid@2 {}; paid@12 {t:text}"
	someVars  = "n num; t text; f flag; l [num]; lt [text]; lo [{a:num}]; m ?num; mt ?text; o {a:num,b:text}; e {}; z {only:flag}"
)

// wantCheck: an upcaster has this fault, or none.
func wantCheck(t *testing.T, from, sinks string, n node, code, at int) {
	t.Helper()
	list, told := sinksOf(t, sinks)
	if f := impl.LiftCheck(readKind(t, from), list, n); f != (fault{Code: code, At: at}) {
		t.Errorf("%.200q: %v, wanted %d at %d", impl.LiftWrite(n), f, code, at)
	}
	if f := toldCheck(from, told, n); f != (fault{Code: code, At: at}) {
		t.Errorf("%.200q: the tests themselves tell %v, wanted %d at %d", impl.LiftWrite(n), f, code, at)
	}
	if code == 0 {
		wantBounded(t, n)
	}
}

// wantBounded (P21): what is accepted is bounded, and none of its parts costs as much as the whole.
func wantBounded(t *testing.T, n node) {
	t.Helper()
	cost, fan := impl.LiftCost(n), impl.LiftFan(n)
	if cost < 1 || cost > impl.LiftMaxCost || fan < 0 || fan > impl.LiftMaxFan {
		t.Errorf("%q is accepted, and costs %d and fans %d", impl.LiftWrite(n), cost, fan)
	}
	wantKidsCheaper(t, n)
}

func wantKidsCheaper(t *testing.T, n node) {
	t.Helper()
	for _, kid := range n.Kids {
		if part := impl.LiftCost(kid); part < 1 || part >= impl.LiftCost(n) {
			t.Errorf("%v costs %d, its part %v %d", n, impl.LiftCost(n), kid, part)
		}
		wantKidsCheaper(t, kid)
	}
}

func wantText(t *testing.T, s string, code, at int) {
	t.Helper()
	wantCheck(t, someFrom, someSinks, readLift(t, s), code, at)
}

// short is the beginning of what a node has.
func short(n node) string {
	return fmt.Sprintf("%.200s", fmt.Sprint(n))
}

// wantCost: cost and fan are these, and those that the tests themselves tell.
func wantCost(t *testing.T, n node, cost, fan int) {
	t.Helper()
	if impl.LiftCost(n) != cost || impl.LiftFan(n) != fan {
		t.Errorf("%s costs %d and fans %d, wanted %d and %d", short(n), impl.LiftCost(n), impl.LiftFan(n), cost, fan)
	}
	toldC, toldF := 0, 0
	if okAs(n, "V") {
		toldC = atMost(toldCost(n), 40000)
	}
	if okAs(n, "A") {
		toldC, toldF = atMost(toldCost(n), 40000), atMost(toldFan(n), 400)
	}
	if toldC != cost || toldF != fan {
		t.Errorf("%s: the tests themselves tell %d and %d, wanted %d and %d", short(n), toldC, toldF, cost, fan)
	}
}

// P21: values of each op have the schema of the table.
func TestCheckOfEachValue(t *testing.T) {
	seen := map[int]int{}
	for _, row := range []struct {
		text, kind string
		cost       int
	}{
		{"5", "num", 1},
		{`"q"`, "text", 1},
		{"no", "flag", 1},
		{"lo", "[{a:num}]", 1},
		{"none num", "?num", 1},
		{"none [?{a:flag}]", "?[?{a:flag}]", 1},
		{"empty text", "[text]", 1},
		{"empty ?{}", "[?{}]", 1},
		{"some n", "?num", 2},
		{"some some l", "??[num]", 3},
		{"one o", "[{a:num,b:text}]", 2},
		{"one one t", "[[text]]", 3},
		{"add n 1", "num", 3},
		{"sub 1 n", "num", 3},
		{"mul n n", "num", 3},
		{"div n size t", "num", 4},
		{"rem add 1 2 n", "num", 5},
		{"less n 1", "flag", 3},
		{`less t "a"`, "flag", 3},
		{"same n 1", "flag", 3},
		{"same o o", "flag", 3},
		{"same lt empty text", "flag", 3},
		{"same m none num", "flag", 3},
		{"same e form end", "flag", 3},
		{"same f yes", "flag", 3},
		{"and f no", "flag", 3},
		{"or not f less 1 2", "flag", 6},
		{"not f", "flag", 2},
		{"if f n 2", "num", 4},
		{"if f lo one form a 1 end", "[{a:num}]", 6},
		{"let x t x", "text", 3},
		{"let x t add n 1", "num", 5},
		{"get a o", "num", 2},
		{"get b o", "text", 2},
		{"put a o t", "{a:text,b:text}", 3},
		{"put aa o f", "{a:num,aa:flag,b:text}", 3},
		{"put z o l", "{a:num,b:text,z:[num]}", 3},
		{"put a e n", "{a:num}", 3},
		{"put b put a e o m", "{a:{a:num,b:text},b:?num}", 5},
		{"put end e n", "{end:num}", 3},
		{"cut a o", "{b:text}", 2},
		{"cut b o", "{a:num}", 2},
		{"cut only z", "{}", 2},
		{"cut b cut a o", "{}", 3},
		{"form end", "{}", 1},
		{"form a n b form end c some l end", "{a:num,b:{},c:?[num]}", 5},
		{"form add n num t yes f end", "{add:num,num:text,yes:flag}", 4},
		{"at l 0", "num", 3},
		{"at lo n", "{a:num}", 3},
		{"at one m 0", "?num", 4},
		{"size l", "num", 2},
		{"size t", "num", 2},
		{"join l l", "[num]", 3},
		{"join t t", "text", 3},
		{"join lo empty {a:num}", "[{a:num}]", 3},
		{"part l 0 n", "[num]", 4},
		{"part t 0 n", "text", 4},
		{"show n", "text", 2},
		{"read t", "?num", 2},
		{"else m n", "num", 3},
		{`else mt "q"`, "text", 3},
		{"else some m none num", "?num", 4},
		{"case x m x n", "num", 4},
		{"case x m one x l", "[num]", 5},
		{"case x mt 1 2", "num", 4},
		{"map x l show x", "[text]", 1 + 1 + 20*2},
		{"map x lo get a x", "[num]", 1 + 1 + 20*2},
		{"map x one 1 one x", "[[num]]", 1 + 2 + 20*2},
		{"keep x l less x 3", "[num]", 1 + 1 + 20*3},
		{"keep x lo f", "[{a:num}]", 1 + 1 + 20},
		{"fold s x l 0 add s x", "num", 1 + 1 + 1 + 20*3},
		{"fold s x l t join s show x", "text", 1 + 1 + 1 + 20*4},
		{"fold s x lt empty num join s one size x", "[num]", 1 + 1 + 1 + 20*5},
		{"fold s x lt show 1 x", "text", 1 + 1 + 2 + 20},
	} {
		wantValue(t, someVars, row.text, row.kind, 0, 0)
		n := readValue(t, row.text)
		wantCost(t, n, row.cost, 0)
		wantKidsCheaper(t, n)
		countOps(n, seen)
	}
	for op := 1; op <= 35; op++ {
		if seen[op] == 0 {
			t.Errorf("no value has the op %d", op)
		}
	}
}

// P21: ordinary upcasters with each action.
func TestCheckOfEachAction(t *testing.T) {
	seen := map[int]int{}
	for _, row := range []struct {
		text      string
		cost, fan int
	}{
		{"drop", 1, 0},
		{"fail 7", 1, 0},
		{"emit form n get a old end", 4, 1},
		{"send paid 2 form end", 2, 1},
		{"send paid 12 form t get b old end", 4, 1},
		{"both drop drop", 3, 0},
		{"both emit form n 1 end both send paid 2 form end emit form n 2 end", 10, 3},
		{"choose get f old drop fail 1", 5, 0},
		{"choose get f old drop emit form n 1 end", 7, 1},
		{"choose yes both emit form n 1 end emit form n 2 end emit form n 3 end", 12, 2},
		{"choose yes emit form n 3 end both emit form n 1 end emit form n 2 end", 12, 2},
		{"take x get a old emit form n x end", 6, 1},
		{"take x 1 drop", 3, 0},
		{"each x get l old emit form n x end", 1 + 2 + 20*3, 20},
		{"each x get l old drop", 1 + 2 + 20, 0},
		{"each x get l old each y get l old both drop emit form n add x y end", 1 + 2 + 20*(1+2+20*(2+1+1+3)), 400},
		{"take old get o old emit form n get x old end", 1 + 2 + 1 + 1 + 2, 1},
	} {
		n := readLift(t, row.text)
		wantText(t, row.text, 0, 0)
		wantCost(t, n, row.cost, row.fan)
		countOps(n, seen)
	}
	for op := 36; op <= 43; op++ {
		if seen[op] == 0 {
			t.Errorf("no upcaster has the op %d", op)
		}
	}
}

// P21: of a name that is bound several times the last one counts, and it counts as far as its kid reaches.
func TestCheckNames(t *testing.T) {
	for _, row := range []struct {
		vars, text, kind string
		code, at         int
	}{
		{"", "x", "", 5, 0},
		{"y num", "x", "", 5, 0},
		{"x num", "x", "num", 0, 0},
		{"x num; x text", "x", "text", 0, 0},
		{"x num; y flag; x text; z [num]", "x", "text", 0, 0},
		{"x text; x num", "x", "num", 0, 0},
		{"add num; x text", "x", "text", 0, 0},
		{"x num", `let x "q" x`, "text", 0, 0},
		{"x num", "let x one x x", "[num]", 0, 0},
		{"x num", `let x "q" let x yes x`, "flag", 0, 0},
		{"x num", `same x let x "q" 1`, "flag", 0, 0},
		{"x num", `if let x yes x x 2`, "num", 0, 0},
		{"x num", `add let x "q" size x x`, "num", 0, 0},
		{"", `add let x "q" size x x`, "", 5, 5},
		{"", "let x x 1", "", 5, 1},
		{"", "let x 1 let y x y", "num", 0, 0},
		{"", "let y let x 1 x x", "", 5, 4},
		{"m ??text", "case x m x none text", "?text", 0, 0},
		{"m ?text; x num", "case x m size x x", "num", 0, 0},
		{"m ?text", "case x m size x x", "", 5, 4},
		{"m ?text", "case x x 1 2", "", 5, 1},
		{"l [[text]]", "map x l map x x size x", "[[num]]", 0, 0},
		{"l [text]", "map x x 1", "", 5, 1},
		{"l [text]", "join map x l 1 one x", "", 5, 5},
		{"l [flag]", "keep x l x", "[flag]", 0, 0},
		{"l [flag]", "keep x x yes", "", 5, 1},
		{"l [flag]", "and size keep x l x x", "", 6, 1},
		{"l [text]", "fold s x l 0 add s size x", "num", 0, 0},
		{"l [text]", "fold s x l 0 add size x s", "num", 0, 0},
		{"l [text]", "fold x s l 0 add x size s", "num", 0, 0},
		{"l [text]", "fold s x l 0 add size s x", "", 6, 5},
		{"l [text]", "fold s x l s 0", "", 5, 2},
		{"l [text]", "fold s x l x 0", "", 5, 2},
		{"l [text]", "fold s x s 0 0", "", 5, 1},
		{"l [text]", "fold s x x 0 0", "", 5, 1},
		{"l [text]; s num; x text", "fold s x l s add s size x", "num", 0, 0},
		{"l [text]; s text; x num", "fold s x l x add s size x", "num", 0, 0},
		{"l [num]", "fold l x l 0 add l x", "num", 0, 0},
		{"l [num]", "fold s l l 0 add s l", "num", 0, 0},
		{"l [num]; s flag", "fold s x l 0 let s s let x s x", "num", 0, 0},
		{"l [num]", "add fold s x l 0 s s", "", 5, 5},
		{"l [num]", "add fold s x l 0 s x", "", 5, 5},
		{"l [num]", "let l size l l", "num", 0, 0},
	} {
		wantValue(t, row.vars, row.text, row.kind, row.code, row.at)
	}
	for _, row := range []struct {
		text     string
		code, at int
	}{
		{"take x x drop", 5, 1},
		{"take x 1 take y x emit form n y end", 0, 0},
		{"both take x 1 drop take y x drop", 5, 5},
		{"choose yes take x 1 drop take y x drop", 5, 6},
		{"take x 1 choose same x x drop take x \"q\" emit form n size x end", 0, 0},
		{"take x \"q\" take x 1 emit form n x end", 0, 0},
		{"take x \"q\" both take x 1 emit form n x end emit form n size x end", 0, 0},
		{"each x x drop", 5, 1},
		{"each x get l old emit form n x end", 0, 0},
		{"each old get l old emit form n old end", 0, 0},
		{"each x one \"q\" emit form n x end", 6, 4},
		{"both each x get l old drop emit form n x end", 5, 7},
	} {
		wantText(t, row.text, row.code, row.at)
	}
}

// valuesOfKinds are values of several schemas, without names, one node each but for the form.
var valuesOfKinds = []string{"1", `"q"`, "yes", "empty num", "empty text", "empty [num]", "none num", "none text", "none ?num", "form end", "form a 1 end"}

// P21: each op with each row of kids that are of some schemas; what is not what it must be is told at its place.
func TestCheckEachRowOfKids(t *testing.T) {
	values := make([]node, len(valuesOfKinds))
	for i, s := range valuesOfKinds {
		values[i] = readValue(t, s)
	}
	faults := map[[2]int]int{}
	fine := map[int]int{}
	for op := 7; op <= 35; op++ {
		parts := strings.Fields(opTable[op])
		kids := 0
		n := node{Op: op}
		for _, part := range parts {
			switch part {
			case "V":
				kids++
			case "X", "N":
				n.Names = append(n.Names, string(rune('a'+len(n.Names))))
			}
		}
		rows := 1
		for range kids {
			rows *= len(values)
		}
		for row := range rows {
			n.Kids = nil
			for range kids {
				n.Kids = append(n.Kids, values[row%len(values)])
				row /= len(values)
			}
			k, f := impl.LiftKind(nil, n)
			told, toldFault := toldKind(nil, n)
			if f != toldFault || f.Code == 0 && textOf(k) != told || f.Code != 0 && !sameKind(k, kind{}) {
				t.Fatalf("op %d of %v: %v %v, but the tests tell %q %v", op, n.Kids, k, f, told, toldFault)
			}
			wantFaultThere(t, f, n)
			fine[op] += 1 - min(f.Code, 1)
			for i, at := 0, 1; i < len(n.Kids); i++ {
				if f == (fault{Code: 6, At: at}) {
					faults[[2]int{op, i}]++
				}
				at += nodesOf(n.Kids[i])
			}
		}
	}
	for op := 7; op <= 35; op++ {
		if fine[op] == 0 {
			t.Errorf("no row of kids is fine for the op %d", op)
		}
		wants, _, _ := strings.Cut(kidTable[op], ">")
		for i, word := range strings.Fields(wants) {
			if (faults[[2]int{op, i}] > 0) != (word != "any") {
				t.Errorf("op %d: the kid %d is wrong %d times", op, i, faults[[2]int{op, i}])
			}
		}
	}
}

// P21: the first, second and third kid of each row of the table that is not what it must be, told one by one.
func TestCheckWrongKids(t *testing.T) {
	for _, row := range []struct {
		text string
		at   int
	}{
		{"add t n", 1}, {"add n t", 2}, {"add add 1 2 f", 4}, {"sub m 1", 1}, {"sub 1 m", 2}, {"mul o 1", 1}, {"mul 1 o", 2},
		{"div l 1", 1}, {"div 1 l", 2}, {"rem f 1", 1}, {"rem 1 f", 2}, {"rem add 1 1 f", 4},
		{"less f f", 1}, {"less o o", 1}, {"less l l", 1}, {"less m m", 1}, {"less n t", 2}, {"less t n", 2}, {"less size t t", 3},
		{"same n t", 2}, {"same l lt", 2}, {"same m mt", 2}, {"same m n", 2}, {"same o cut a o", 2}, {"same get a o t", 3}, {"same e z", 2},
		{"and n f", 1}, {"and f n", 2}, {"and not f n", 3}, {"or t f", 1}, {"or f t", 2}, {"not n", 1}, {"not m", 1},
		{"if n 1 2", 1}, {"if f 1 t", 3}, {"if not f size t t", 5}, {"if f m n", 3}, {"if f n m", 3}, {"if f l lt", 3},
		{"get a n", 1}, {"get a l", 1}, {"get a some o", 1}, {"get q lo", 1}, {"put a n n", 1}, {"put a m o", 1}, {"put a one o 1", 1}, {"cut a n", 1}, {"cut a one o", 1},
		{"at t 0", 1}, {"at o 0", 1}, {"at l t", 2}, {"at l l", 2}, {"at one m m", 3}, {"at m 0", 1},
		{"size n", 1}, {"size o", 1}, {"size m", 1}, {"size f", 1},
		{"join n n", 1}, {"join o o", 1}, {"join m m", 1}, {"join l t", 2}, {"join t l", 2}, {"join l lt", 2}, {"join one n lt", 3}, {"join l n", 2},
		{"part n 0 1", 1}, {"part o 0 1", 1}, {"part l t 1", 2}, {"part l 0 t", 3}, {"part t f 1", 2}, {"part t 0 f", 3}, {"part one 1 0 m", 4},
		{"show t", 1}, {"show m", 1}, {"read n", 1}, {"read mt", 1},
		{"else n n", 1}, {"else l n", 1}, {"else m m", 2}, {"else m t", 2}, {"else mt n", 2}, {"else some m n", 3}, {"else read t t", 3},
		{"case x n 1 2", 1}, {"case x l 1 2", 1}, {"case x m x t", 3}, {"case x some t 1 t", 4}, {"case x mt x n", 3},
		{"map x t 1", 1}, {"map x m 1", 1}, {"map x o 1", 1}, {"keep x t yes", 1}, {"keep x m yes", 1}, {"keep x l x", 2}, {"keep x one n some f", 3},
		{"fold s x t 0 0", 1}, {"fold s x m 0 0", 1}, {"fold s x l 0 t", 3}, {"fold s x lt 0 x", 3}, {"fold s x l t x", 3}, {"fold s x one 1 t one s", 4},
	} {
		wantValue(t, someVars, row.text, "", 6, row.at)
	}
	for _, row := range []struct {
		text string
		at   int
	}{
		{"emit old", 1}, {"emit 1", 1}, {"emit form end", 1}, {"emit form n \"q\" end", 1}, {"emit form n 1 o 2 end", 1}, {"emit form m 1 end", 1},
		{"emit one form n 1 end", 1}, {"emit some form n 1 end", 1}, {"emit form n some 1 end", 1},
		{"send paid 2 old", 1}, {"send paid 2 form n 1 end", 1}, {"send paid 12 form end", 1}, {"send paid 12 form t 1 end", 1},
		{"choose 1 drop drop", 1}, {"choose some yes drop drop", 1}, {"choose old drop drop", 1},
		{"each x old drop", 1}, {"each x 1 drop", 1}, {"each x \"q\" drop", 1}, {"each x get m old drop", 1},
		{"both drop emit old", 3}, {"both emit old drop", 2}, {"choose yes drop emit old", 4}, {"choose yes emit old drop", 3},
		{"take x old emit x", 3}, {"each x get l old emit old", 4},
	} {
		wantText(t, row.text, 6, row.at)
	}
}

// P21: a field that a form has not is told at the node that asks for it.
func TestCheckFields(t *testing.T) {
	for _, row := range []struct {
		text string
		at   int
	}{
		{"get z o", 0}, {"get a e", 0}, {"get aa o", 0}, {"get c o", 0}, {"cut z o", 0}, {"cut a e", 0}, {"cut only cut only z", 0},
		{"add 1 get z o", 2}, {"get a cut a o", 0}, {"get a get b put b o form b 1 end", 0}, {"size get a form b l end", 1},
		{"map x lo get b x", 2}, {"form a get z o b get y o end", 1}, {"get end o", 0}, {"cut b cut a form a 1 end", 0},
	} {
		wantValue(t, someVars, row.text, "", 8, row.at)
	}
	wantValue(t, someVars, "get a put a cut a o t", "text", 0, 0)
	wantValue(t, someVars, "get c put c o t", "text", 0, 0)
	wantValue(t, someVars, "get end put end o t", "text", 0, 0)
	wantText(t, "emit form n get z old end", 8, 2)
	wantText(t, "emit cut z old", 8, 1)
	// All fields of a form, and the names right beside them.
	fields := []string{"a", "ab", "b", "b0", "b9", "c", "zzzzzzzz"}
	form := "form " + strings.Join(fields, " 1 ") + " 1 end"
	for _, name := range []string{"a", "a0", "aa", "ab", "abc", "az", "b", "b0", "b00", "b1", "b9", "ba", "c", "cc", "z", "zzzzzzz", "zzzzzzzz"} {
		if slices.Contains(fields, name) {
			wantValue(t, "", "get "+name+" "+form, "num", 0, 0)
			rest := slices.DeleteFunc(slices.Clone(fields), func(f string) bool { return f == name })
			wantValue(t, "", "cut "+name+" "+form, "{"+strings.Join(rest, ":num,")+":num}", 0, 0)
			wantValue(t, "", "put "+name+" "+form+" yes", flagged(fields, name), 0, 0)
		} else {
			wantValue(t, "", "get "+name+" "+form, "", 8, 0)
			wantValue(t, "", "cut "+name+" "+form, "", 8, 0)
			all := append(slices.Clone(fields), name)
			slices.Sort(all)
			wantValue(t, "", "put "+name+" "+form+" yes", flagged(all, name), 0, 0)
		}
	}
}

// flagged is the text of a form's schema of numbers, but for one name.
func flagged(names []string, flag string) string {
	fields := map[string]string{}
	for _, name := range names {
		fields[name] = "num"
	}
	fields[flag] = "flag"
	return formText(fields)
}

// formOf is the text of a form's schema with so many numbers, and of a value of it.
func formOf(n int) (k, value string) {
	var kinds, values []string
	for i := range n {
		kinds = append(kinds, fmt.Sprintf("n%02d:num", i))
		values = append(values, fmt.Sprintf("n%02d 1 ", i))
	}
	return "{" + strings.Join(kinds, ",") + "}", "form " + strings.Join(values, "") + "end"
}

// P21: a schema that is ok, and one part or one level more.
func TestCheckBigKinds(t *testing.T) {
	full, value := formOf(39)
	_, more := formOf(40)
	less, _ := formOf(38)
	vars := "w " + full + "; v " + less + "; d [[[[[num]]]]]; c [[[[num]]]]; b {a:{a:{a:{a:{a:num}}}}}; a {a:{a:{a:{a:num}}}}; x num"
	wantValue(t, vars, value, full, 0, 0)
	wantValue(t, vars, more, "", 7, 0)
	wantValue(t, vars, "size one "+more, "", 7, 2)
	for _, row := range []struct {
		text, kind string
		at         int
	}{
		{"some v", "?" + less, 0}, {"some w", "", 0}, {"one v", "[" + less + "]", 0}, {"one w", "", 0},
		{"some c", "?[[[[num]]]]", 0}, {"some d", "", 0}, {"one c", "[[[[[num]]]]]", 0}, {"one d", "", 0},
		{"some a", "?{a:{a:{a:{a:num}}}}", 0}, {"some b", "", 0}, {"one a", "[{a:{a:{a:{a:num}}}}]", 0}, {"one b", "", 0},
		{"form a a end", "{a:{a:{a:{a:{a:num}}}}}", 0}, {"form a b end", "", 0}, {"form a c end", "{a:[[[[num]]]]}", 0}, {"form a x b d end", "", 0},
		{"form a v end", "{a:" + less + "}", 0}, {"form a w end", "", 0}, {"form a v b 1 end", "", 0},
		{"put n38 v x", full, 0}, {"put zz w x", "", 0}, {"put a w x", "", 0}, {"put n00 w x", full, 0},
		{"put n00 w one x", "", 0}, {"put n00 v one x", "{n00:[num]" + less[8:], 0}, {"put n00 v one one x", "", 0},
		{"put q form end c", "{q:[[[[num]]]]}", 0}, {"put q form end d", "", 0}, {"put q form q 1 end d", "", 0},
		{"map i c 1", "[num]", 0}, {"map i c i", "[[[[num]]]]", 0}, {"map i one x c", "[[[[[num]]]]]", 0}, {"map i one x d", "", 0},
		{"map i one x v", "[" + less + "]", 0}, {"map i one x w", "", 0}, {"map i d i", "[[[[[num]]]]]", 0},
		{"none [[[[num]]]]", "?[[[[num]]]]", 0}, {"none [[[[[num]]]]]", "", 0}, {"empty [[[[num]]]]", "[[[[[num]]]]]", 0}, {"empty [[[[[num]]]]]", "", 0},
		{"none " + less, "?" + less, 0}, {"none " + full, "", 0}, {"empty " + less, "[" + less + "]", 0}, {"empty " + full, "", 0},
		{`some some some some read "1"`, "??????"[:5] + "num", 0}, {`some some some some some read "1"`, "", 0},
		{`one one one one read "1"`, "[[[[?num]]]]", 0}, {`one one one one one read "1"`, "", 0},
		{"if yes one d one d", "", 2}, {"let y one d x", "", 1}, {"let y d one y", "", 2}, {"let y d y", "[[[[[num]]]]]", 0}, {"size one d", "", 1},
		{"add 1 size one d", "", 3}, {"at one w 0", "", 1}, {"at d 0", "[[[[num]]]]", 0}, {"join d d", "[[[[[num]]]]]", 0},
		{"form a one d b y end", "", 1}, {"put a put zz w x y", "", 1}, {"cut n00 w", "{" + full[9:], 0}, {"cut zz put zz w x", "", 1},
		{"keep i d yes", "[[[[[num]]]]]", 0}, {"fold s i d d s", "[[[[[num]]]]]", 0}, {"case i some 1 d d", "[[[[[num]]]]]", 0}, {"else some c c", "[[[[num]]]]", 0},
	} {
		switch {
		case row.kind != "":
			wantValue(t, vars, row.text, row.kind, 0, 0)
		default:
			wantValue(t, vars, row.text, "", 7, row.at)
		}
	}
	wantText(t, "take x one one one one one one 1 drop", 7, 1)
	wantText(t, "take x one one one one one 1 drop", 0, 0)
	// As many fields as a node can have.
	wantValue(t, "", impl.LiftWrite(nEmit(nFields(198, nNum(1))))[5:], "", 7, 0)
}

// P21: the first fault as one looks at it.
func TestCheckFirstFault(t *testing.T) {
	for _, row := range []struct {
		text     string
		code, at int
	}{
		// Within an earlier kid, and within a later one.
		{"add q r", 5, 1}, {"add add q 1 r", 5, 2}, {"add get z o q", 8, 1}, {"add add t 1 q", 6, 2}, {"add size one one one one one one 1 q", 7, 2},
		{"if q r s", 5, 1}, {"if f q r", 5, 2}, {"if f 1 r", 5, 3}, {"form a q b get z o end", 5, 1}, {"form a get z o b q end", 8, 1}, {"fold s x q r t", 5, 1}, {"fold s x l r q", 5, 2}, {"fold s x l 0 q", 5, 3},
		// A kid that is wrong ahead of a later one with a fault in it, and the other way.
		{"add t q", 6, 1}, {"add n q", 5, 2}, {"add q t", 5, 1}, {"less f q", 6, 1}, {"if n q r", 6, 1}, {"if f t q", 5, 3}, {"at t q", 6, 1}, {"part n q r", 6, 1}, {"part l t r", 6, 2},
		{"else n q", 6, 1}, {"case x n q r", 6, 1}, {"map x t q", 6, 1}, {"keep x t q", 6, 1}, {"fold s x t q r", 6, 1}, {"put a n q", 6, 1}, {"join n q", 6, 1}, {"same n q", 5, 2}, {"and n q", 6, 1},
		{"put a o q", 5, 2}, {"put a q r", 5, 1}, {"case x q r s", 5, 1}, {"case x m q s", 5, 2}, {"case x m 1 s", 5, 3}, {"case x m 1 t", 6, 3},
		// What a kid must be is looked at behind it, ahead of what its node is.
		{"get z n", 6, 1}, {"get z q", 5, 1}, {"get z get y o", 8, 1}, {"cut z t", 6, 1}, {"some get z o", 8, 1}, {"one one q", 5, 2},
		{"some one one one one one one 1", 7, 1}, {"one some one one one one q", 5, 6},
	} {
		wantValue(t, someVars, row.text, "", row.code, row.at)
	}
	for _, row := range []struct {
		text     string
		code, at int
	}{
		// A sink is looked for ahead of the kid.
		{"send paid 1 q", 5, 0}, {"send paid 3 old", 5, 0}, {"send other 2 form end", 5, 0}, {"both send paid 1 get z old emit q", 5, 1},
		{"send paid 2 q", 5, 1}, {"send paid 2 get z old", 8, 1}, {"emit q", 5, 1}, {"emit get z old", 8, 1}, {"both emit q send paid 1 old", 5, 2}, {"both emit old send paid 1 old", 6, 2},
		// Actions in their order.
		{"both emit old emit q", 6, 2}, {"both emit q emit old", 5, 2}, {"choose q emit old emit old", 5, 1}, {"choose 1 emit q drop", 6, 1}, {"choose yes emit old emit q", 6, 3},
		{"choose yes drop emit q", 5, 4}, {"take x q emit old", 5, 1}, {"take x 1 emit q", 5, 3}, {"each x 1 emit q", 6, 1}, {"each x q emit q", 5, 1}, {"each x get l old emit q", 5, 4},
		{"both both drop emit old emit q", 6, 4},
	} {
		wantText(t, row.text, row.code, row.at)
	}
	// Without any sink of the next version.
	for _, s := range []string{"", "paid@2 {}", "paid@1 {n:num}"} {
		wantCheck(t, someFrom, s, readLift(t, "emit q"), 5, 0)
		wantCheck(t, someFrom, s, readLift(t, "emit form n 1 end"), 5, 0)
		wantCheck(t, someFrom, s, readLift(t, "take x q emit q"), 5, 1)
		wantCheck(t, someFrom, s, readLift(t, "both drop emit old"), 5, 2)
		wantCheck(t, someFrom, s, readLift(t, "drop"), 0, 0)
	}
}

// P21: the first sink of a name and a version counts.
func TestCheckSinks(t *testing.T) {
	emit, send := readLift(t, "emit form n 1 end"), readLift(t, "send paid 2 form n 1 end")
	for _, row := range []struct {
		sinks      string
		emit, send [2]int
	}{
		{"@0 {n:num}; @0 {}", [2]int{0, 0}, [2]int{5, 0}},
		{"@0 {}; @0 {n:num}", [2]int{6, 1}, [2]int{5, 0}},
		{"paid@2 {n:num}; paid@2 {}; @0 {n:num}", [2]int{0, 0}, [2]int{0, 0}},
		{"paid@2 {}; paid@2 {n:num}; @0 {n:num}", [2]int{0, 0}, [2]int{6, 1}},
		{"paid@1 {}; paid@2 {n:num}; paid@3 {}", [2]int{5, 0}, [2]int{0, 0}},
		{"paie@2 {n:num}; pai@2 {n:num}; paidd@2 {n:num}", [2]int{5, 0}, [2]int{5, 0}},
		{"paid@1 {n:num}; paid@12 {n:num}", [2]int{5, 0}, [2]int{5, 0}},
		{"other@1 {}; @0 {n:num}; paid@2 {n:num}; other@2 {n:text}", [2]int{0, 0}, [2]int{0, 0}},
		{"@0 {n:?num}; paid@2 {m:?num,n:num}", [2]int{6, 1}, [2]int{6, 1}},
	} {
		wantCheck(t, someFrom, row.sinks, emit, row.emit[0], row.emit[1])
		wantCheck(t, someFrom, row.sinks, send, row.send[0], row.send[1])
	}
	for version := 1; version <= 12; version++ {
		n := readLift(t, fmt.Sprintf("send t %d form end", version))
		wantCheck(t, "{}", fmt.Sprintf("t@%d {}", version), n, 0, 0)
		wantCheck(t, "{}", fmt.Sprintf("t@%d {}", version%12+1), n, 5, 0)
	}
}

// Nodes that are no value, or no action, that is ok.
func TestCheckNotOk(t *testing.T) {
	from, none := kForm(""), []liftSink{}
	bad := map[string]node{
		"nothing":                {},
		"no op":                  {Op: 44},
		"below":                  {Op: -1},
		"more than it has":       {Op: impl.LiftNum, Text: "q"},
		"no kid":                 {Op: impl.LiftSome},
		"a kid too many":         nOp(impl.LiftSome, "", nNum(1), nNum(2)),
		"a bad kid":              nOp(impl.LiftSome, "", node{}),
		"an action inside":       nOp(impl.LiftSome, "", nDrop()),
		"a value as an action":   nBoth(nDrop(), nNum(1)),
		"a name too few":         nOp(impl.LiftLet, "", nNum(1), nNum(1)),
		"a word as a name":       nOp(impl.LiftLet, "add", nNum(1), nNum(1)),
		"fold with one name":     nOp(impl.LiftFold, "a a", nName("l"), nNum(1), nNum(1)),
		"a form's names":         nOp(impl.LiftForm, "b a", nNum(1), nNum(1)),
		"no schema":              {Op: impl.LiftNone, Text: "nun"},
		"a number too great":     nNum(impl.TreeMaxNum + 1),
		"no version":             {Op: impl.LiftSend, Names: []string{"t"}, Kids: []node{nOp(impl.LiftForm, "")}},
		"too many nodes":         nEmit(nFields(199, nNum(1))),
		"too many of a value":    nFields(200, nNum(1)),
		"too many levels":        nEmit(nWithin(nNum(1), impl.LiftSome, 23)),
		"too many of values":     nWithin(nNum(1), impl.LiftSome, 24),
		"too many bytes":         longLift(3001),
		"too many of a value's":  longLift(3006).Kids[0],
		"a bad action":           {Op: impl.LiftFail, Num: 100},
		"a bad action somewhere": nBoth(nDrop(), node{Op: impl.LiftFail, Num: -1}),
	}
	for what, n := range bad {
		if okAs(n, "V") || okAs(n, "A") {
			t.Errorf("%s is ok", what)
		}
		wantBad(t, what, n, true, true)
		wantCost(t, n, 0, 0)
	}
	for _, row := range eachOp() {
		value := row.node
		if value.Op == impl.LiftEmit {
			value = value.Kids[0]
		}
		isValue := value.Op <= impl.LiftFold
		wantBad(t, row.text, value, !isValue, isValue)
		if isValue {
			wantCost(t, value, impl.LiftCost(value), 0)
			if impl.LiftFan(value) != 0 || impl.LiftCost(value) == 0 {
				t.Errorf("%s: the value fans %d and costs %d", row.text, impl.LiftFan(value), impl.LiftCost(value))
			}
		}
	}
	// Values and actions that meet the bounds.
	for _, n := range []node{nFields(199, nNum(1)), nWithin(nNum(1), impl.LiftSome, 23), longLift(3000).Kids[0], longLift(3005).Kids[0]} {
		if _, f := impl.LiftKind(nil, n); f.Code == impl.LiftBadWord || impl.LiftCost(n) == 0 {
			t.Errorf("%s: %v", short(n), f)
		}
	}
	for _, n := range []node{nEmit(nFields(198, nNum(1))), nEmit(nWithin(nNum(1), impl.LiftSome, 22)), longLift(3000)} {
		if f := impl.LiftCheck(from, none, n); f.Code == impl.LiftBadWord || impl.LiftCost(n) == 0 || impl.LiftFan(n) == 0 {
			t.Errorf("%s: %v", short(n), f)
		}
	}
}

// wantBad: a node is no value, no action, or neither of them, and that is told ahead of all else.
func wantBad(t *testing.T, what string, n node, asValue, asAction bool) {
	t.Helper()
	if k, f := impl.LiftKind([]liftVar{{}}, n); asValue != (f == fault{Code: 2}) || !sameKind(k, kind{}) {
		t.Errorf("%s, with a bad name: %v %v", what, k, f)
	}
	if k, f := impl.LiftKind(nil, n); asValue != (f.Code == 2) || asValue && !sameKind(k, kind{}) {
		t.Errorf("%s: %v %v", what, k, f)
	}
	if f := impl.LiftCheck(kNum, []liftSink{{Name: "A"}}, n); asAction != (f == fault{Code: 2}) {
		t.Errorf("%s, with bad sinks: %v", what, f)
	}
	if f := impl.LiftCheck(kForm(""), nil, n); asAction != (f.Code == 2) {
		t.Errorf("%s: %v", what, f)
	}
	if asAction && impl.LiftFan(n) != 0 || asAction && asValue && impl.LiftCost(n) != 0 {
		t.Errorf("%s: costs %d and fans %d", what, impl.LiftCost(n), impl.LiftFan(n))
	}
}

// Names, schemas and sinks that are not ok.
func TestCheckBadArguments(t *testing.T) {
	wrong := fault{Code: impl.LiftWrong}
	values := []node{nNum(1), nName("unbound"), nOp(impl.LiftNot, "", nNum(1)), nWithin(nNum(1), impl.LiftSome, 9)}
	notNames := []string{"", "A", "1a", "a b", "a-", "ninebytes", "é", "a\x00", " a", "a_b"}
	for _, n := range values {
		for _, name := range notNames {
			for _, vars := range [][]liftVar{{aVar(name, kNum)}, {aVar("a", kNum), aVar(name, kNum)}, {aVar(name, kNum), aVar("a", kNum)}} {
				if k, f := impl.LiftKind(vars, n); f != wrong || !sameKind(k, kind{}) {
					t.Errorf("%q: %v %v", name, k, f)
				}
			}
		}
		for what, k := range badKinds() {
			for _, vars := range [][]liftVar{{aVar("a", k)}, {aVar("a", kNum), aVar("a", k)}, {aVar("a", k), aVar("a", kNum)}} {
				if k, f := impl.LiftKind(vars, n); f != wrong || !sameKind(k, kind{}) {
					t.Errorf("%s: %v %v", what, k, f)
				}
			}
		}
	}
	for _, name := range []string{"a", "abcdefgh", "a1234567", "add", "end", "yes", "no", "drop"} {
		if k, f := impl.LiftKind([]liftVar{aVar(name, kText)}, nNum(1)); f != (fault{}) || !sameKind(k, kNum) {
			t.Errorf("%q is a name: %v %v", name, k, f)
		}
	}
	actions := []node{nDrop(), nEmit(nName("unbound")), nEmit(nNum(1)), costly(t, 40001), readLift(t, "each x get l old each y get l old each z get l old emit old")}
	good, bare := liftSink{Kind: kForm("")}, kForm("")
	for _, n := range actions {
		froms := badKinds()
		for i, k := range []kind{kNum, kText, kFlag, kList(bare), kMaybe(bare)} {
			froms[fmt.Sprint("no form ", i)] = k
		}
		for what, k := range froms {
			if f := impl.LiftCheck(k, nil, n); f != wrong {
				t.Errorf("from is %s: %v", what, f)
			}
			for _, sinks := range [][]liftSink{{{Kind: k}}, {{Name: "t", Version: 1, Kind: k}}, {good, {Kind: k}}, {{Kind: k}, good}} {
				if f := impl.LiftCheck(bare, sinks, n); f != wrong {
					t.Errorf("a sink is %s: %v", what, f)
				}
			}
		}
		for _, name := range notNames {
			for _, version := range []int{-1, 0, 1, 12, 13} {
				if name == "" && version == 0 {
					continue
				}
				for _, sinks := range [][]liftSink{{aSink(name, version, bare)}, {good, aSink(name, version, bare)}, {aSink(name, version, bare), good}} {
					if f := impl.LiftCheck(bare, sinks, n); f != wrong {
						t.Errorf("a sink %q of %d: %v", name, version, f)
					}
				}
			}
		}
		for _, version := range []int{-1 << 62, -1, 0, 13, 256, 257, 1 << 62} {
			if f := impl.LiftCheck(bare, []liftSink{aSink("t", version, bare)}, n); f != wrong {
				t.Errorf("a sink of %d: %v", version, f)
			}
		}
	}
	for _, name := range []string{"a", "abcdefgh", "add", "end", "yes"} {
		for _, version := range []int{1, 12} {
			if f := impl.LiftCheck(bare, []liftSink{aSink(name, version, bare)}, nDrop()); f != (fault{}) {
				t.Errorf("a sink %q of %d: %v", name, version, f)
			}
		}
	}
}

// padded is a node around which so many more are to be done, two at least.
func padded(n node, more int) node {
	if more == 0 {
		return n
	}
	op := impl.LiftLet
	if n.Op >= impl.LiftDrop {
		op = impl.LiftTake
	}
	return nOp(op, "pad", nFields(more-2, nNum(1)), n)
}

// loopsOf are three loops of one op, one within another, in an action: so many nodes are added outside, and within one, two and three loops.
func loopsOf(t *testing.T, op int, pads [4]int) node {
	list := readValue(t, "get l old")
	less := func(n node) node { return nOp(impl.LiftLess, "", nNum(0), nOp(impl.LiftSize, "", n)) }
	inner := map[int]node{impl.LiftEach: nDrop(), impl.LiftMap: nNum(1), impl.LiftKeep: nFlag(1), impl.LiftFold: nNum(1)}[op]
	inner = padded(inner, pads[3])
	for i := 2; i >= 0; i-- {
		switch op {
		case impl.LiftFold:
			inner = nOp(op, "s x", list, nNum(0), inner)
		case impl.LiftKeep:
			inner = less(nOp(op, "x", list, inner))
		default:
			inner = nOp(op, "x", list, inner)
		}
		inner = padded(inner, pads[i])
	}
	if op != impl.LiftEach {
		inner = nOp(impl.LiftTake, "value", inner, nDrop())
	}
	return inner
}

// costing is an action with loops of an op that costs just so much.
func costing(t *testing.T, op int, cost int) node {
	t.Helper()
	var pads [4]int
	rest := cost - int(toldCost(loopsOf(t, op, pads)).Int64())
	for i, times := 3, 8000; i >= 0; i, times = i-1, times/20 {
		pads[i] = min(rest/times, 40)
		if pads[i] == 1 {
			pads[i] = 0
		}
		rest -= pads[i] * times
	}
	n := loopsOf(t, op, pads)
	if rest != 0 || toldCost(n).Int64() != int64(cost) || !okAs(n, "A") {
		t.Fatalf("no loops of the op %d cost %d: %v, %d are left", op, cost, pads, rest)
	}
	return n
}

func costly(t *testing.T, cost int) node {
	return costing(t, impl.LiftEach, cost)
}

// P21: a cost of just LiftMaxCost, and one more.
func TestCheckCost(t *testing.T) {
	for _, op := range []int{impl.LiftMap, impl.LiftKeep, impl.LiftFold, impl.LiftEach} {
		for _, cost := range []int{39998, 39999, 40000} {
			n := costing(t, op, cost)
			wantCost(t, n, cost, 0)
			wantCheck(t, someFrom, someSinks, n, 0, 0)
		}
		for _, cost := range []int{40001, 40002, 40003, 41000, 60000, 79999} {
			n := costing(t, op, cost)
			wantCost(t, n, 40001, 0)
			wantCheck(t, someFrom, someSinks, n, impl.LiftCostly, 0)
			wantCost(t, nBoth(nDrop(), n), 40001, 0)
		}
		// What is around a value counts too.
		if op != impl.LiftEach {
			n := costing(t, op, 40000).Kids[0]
			wantCost(t, n, 39998, 0)
			wantCost(t, nOp(impl.LiftNot, "", nOp(impl.LiftNot, "", n)), 40000, 0)
			wantCost(t, nWithin(n, impl.LiftNot, 3), 40001, 0)
			wantCost(t, nWithin(n, impl.LiftNot, 4), 40001, 0)
		}
	}
	// Which kid counts how often.
	ten := nFields(9, nNum(1))
	tenDone := nOp(impl.LiftTake, "y", nFields(7, nNum(1)), nDrop())
	for _, op := range []int{impl.LiftMap, impl.LiftKeep} {
		wantCost(t, nOp(op, "x", ten, nNum(1)), 1+10+20, 0)
		wantCost(t, nOp(op, "x", nNum(1), ten), 1+1+200, 0)
	}
	wantCost(t, nOp(impl.LiftEach, "x", ten, nDrop()), 1+10+20, 0)
	wantCost(t, nOp(impl.LiftEach, "x", nNum(1), tenDone), 1+1+200, 0)
	wantCost(t, nOp(impl.LiftTake, "x", ten, tenDone), 21, 0)
	wantCost(t, nOp(impl.LiftLet, "x", ten, ten), 21, 0)
	wantCost(t, nOp(impl.LiftFold, "s x", ten, nNum(1), nNum(1)), 1+10+1+20, 0)
	wantCost(t, nOp(impl.LiftFold, "s x", nNum(1), ten, nNum(1)), 1+1+10+20, 0)
	wantCost(t, nOp(impl.LiftFold, "s x", nNum(1), nNum(1), ten), 1+1+1+200, 0)
	wantCost(t, nOp(impl.LiftCase, "x", ten, ten, ten), 31, 0)
	wantCost(t, nOp(impl.LiftIf, "", ten, ten, ten), 31, 0)
	wantCost(t, nOp(impl.LiftPart, "", ten, ten, ten), 31, 0)
	wantCost(t, nOp(impl.LiftChoose, "", ten, nDrop(), nDrop()), 13, 0)
}

// nested is so many nodes of an op, each the kid of the one around it that counts most.
func nested(op, levels int, inner node) node {
	for range levels {
		switch op {
		case impl.LiftFold:
			inner = nOp(op, "s x", nName("l"), nNum(0), inner)
		default:
			inner = nOp(op, "x", nName("l"), inner)
		}
	}
	return inner
}

// P21: costs and fans whose plain products pass the greatest int.
func TestCheckFarBeyondBounds(t *testing.T) {
	for levels := 1; levels <= 23; levels++ {
		for _, op := range []int{impl.LiftMap, impl.LiftKeep, impl.LiftFold} {
			n := nested(op, levels, nNum(1))
			wantCost(t, n, atMost(toldCost(n), 40000), 0)
			if (impl.LiftCost(n) == 40001) != (levels > 3) {
				t.Errorf("%d levels cost %d", levels, impl.LiftCost(n))
			}
		}
		n := nested(impl.LiftEach, levels, nDrop())
		wantCost(t, n, atMost(toldCost(n), 40000), 0)
		if levels < 23 {
			n = nested(impl.LiftEach, levels, nEmit(nName("x")))
			wantCost(t, n, atMost(toldCost(n), 40000), atMost(toldFan(n), 400))
			if (impl.LiftFan(n) == 401) != (levels > 2) {
				t.Errorf("%d levels fan %d", levels, impl.LiftFan(n))
			}
		}
	}
	// Both of two that are beyond.
	for levels := 1; levels <= 21; levels++ {
		n := nested(impl.LiftEach, levels, nEmit(nName("x")))
		wantCost(t, nBoth(n, n), atMost(toldCost(nBoth(n, n)), 40000), atMost(toldFan(nBoth(n, n)), 400))
	}
	// In the list that is gone through, nothing counts more than once.
	n := nNum(1)
	for range 23 {
		n = nOp(impl.LiftMap, "x", n, nNum(1))
	}
	wantCost(t, n, 1+23*21, 0)
}

// P21: a fan of just LiftMaxFan, and one more.
func TestCheckFan(t *testing.T) {
	one := readLift(t, "emit form n 1 end")
	sent := readLift(t, "send paid 2 form end")
	each := func(n node) node { return nOp(impl.LiftEach, "x", readValue(t, "get l old"), n) }
	choose := func(a, b node) node { return nOp(impl.LiftChoose, "", nFlag(1), a, b) }
	take := func(n node) node { return nOp(impl.LiftTake, "x", nNum(1), n) }
	few := nBoth(one, sent)
	for _, row := range []struct {
		n   node
		fan int
	}{
		{one, 1}, {sent, 1}, {nDrop(), 0}, {node{Op: impl.LiftFail}, 0}, {few, 2}, {choose(few, one), 2}, {choose(one, few), 2}, {choose(nDrop(), one), 1}, {take(few), 2},
		{each(nDrop()), 0}, {each(one), 20}, {each(few), 40}, {each(each(sent)), 400}, {nBoth(each(each(one)), nDrop()), 400}, {nBoth(nDrop(), each(each(one))), 400},
		{choose(each(each(one)), each(one)), 400}, {choose(each(one), each(each(one))), 400}, {take(each(take(each(one)))), 400}, {choose(each(each(one)), each(each(sent))), 400},
		{nBoth(each(each(one)), one), 401}, {nBoth(sent, each(each(one))), 401}, {nBoth(each(each(one)), each(each(one))), 401}, {each(each(few)), 401}, {choose(nDrop(), nBoth(one, each(each(one)))), 401},
		{each(nBoth(each(one), one)), 401}, {each(choose(each(one), nBoth(each(one), one))), 401}, {take(each(each(few))), 401}, {each(each(each(one))), 401}, {each(choose(nDrop(), nBoth(nDrop(), each(one)))), 400},
		{each(nBoth(few, few)), 80}, {nBoth(each(nBoth(few, few)), few), 82},
	} {
		wantCost(t, row.n, atMost(toldCost(row.n), 40000), row.fan)
		code := 0
		if row.fan > 400 {
			code = impl.LiftWide
		}
		wantCheck(t, someFrom, someSinks, row.n, code, 0)
	}
}

// The order in which the document gives what is wrong.
func TestCheckOrder(t *testing.T) {
	wide := "each x get l old each y get l old each z get l old emit form n 1 end"
	both := "each x get l old each y get l old each z get l old each w get l old emit form n 1 end"
	wantText(t, wide, impl.LiftWide, 0)
	wantText(t, both, impl.LiftCostly, 0)
	wantText(t, "each x get l old each y get l old each z get l old each w get l old drop", impl.LiftCostly, 0)
	wantText(t, "both "+wide+" emit q", 5, 14)
	wantText(t, "both "+both+" emit q", 5, 17)
	wantText(t, "both emit old "+both, 6, 2)
	wantText(t, "both take x get z old drop "+both, 8, 2)
	wantText(t, "both take x one one one one one one 1 drop "+both, 7, 2)
	// Ahead of them the arguments, ahead of those the node.
	n := readLift(t, "both emit old "+both)
	if f := impl.LiftCheck(kNum, nil, n); f != (fault{Code: 6}) {
		t.Errorf("from ahead of the first fault: %v", f)
	}
	n.Num = 1
	if f := impl.LiftCheck(kNum, nil, n); f != (fault{Code: 2}) {
		t.Errorf("the node ahead of from: %v", f)
	}
}

// someKinds are the schemas of which values are made by chance.
var chanceKinds = []string{"num", "text", "flag", "[num]", "[text]", "?num", "?text", "{}", "{a:num}", "{a:num,b:text}", "[{a:num}]", "?[num]", "{o:{a:num}}", "[?flag]"}

func chanceKind(r *rand.Rand) string {
	return chanceKinds[r.Intn(len(chanceKinds))]
}

// plainValue is a value of a schema without loops and names.
func plainValue(r *rand.Rand, k string) node {
	switch sortWord(k) {
	case "num":
		return nNum(r.Intn(9))
	case "text":
		return nText(strings.Repeat("q", r.Intn(3)))
	case "flag":
		return nFlag(r.Intn(2))
	case "list":
		return node{Op: impl.LiftEmpty, Text: inside(k)}
	case "maybe":
		return node{Op: impl.LiftNone, Text: inside(k)}
	}
	n := node{Op: impl.LiftForm}
	names, kids := formTexts(k)
	for i, name := range names {
		n.Names, n.Kids = append(n.Names, name), append(n.Kids, plainValue(r, kids[i]))
	}
	return n
}

// valueOf is a value of a schema, by chance.
func valueOf(r *rand.Rand, bound bindings, k string, deep int) node {
	if deep <= 1 || r.Intn(6) == 0 {
		for i := len(bound) - 1; i >= 0; i-- {
			if last, _ := bound.find(bound[i][0]); last == k && r.Intn(2) == 0 {
				return nName(bound[i][0])
			}
		}
		return plainValue(r, k)
	}
	v := func(k string) node { return valueOf(r, bound, k, deep-1) }
	x, y := string(rune('u'+r.Intn(3))), string(rune('x'+r.Intn(3)))
	with := func(name, its, k string) node { return valueOf(r, bound.and(name, its), k, deep-1) }
	if r.Intn(2) == 0 {
		if n, made := valueOfSort(r, v, with, k, x, y); made {
			return n
		}
	}
	other := chanceKind(r)
	switch r.Intn(8) {
	case 0:
		return nOp(impl.LiftIf, "", v("flag"), v(k), v(k))
	case 1:
		return nOp(impl.LiftLet, x, v(other), with(x, other, k))
	case 2:
		name := string(rune('a' + r.Intn(4)))
		fields := map[string]string{"a": "num", "c": "flag"}
		fields[name] = k
		return nOp(impl.LiftGet, name, v(formText(fields)))
	case 3:
		return nOp(impl.LiftAt, "", v("["+k+"]"), v("num"))
	case 4:
		return nOp(impl.LiftElse, "", v("?"+k), v(k))
	case 5:
		return nOp(impl.LiftCase, x, v("?"+other), with(x, other, k), v(k))
	case 6:
		return nOp(impl.LiftFold, x+" "+y, v("["+other+"]"), v(k), valueOf(r, bound.and(x, k).and(y, other), k, deep-1))
	}
	return nOp(impl.LiftLet, y, v(k), with(y, k, k))
}

// valueOfSort is a value whose op is one of the schema's sort.
func valueOfSort(r *rand.Rand, v func(string) node, with func(name, its, k string) node, k, x, y string) (node, bool) {
	other := chanceKind(r)
	switch sortWord(k) {
	case "num":
		if r.Intn(3) == 0 {
			return nOp(impl.LiftSize, "", v([]string{"text", "[" + other + "]"}[r.Intn(2)])), true
		}
		return nOp(impl.LiftAdd+r.Intn(5), "", v(k), v(k)), true
	case "text":
		return []func() node{
			func() node { return nOp(impl.LiftShow, "", v("num")) },
			func() node { return nOp(impl.LiftJoin, "", v(k), v(k)) },
			func() node { return nOp(impl.LiftPart, "", v(k), v("num"), v("num")) },
		}[r.Intn(3)](), true
	case "flag":
		ordered := []string{"num", "text"}[r.Intn(2)]
		return []func() node{
			func() node { return nOp(impl.LiftLess, "", v(ordered), v(ordered)) },
			func() node { return nOp(impl.LiftSame, "", v(other), v(other)) },
			func() node { return nOp(impl.LiftAnd+r.Intn(2), "", v(k), v(k)) },
			func() node { return nOp(impl.LiftNot, "", v(k)) },
		}[r.Intn(4)](), true
	case "list":
		return []func() node{
			func() node { return nOp(impl.LiftOne, "", v(inside(k))) },
			func() node { return nOp(impl.LiftJoin, "", v(k), v(k)) },
			func() node { return nOp(impl.LiftPart, "", v(k), v("num"), v("num")) },
			func() node { return nOp(impl.LiftMap, x, v("["+other+"]"), with(x, other, inside(k))) },
			func() node { return nOp(impl.LiftKeep, x, v(k), with(x, inside(k), "flag")) },
		}[r.Intn(5)](), true
	case "maybe":
		if k == "?num" && r.Intn(2) == 0 {
			return nOp(impl.LiftRead, "", v("text")), true
		}
		return nOp(impl.LiftSome, "", v(inside(k))), true
	}
	fields := fieldMap(k)
	if len(fields) == 0 || r.Intn(3) == 0 {
		fields["cut"] = other
		return nOp(impl.LiftCut, "cut", v(formText(fields))), true
	}
	names, kids := formTexts(k)
	at := r.Intn(len(names))
	if r.Intn(2) == 0 {
		delete(fields, names[at])
	} else {
		fields[names[at]] = other
	}
	return nOp(impl.LiftPut, names[at], v(formText(fields)), v(kids[at])), true
}

// actionOf is an action with sinks, by chance.
func actionOf(r *rand.Rand, bound bindings, sinks [][2]string, deep int) node {
	next := func() node { return actionOf(r, bound, sinks, deep-1) }
	if deep <= 1 || r.Intn(3) == 0 {
		switch r.Intn(5) {
		case 0:
			return nDrop()
		case 1:
			return node{Op: impl.LiftFail, Num: r.Intn(100)}
		}
		sink := sinks[r.Intn(len(sinks))]
		value := valueOf(r, bound, sink[1], deep)
		if sink[0] == "@0" {
			return nEmit(value)
		}
		name, version, _ := strings.Cut(sink[0], "@")
		return node{Op: impl.LiftSend, Num: numOf(version), Names: []string{name}, Kids: []node{value}}
	}
	x, other := string(rune('u'+r.Intn(4))), chanceKind(r)
	switch r.Intn(4) {
	case 0:
		return nBoth(next(), next())
	case 1:
		return nOp(impl.LiftChoose, "", valueOf(r, bound, "flag", deep-1), next(), next())
	case 2:
		return nOp(impl.LiftTake, x, valueOf(r, bound, other, deep-1), actionOf(r, bound.and(x, other), sinks, deep-1))
	}
	return nOp(impl.LiftEach, x, valueOf(r, bound, "["+other+"]", deep-1), actionOf(r, bound.and(x, other), sinks, deep-1))
}

// otherPart puts another value or action in the place of one, or gives a node another name.
func otherPart(r *rand.Rand, n *node) {
	if len(n.Kids) > 0 && r.Intn(4) > 0 {
		otherPart(r, &n.Kids[r.Intn(len(n.Kids))])
		return
	}
	if len(n.Names) > 0 && n.Op != impl.LiftForm && r.Intn(2) == 0 {
		n.Names[r.Intn(len(n.Names))] = string(rune('u' + r.Intn(6)))
		return
	}
	if n.Op >= impl.LiftDrop {
		*n = []node{nDrop(), nEmit(plainValue(r, chanceKind(r))), {Op: impl.LiftSend, Num: 1 + r.Intn(3), Names: []string{"paid"}, Kids: []node{nOp(impl.LiftForm, "")}}}[r.Intn(3)]
		return
	}
	*n = plainValue(r, chanceKind(r))
	if r.Intn(9) == 0 {
		*n = nWithin(*n, impl.LiftSome+r.Intn(2), 3+r.Intn(3))
	}
}

// P21: many upcasters, made by chance, that are fine, and others with a part in which they are not.
func TestCheckMany(t *testing.T) {
	t.Parallel()
	r := rand.New(rand.NewSource(12))
	sinks, told := sinksOf(t, "@0 {a:num}; paid@1 {}; paid@2 {a:num,b:text}; @0 {}; paid@3 {o:{a:num}}; paid@3 {}")
	firsts := slices.DeleteFunc(slices.Clone(told), func(s [2]string) bool { return s[1] == "{}" && s[0] != "paid@1" })
	from := "{a:num,b:text,l:[num],m:?text}"
	fromKind := readKind(t, from)
	codes, ops := map[int]int{}, map[int]int{}
	for range 12000 {
		n := actionOf(r, bindings{{"old", from}}, firsts, 1+r.Intn(6)+r.Intn(20)/18*2)
		for range 3 {
			f := impl.LiftCheck(fromKind, sinks, n)
			if toldFault := toldCheck(from, told, n); f != toldFault {
				t.Fatalf("%q: %v, but the tests tell %v", impl.LiftWrite(n), f, toldFault)
			}
			codes[f.Code]++
			wantFaultThere(t, f, n)
			if f.Code == 0 {
				countOps(n, ops)
			}
			if f.Code == 0 && nodesOf(n) < 20 {
				wantBounded(t, n)
			}
			if f.Code != impl.LiftBadWord {
				wantCost(t, n, atMost(toldCost(n), 40000), atMost(toldFan(n), 400))
			}
			n = copyNode(n)
			otherPart(r, &n)
		}
	}
	for code, least := range map[int]int{0: 10000, 2: 100, 5: 1000, 6: 5000, 7: 100, 8: 500, 9: 50, 10: 200} {
		if codes[code] < least {
			t.Errorf("the code %d came %d times", code, codes[code])
		}
	}
	for op := 1; op <= 43; op++ {
		if ops[op] < 100 {
			t.Errorf("the op %d came %d times in what is accepted", op, ops[op])
		}
	}
}

// P21: many values, made by chance, of a schema that is wanted.
func TestCheckManyValues(t *testing.T) {
	t.Parallel()
	r := rand.New(rand.NewSource(13))
	fine := 0
	for range 12000 {
		bound := bindings{}
		var vars []liftVar
		for range r.Intn(5) {
			name, k := string(rune('u'+r.Intn(6))), chanceKind(r)
			bound, vars = bound.and(name, k), append(vars, liftVar{Name: name, Kind: readKind(t, k)})
		}
		wanted := chanceKind(r)
		n := valueOf(r, bound, wanted, 1+r.Intn(6))
		for i := range 3 {
			k, f := impl.LiftKind(vars, n)
			told, toldFault := toldKind(bound, n)
			if f != toldFault || f.Code == 0 && (textOf(k) != told || i == 0 && told != wanted) || f.Code != 0 && !sameKind(k, kind{}) {
				t.Fatalf("%v: %v %v, but the tests tell %q %v", n, k, f, told, toldFault)
			}
			if f.Code == 0 {
				fine++
			}
			n = copyNode(n)
			otherPart(r, &n)
		}
	}
	if fine < 9000 {
		t.Errorf("%d are fine: too few to tell anything", fine)
	}
}

// Nodes by chance, in which hardly anything fits.
func TestCheckAnyNodes(t *testing.T) {
	r := rand.New(rand.NewSource(14))
	sinks, told := sinksOf(t, "@0 {a:num}; a@1 {}")
	for range 20000 {
		n := anyLift(r, "A", 1+r.Intn(5))
		if r.Intn(4) == 0 {
			spoilLift(r, &n)
		}
		f := impl.LiftCheck(readKind(t, someFrom), sinks, n)
		if toldFault := toldCheck(someFrom, told, n); f != toldFault {
			t.Fatalf("%v: %v, but the tests tell %v", n, f, toldFault)
		}
		value := anyLift(r, "V", 1+r.Intn(4))
		k, f := impl.LiftKind([]liftVar{aVar("x", kNum), aVar("a", kList(kText))}, value)
		if told, toldFault := toldKind(bindings{{"x", "num"}, {"a", "[text]"}}, value); f != toldFault || f.Code == 0 && textOf(k) != told {
			t.Fatalf("%v: %v %v, but the tests tell %q %v", value, k, f, told, toldFault)
		}
	}
}

// Every function answers, at nodes and schemas that hold themselves too.
func TestCheckWithoutEnd(t *testing.T) {
	self := nBoth(nDrop(), nDrop())
	self.Kids[0], self.Kids[1] = self, self
	value := nOp(impl.LiftAdd, "", nNum(1), nNum(1))
	value.Kids[0], value.Kids[1] = value, value
	for _, n := range []node{self, value, nEmit(value), nBoth(nDrop(), self), {Op: impl.LiftForm, Kids: make([]node, 1000000), Names: make([]string, 1000000)}, {Op: 1 << 62}, {Op: -1 << 63}} {
		wantBad(t, "without end", n, true, true)
	}
	loop := kList(kNum)
	loop.Kids[0] = loop
	form := kForm("a b", kNum, kNum)
	form.Kids[0], form.Kids[1] = form, form
	for _, k := range []kind{loop, form, kForm("a", loop), {Sort: impl.TreeForm, Names: make([]string, 1000000), Kids: make([]kind, 1000000)}} {
		if _, f := impl.LiftKind([]liftVar{aVar("a", k)}, nNum(1)); f != (fault{Code: 6}) {
			t.Errorf("a schema without end: %v", f)
		}
		if f := impl.LiftCheck(k, nil, nDrop()); f != (fault{Code: 6}) {
			t.Errorf("from without end: %v", f)
		}
		if f := impl.LiftCheck(kForm(""), []liftSink{{Kind: k}}, nDrop()); f != (fault{Code: 6}) {
			t.Errorf("a sink without end: %v", f)
		}
	}
	many := make([]liftVar, 1000000)
	for i := range many {
		many[i] = aVar("a", kNum)
	}
	many[len(many)-1].Kind = kText
	if k, f := impl.LiftKind(many, nName("a")); f != (fault{}) || !sameKind(k, kText) {
		t.Errorf("many names: %v %v", k, f)
	}
	sinks := make([]liftSink, 1000000)
	for i := range sinks {
		sinks[i] = liftSink{Name: "t", Version: 1, Kind: kForm("")}
	}
	if f := impl.LiftCheck(kForm(""), sinks, readLift(t, "send t 1 form end")); f != (fault{}) {
		t.Errorf("many sinks: %v", f)
	}
}

// The empty list and the nil list are the same value.
func TestCheckEmptyAndNil(t *testing.T) {
	empty := kind{Sort: impl.TreeForm, Names: []string{}, Kids: []kind{}}
	bare := node{Op: impl.LiftForm, Names: []string{}, Kids: []node{}}
	for _, from := range []kind{empty, kForm("")} {
		for _, sinks := range [][]liftSink{{{Kind: empty}}, {{Kind: kind{Sort: impl.TreeForm}}}} {
			for _, n := range []node{nEmit(bare), nEmit(node{Op: impl.LiftForm}), nEmit(nName("old")), nEmit(nOp(impl.LiftCut, "a", nOp(impl.LiftPut, "a", bare, nNum(1))))} {
				if f := impl.LiftCheck(from, sinks, n); f != (fault{}) {
					t.Errorf("%v: %v", n, f)
				}
			}
		}
		for _, sinks := range [][]liftSink{nil, {}} {
			if f := impl.LiftCheck(from, sinks, nDrop()); f != (fault{}) {
				t.Errorf("without sinks: %v", f)
			}
		}
	}
	for _, vars := range [][]liftVar{nil, {}} {
		if k, f := impl.LiftKind(vars, bare); f != (fault{}) || !sameKind(k, empty) {
			t.Errorf("an empty form: %v %v", k, f)
		}
	}
}

// spareKind is a schema whose lists have room behind their ends, in which something stands.
func spareKind(k kind) kind {
	names := append(make([]string, 0, len(k.Names)+4), k.Names...)
	kids := append(make([]kind, 0, len(k.Kids)+4), k.Kids...)
	for i := range kids {
		kids[i] = spareKind(kids[i])
	}
	for i := len(names); i < cap(names); i++ {
		names[:cap(names)][i] = "spare"
	}
	for i := len(kids); i < cap(kids); i++ {
		kids[:cap(kids)][i] = kText
	}
	return kind{Sort: k.Sort, Names: names, Kids: kids}
}

func wantSpareKind(t *testing.T, what string, k kind) {
	t.Helper()
	for _, name := range k.Names[len(k.Names):cap(k.Names)] {
		if name != "spare" {
			t.Errorf("%s: a name behind the end became %q", what, name)
		}
	}
	for _, kid := range k.Kids[len(k.Kids):cap(k.Kids)] {
		if !sameKind(kid, kText) {
			t.Errorf("%s: a schema behind the end became %v", what, kid)
		}
	}
	for _, kid := range k.Kids {
		wantSpareKind(t, what, kid)
	}
}

// Nothing is written into an argument or behind its end.
func TestCheckArgumentsStay(t *testing.T) {
	plain := readKind(t, someFrom)
	for _, s := range []string{"put a old 1", "put c old 1", "put z old 1", "cut a old", "cut b old", "cut o old", "form a old b 1 end", "one old", "get o old", "put x get o old 1", "cut x get o old", "put y get o old old", "map x one old put c x 1"} {
		from := spareKind(plain)
		vars := append(make([]liftVar, 0, 4), aVar("old", from))
		n := readValue(t, s)
		n.Names, n.Kids = slices.Grow(n.Names, 3), slices.Grow(n.Kids, 3)
		before := copyNode(n)
		impl.LiftKind(vars, n)
		impl.LiftCost(n)
		sink := spareKind(plain)
		sinks := append(make([]liftSink, 0, 4), liftSink{Kind: sink})
		impl.LiftCheck(from, sinks, nEmit(n))
		impl.LiftFan(nEmit(n))
		if !sameKind(from, plain) || !sameKind(sink, plain) || !sameNode(n, before) || vars[0].Name != "old" {
			t.Errorf("%q: something was changed", s)
		}
		wantSpareKind(t, s, from)
		wantSpareKind(t, s, sink)
		if v := vars[:2][1]; v.Name != "" || !sameKind(v.Kind, kind{}) {
			t.Errorf("%q: a name behind the end became %v", s, v)
		}
		for i, kid := range n.Kids[len(n.Kids):cap(n.Kids)] {
			if !sameNode(kid, node{}) {
				t.Errorf("%q: the kid %d behind the end became %v", s, i, kid)
			}
		}
	}
}

// Every answer is new memory: it shares none with an argument, and no two lists of one answer share any.
func TestCheckAnswersAreNew(t *testing.T) {
	for _, s := range []string{"o", "some o", "one o", "form a o b o end", "put a o o", "put q o lo", "cut a o", "get w v", "at lo 0", "if f o o", "let x o x", "let x o form a x b x end", "else some o o", "case x some o x o",
		"map x lo x", "keep x lo yes", "join lo lo", "part lo 0 1", "fold s x lo o s", "none {a:num,b:text}", "empty {a:num}", "form long 1 names 2 end", "put names e o", "form a none {q:num} b none {q:num} end"} {
		list, _ := varsOf(t, someVars+"; v {w:{q:num}}")
		n := readValue(t, s)
		first, f := impl.LiftKind(list, n)
		second, _ := impl.LiftKind(list, n)
		if f.Code != 0 {
			t.Fatalf("%q: %v", s, f)
		}
		before, node := copyKind(second), copyNode(n)
		for _, v := range list {
			wantKindsApart(t, first, v.Kind)
		}
		for _, name := range namesOf(first) {
			for _, text := range liftTexts(n) {
				if lies(name, text) {
					t.Errorf("%q: the name %q lies in the node", s, name)
				}
			}
		}
		if len(first.Kids) == 2 {
			spoilAllKinds(first.Kids[0])
			if !sameKind(first.Kids[1], before.Kids[1]) {
				t.Errorf("%q: two kids share something", s)
			}
		}
		spoilAllKinds(first)
		if again, _ := impl.LiftKind(list, n); !sameKind(second, before) || !sameKind(again, before) || !sameNode(n, node) {
			t.Errorf("%q: an answer shares something", s)
		}
	}
}
