// Package impl: values as trees, their schemas, events.
package impl

import (
	"strconv"
	"strings"
)

// Limits of trees.
const (
	TreeMaxNum   = 999999999
	TreeMaxText  = 60
	TreeMaxName  = 8
	TreeMaxList  = 20
	TreeMaxParts = 120
	TreeMaxDeep  = 6
	TreeMaxWrite = 10000
)

// Sorts of trees, and of schemas.
const (
	TreeNum   = 1
	TreeText  = 2
	TreeFlag  = 3
	TreeList  = 4
	TreeForm  = 5
	TreeMaybe = 6
)

// Tree is a value.
type Tree struct {
	Sort  int
	Num   int
	Text  string
	Names []string
	Kids  []Tree
}

// TreeOk says whether a tree is ok.
func TreeOk(t Tree) bool {
	_, parts := sortTree(t)
	return parts > 0
}

// TreeParts counts the parts of a tree, itself being one.
func TreeParts(t Tree) int {
	_, parts := sortTree(t)
	return parts
}

// TreeWrite writes a tree.
func TreeWrite(t Tree) string {
	sorted, parts := sortTree(t)
	if parts == 0 {
		return ""
	}
	return string(sorted.write(nil))
}

// TreeRead reads a tree.
func TreeRead(text string) (Tree, bool) {
	var tree Tree
	ok := treeTry(func() { tree = plainTree(newTreeReader(text).whole()) })
	return tree, ok
}

// treeFault is what is raised where a tree, or a text, is not ok: all faults have the same answer.
type treeFault struct{}

// treeWant raises a fault, if something does not hold.
func treeWant(holds bool) {
	if !holds {
		panic(treeFault{})
	}
}

// treeTry says whether some work came to its end without a fault.
func treeTry(work func()) (ok bool) {
	defer func() {
		ok = recover() == nil
	}()
	work()
	return true
}

// nameOk says whether a text is a name.
func nameOk(name string) bool {
	if len(name) < 1 || len(name) > TreeMaxName || isDigit(name[0]) {
		return false
	}
	for i := range len(name) {
		if !isNameByte(name[i]) {
			return false
		}
	}
	return true
}

// namesAscend says whether texts are names, and ascend.
func namesAscend(names []string) bool {
	for i, name := range names {
		if !nameOk(name) || i > 0 && names[i-1] >= name {
			return false
		}
	}
	return true
}

func isDigit(b byte) bool {
	return b >= '0' && b <= '9'
}

func isNameByte(b byte) bool {
	return b >= 'a' && b <= 'z' || isDigit(b)
}

// sortedTree is a tree as a type of its sort; one that was made is ok, but for its levels and parts, which treeBounds counts.
type sortedTree interface {
	write(to []byte) []byte
}

type numTree int

type textTree string

type flagTree bool

type listTree []sortedTree

type formTree struct {
	names []string
	kids  []sortedTree
}

type maybeTree []sortedTree

func newNumTree(num int) numTree {
	treeWant(num >= -TreeMaxNum && num <= TreeMaxNum)
	return numTree(num)
}

func newTextTree(text string) textTree {
	treeWant(len(text) <= TreeMaxText)
	for i := range len(text) {
		treeWant(text[i] >= 32 && text[i] <= 126 && text[i] != '"')
	}
	return textTree(text)
}

func newFlagTree(num int) flagTree {
	treeWant(num == 0 || num == 1)
	return flagTree(num == 1)
}

func newListTree(kids []sortedTree) listTree {
	treeWant(len(kids) <= TreeMaxList)
	return listTree(kids)
}

func newFormTree(names []string, kids []sortedTree) formTree {
	treeWant(len(names) == len(kids) && namesAscend(names))
	return formTree{names: names, kids: kids}
}

func newMaybeTree(kids []sortedTree) maybeTree {
	treeWant(len(kids) <= 1)
	return maybeTree(kids)
}

func (n numTree) write(to []byte) []byte {
	return strconv.AppendInt(to, int64(n), 10)
}

func (t textTree) write(to []byte) []byte {
	to = append(to, '"')
	to = append(to, t...)
	return append(to, '"')
}

func (f flagTree) write(to []byte) []byte {
	if f {
		return append(to, "yes"...)
	}
	return append(to, "no"...)
}

func (l listTree) write(to []byte) []byte {
	to = append(to, '[')
	for i, kid := range l {
		to = kid.write(writeBetween(to, i))
	}
	return append(to, ']')
}

func (f formTree) write(to []byte) []byte {
	to = append(to, '{')
	for i, kid := range f.kids {
		to = append(writeBetween(to, i), f.names[i]...)
		to = kid.write(append(to, ':'))
	}
	return append(to, '}')
}

func (m maybeTree) write(to []byte) []byte {
	if len(m) == 0 {
		return append(to, '~')
	}
	return m[0].write(append(to, '?'))
}

// writeBetween writes what stands ahead of the kid at a place.
func writeBetween(to []byte, place int) []byte {
	if place == 0 {
		return to
	}
	return append(to, ',')
}

// plainTree is the plain form; its texts are copied, as an answer shares nothing with what was read.
func plainTree(s sortedTree) Tree {
	switch s := s.(type) {
	case numTree:
		return Tree{Sort: TreeNum, Num: int(s)}
	case textTree:
		return Tree{Sort: TreeText, Text: strings.Clone(string(s))}
	case flagTree:
		if s {
			return Tree{Sort: TreeFlag, Num: 1}
		}
		return Tree{Sort: TreeFlag}
	case listTree:
		return Tree{Sort: TreeList, Kids: plainTrees(s)}
	case formTree:
		return Tree{Sort: TreeForm, Names: copyNames(s.names), Kids: plainTrees(s.kids)}
	case maybeTree:
		return Tree{Sort: TreeMaybe, Kids: plainTrees(s)}
	}
	return Tree{}
}

func plainTrees(sorted []sortedTree) []Tree {
	var trees []Tree
	for _, s := range sorted {
		trees = append(trees, plainTree(s))
	}
	return trees
}

func copyNames(names []string) []string {
	var copied []string
	for _, name := range names {
		copied = append(copied, strings.Clone(name))
	}
	return copied
}

// treeBounds counts parts and levels on the way down, so that a tree that is too large, or that holds itself, is left in time.
type treeBounds struct {
	parts int
	level int
}

func (b *treeBounds) enter() {
	b.parts++
	b.level++
	treeWant(b.parts <= TreeMaxParts && b.level <= TreeMaxDeep)
}

func (b *treeBounds) leave() {
	b.level--
}

// sortTree is the tree as a type of its sort, and its parts; 0 parts, if it is not ok.
func sortTree(t Tree) (sortedTree, int) {
	var sorter treeSorter
	var sorted sortedTree
	if !treeTry(func() { sorted = sorter.tree(t) }) {
		return nil, 0
	}
	return sorted, sorter.parts
}

// treeSorter makes plain trees to types of their sorts.
type treeSorter struct {
	treeBounds
}

func (s *treeSorter) tree(t Tree) sortedTree {
	s.enter()
	treeWant(hasJustItsOwn(t))
	sorted := s.ofItsSort(t)
	s.leave()
	return sorted
}

func (s *treeSorter) ofItsSort(t Tree) sortedTree {
	switch t.Sort {
	case TreeNum:
		return newNumTree(t.Num)
	case TreeText:
		return newTextTree(t.Text)
	case TreeFlag:
		return newFlagTree(t.Num)
	case TreeList:
		return newListTree(s.trees(t.Kids))
	case TreeForm:
		return newFormTree(t.Names, s.trees(t.Kids))
	case TreeMaybe:
		return newMaybeTree(s.trees(t.Kids))
	}
	panic(treeFault{})
}

func (s *treeSorter) trees(plain []Tree) []sortedTree {
	var sorted []sortedTree
	for _, t := range plain {
		sorted = append(sorted, s.tree(t))
	}
	return sorted
}

// treeHas says which fields the trees of a sort have; all others must be empty or 0.
type treeHas struct{ num, text, names, kids bool }

var treeFields = [...]treeHas{
	TreeNum:   {num: true},
	TreeText:  {text: true},
	TreeFlag:  {num: true},
	TreeList:  {kids: true},
	TreeForm:  {names: true, kids: true},
	TreeMaybe: {kids: true},
}

func hasJustItsOwn(t Tree) bool {
	if t.Sort < TreeNum || t.Sort > TreeMaybe {
		return false
	}
	has := treeFields[t.Sort]
	return (has.num || t.Num == 0) &&
		(has.text || t.Text == "") &&
		(has.names || len(t.Names) == 0) &&
		(has.kids || len(t.Kids) == 0)
}

// textReader reads a text from its beginning on; what must come now, and does not, is a fault.
type textReader struct {
	text string
	at   int
}

// next is the byte that is to be read; 0 at the end, which begins no tree.
func (r *textReader) next() byte {
	if r.at == len(r.text) {
		return 0
	}
	return r.text[r.at]
}

// skip reads a word, if it comes now, and says whether it did.
func (r *textReader) skip(word string) bool {
	if !strings.HasPrefix(r.text[r.at:], word) {
		return false
	}
	r.at += len(word)
	return true
}

// take reads a word that must come now.
func (r *textReader) take(word string) {
	treeWant(r.skip(word))
}

// run reads on as long as bytes belong to it.
func (r *textReader) run(belongs func(byte) bool) string {
	from := r.at
	for r.at < len(r.text) && belongs(r.text[r.at]) {
		r.at++
	}
	return r.text[from:r.at]
}

// number reads a whole number that must come now.
func (r *textReader) number() int {
	from := r.at
	r.skip("-")
	r.run(isDigit)
	word := r.text[from:r.at]
	num, err := strconv.Atoi(word)
	// Atoi takes noughts ahead and -0 too, which no number is written with.
	treeWant(err == nil && strconv.Itoa(num) == word)
	return num
}

// more says whether a kid comes, so many being read; what ends them, or stands between two, is taken.
func (r *textReader) more(end string, kids int) bool {
	if r.skip(end) {
		return false
	}
	if kids > 0 {
		r.take(",")
	}
	return true
}

// end wants that all of the text was read.
func (r *textReader) end() {
	treeWant(r.at == len(r.text))
}

// treeReader reads a text as a tree; sorts are told by their first byte.
type treeReader struct {
	treeBounds
	textReader
	sorts [256]func() sortedTree
}

func newTreeReader(text string) *treeReader {
	r := &treeReader{textReader: textReader{text: text}}
	for digit := '0'; digit <= '9'; digit++ {
		r.sorts[digit] = r.num
	}
	r.sorts['-'] = r.num
	r.sorts['"'] = r.quoted
	r.sorts['y'] = r.flag
	r.sorts['n'] = r.flag
	r.sorts['['] = r.list
	r.sorts['{'] = r.form
	r.sorts['~'] = r.maybe
	r.sorts['?'] = r.maybe
	return r
}

// whole reads a tree that is all of the text.
func (r *treeReader) whole() sortedTree {
	treeWant(len(r.text) <= TreeMaxWrite)
	sorted := r.tree()
	r.end()
	return sorted
}

func (r *treeReader) tree() sortedTree {
	r.enter()
	read := r.sorts[r.next()]
	treeWant(read != nil)
	sorted := read()
	r.leave()
	return sorted
}

func (r *treeReader) num() sortedTree {
	return newNumTree(r.number())
}

func (r *treeReader) quoted() sortedTree {
	r.take("\"")
	text := r.run(func(b byte) bool { return b != '"' })
	r.take("\"")
	return newTextTree(text)
}

func (r *treeReader) flag() sortedTree {
	if r.skip("yes") {
		return flagTree(true)
	}
	r.take("no")
	return flagTree(false)
}

func (r *treeReader) list() sortedTree {
	var kids []sortedTree
	r.take("[")
	for r.more("]", len(kids)) {
		kids = append(kids, r.tree())
	}
	return newListTree(kids)
}

func (r *treeReader) form() sortedTree {
	var names []string
	var kids []sortedTree
	r.take("{")
	for r.more("}", len(kids)) {
		names = append(names, r.run(isNameByte))
		r.take(":")
		kids = append(kids, r.tree())
	}
	return newFormTree(names, kids)
}

func (r *treeReader) maybe() sortedTree {
	if r.skip("~") {
		return newMaybeTree(nil)
	}
	r.take("?")
	return newMaybeTree([]sortedTree{r.tree()})
}
