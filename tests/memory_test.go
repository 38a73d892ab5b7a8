package tests

import (
	"cmp"
	"fmt"
	"reflect"
	"slices"
	"strings"
	"testing"
	"unsafe"

	"loop.example/teagle/impl"
)

// span is a piece of memory.
type span struct{ from, to uintptr }

// apart says whether no two of some pieces meet.
func apart(spans []span) bool {
	end := uintptr(0)
	for _, one := range slices.SortedFunc(slices.Values(spans), byFrom) {
		if one.from < end {
			return false
		}
		end = one.to
	}
	return true
}

// meeting says whether one of some pieces meets one of others.
func meeting(some, others []span) bool {
	type sided struct {
		span
		side int
	}
	var all []sided
	for side, spans := range [2][]span{some, others} {
		for _, one := range spans {
			all = append(all, sided{one, side})
		}
	}
	slices.SortFunc(all, func(a, b sided) int { return byFrom(a.span, b.span) })
	var ends [2]uintptr
	for _, one := range all {
		if one.from < ends[1-one.side] {
			return true
		}
		ends[one.side] = max(ends[one.side], one.to)
	}
	return false
}

func byFrom(a, b span) int {
	return cmp.Compare(a.from, b.from)
}

// spansOf are the pieces of memory of the lists of a value, spare room included, and those of its texts.
func spansOf(v reflect.Value) (lists, texts []span) {
	return spansBut(v, nil)
}

// listAt is where a list stands, and what it is.
type listAt struct {
	from uintptr
	size int
	of   reflect.Type
}

func atOf(v reflect.Value) listAt {
	return listAt{uintptr(v.UnsafePointer()), v.Len(), v.Type()}
}

// spansBut are the pieces of memory of a value, but of those of its lists that were seen; none is kept in mind, if seen is nil.
func spansBut(v reflect.Value, seen map[listAt]bool) (lists, texts []span) {
	switch v.Kind() {
	case reflect.String:
		if s := v.String(); s != "" {
			from := uintptr(unsafe.Pointer(unsafe.StringData(s)))
			texts = append(texts, span{from, from + uintptr(len(s))})
		}
	case reflect.Slice:
		if v.Cap() > 0 {
			from := uintptr(v.UnsafePointer())
			lists = append(lists, span{from, from + uintptr(v.Cap())*v.Type().Elem().Size()})
		}
		if seen[atOf(v)] {
			return lists, texts
		}
		if seen != nil {
			seen[atOf(v)] = true
		}
		fallthrough
	case reflect.Array:
		for i := range v.Len() {
			l, s := spansBut(v.Index(i), seen)
			lists, texts = append(lists, l...), append(texts, s...)
		}
	case reflect.Struct:
		for i := range v.NumField() {
			l, s := spansBut(v.Field(i), seen)
			lists, texts = append(lists, l...), append(texts, s...)
		}
	}
	return lists, texts
}

// alike says whether two values are the same, that may hold themselves: two lists that are being held against each other are so.
func alike(a, b reflect.Value, seen map[[2]listAt]bool) bool {
	switch a.Kind() {
	case reflect.Slice:
		both := [2]listAt{atOf(a), atOf(b)}
		if a.Len() != b.Len() || a.Len() == 0 || seen[both] {
			return a.Len() == b.Len()
		}
		seen[both] = true
		for i := range a.Len() {
			if !alike(a.Index(i), b.Index(i), seen) {
				return false
			}
		}
		return true
	case reflect.Struct:
		for i := range a.NumField() {
			if !alike(a.Field(i), b.Field(i), seen) {
				return false
			}
		}
		return true
	}
	return a.Equal(b)
}

// wantNewMemory: an answer shares no memory with arguments, and no two of its lists share any.
func wantNewMemory(t *testing.T, what string, answer any, arguments ...any) {
	t.Helper()
	lists, texts := spansOf(reflect.ValueOf(answer))
	if !apart(lists) {
		t.Errorf("%s: two lists of the answer share memory", what)
		return
	}
	for _, argument := range arguments {
		theirs, theirTexts := spansOf(reflect.ValueOf(argument))
		if meeting(lists, theirs) || meeting(texts, theirTexts) {
			t.Errorf("%s: the answer shares memory with an argument of the type %T", what, argument)
			return
		}
	}
}

// wantOtherMemory: an answer, which is to be the same as an argument, shares no memory with it; both may hold themselves.
func wantOtherMemory(t *testing.T, what string, answer, argument any) {
	t.Helper()
	if !alike(reflect.ValueOf(answer), reflect.ValueOf(argument), map[[2]listAt]bool{}) {
		t.Errorf("%s: the answer is not the same", what)
	}
	lists, texts := spansBut(reflect.ValueOf(answer), map[listAt]bool{})
	theirs, theirTexts := spansBut(reflect.ValueOf(argument), map[listAt]bool{})
	if meeting(lists, theirs) || meeting(texts, theirTexts) {
		t.Errorf("%s: the answer shares memory with the argument", what)
	}
}

// roomy is a value in memory of its own, with room behind the end of each of its lists, in which something stands.
func roomy[E any](value E) E {
	return roomyValue(reflect.ValueOf(&value).Elem()).Interface().(E)
}

func roomyValue(v reflect.Value) reflect.Value {
	copied := reflect.New(v.Type()).Elem()
	switch v.Kind() {
	case reflect.String:
		copied.SetString(strings.Clone(v.String()))
	case reflect.Slice:
		copied = reflect.MakeSlice(v.Type(), 0, v.Len()+3)
		for i := range v.Len() {
			copied = reflect.Append(copied, roomyValue(v.Index(i)))
		}
		copied = reflect.Append(copied, markOf(v.Type().Elem()), markOf(v.Type().Elem())).Slice(0, v.Len())
	case reflect.Struct:
		for i := range v.NumField() {
			copied.Field(i).Set(roomyValue(v.Field(i)))
		}
	default:
		copied.Set(v)
	}
	return copied
}

// markOf is a value of a type that no answer has.
func markOf(kind reflect.Type) reflect.Value {
	mark := reflect.New(kind).Elem()
	switch kind.Kind() {
	case reflect.String:
		mark.SetString("behind the end")
	case reflect.Int:
		mark.SetInt(-777777)
	case reflect.Struct:
		for i := range kind.NumField() {
			if at := kind.Field(i).Type.Kind(); at == reflect.String || at == reflect.Int {
				mark.Field(i).Set(markOf(kind.Field(i).Type))
			}
		}
	}
	return mark
}

// allOf tells all of a value, also what stands behind the ends of its lists.
func allOf(value any) string {
	var told strings.Builder
	tellAll(&told, reflect.ValueOf(value))
	return told.String()
}

func tellAll(told *strings.Builder, v reflect.Value) {
	switch v.Kind() {
	case reflect.Slice:
		fmt.Fprintf(told, "[%d of %d:", v.Len(), v.Cap())
		whole := v.Slice(0, v.Cap())
		for i := range whole.Len() {
			tellAll(told, whole.Index(i))
		}
		told.WriteString("]")
	case reflect.Struct:
		told.WriteString("{")
		for i := range v.NumField() {
			tellAll(told, v.Field(i))
		}
		told.WriteString("}")
	default:
		fmt.Fprintf(told, "%v,", v.Interface())
	}
}

// wantMemory: what is told of roomy arguments is new memory, and all of them stay as they are.
func wantMemory(t *testing.T, what string, tell func() any, arguments ...any) {
	t.Helper()
	before := make([]string, len(arguments))
	for i, argument := range arguments {
		before[i] = allOf(argument)
	}
	answer := tell()
	wantNewMemory(t, what, answer, arguments...)
	for i, argument := range arguments {
		if allOf(argument) != before[i] {
			t.Errorf("%s: an argument of the type %T was changed", what, argument)
		}
	}
}

// endless are a schema, a node and a tree that hold themselves.
func endless() (kind, node, tree) {
	kinds, nodes, trees := make([]kind, 1), make([]node, 1), make([]tree, 1)
	kinds[0] = kind{Sort: impl.TreeForm, Names: []string{"n"}, Kids: kinds}
	nodes[0] = node{Op: impl.LiftSome, Kids: nodes}
	trees[0] = tree{Sort: impl.TreeForm, Names: []string{"n"}, Kids: trees}
	return kinds[0], nodes[0], trees[0]
}

// The tests' own eyes: shared memory and changes are seen.
func TestMemorySeen(t *testing.T) {
	one := roomy(form("ab c", list(num(1), text("longer")), num(2)))
	if !sameTree(one, form("ab c", list(num(1), text("longer")), num(2))) || cap(one.Kids) != len(one.Kids)+3 {
		t.Errorf("%v", one)
	}
	failed := func(check func(t *testing.T)) bool {
		inner := &testing.T{}
		check(inner)
		return inner.Failed()
	}
	shared := list(one.Kids[0], one.Kids[0])
	part := text(one.Kids[0].Kids[1].Text[2:4])
	behind := tree{Kids: one.Kids[len(one.Kids):cap(one.Kids)]}
	for what, seen := range map[string]bool{
		"a list":               failed(func(t *testing.T) { wantNewMemory(t, "", tree{Kids: one.Kids}, one) }),
		"a part of a text":     failed(func(t *testing.T) { wantNewMemory(t, "", part, one) }),
		"behind the end":       failed(func(t *testing.T) { wantNewMemory(t, "", behind, one) }),
		"two lists of it":      failed(func(t *testing.T) { wantNewMemory(t, "", shared) }),
		"written behind it":    failed(func(t *testing.T) { wantMemory(t, "", func() any { _ = append(one.Names, "more"); return 1 }, one) }),
		"written into it":      failed(func(t *testing.T) { wantMemory(t, "", func() any { one.Kids[0].Kids[0].Num = 5; return 1 }, one) }),
		"nothing is shared":    !failed(func(t *testing.T) { wantNewMemory(t, "", roomy(one), one) }),
		"nothing is changed":   !failed(func(t *testing.T) { wantMemory(t, "", func() any { return roomy(one) }, one) }),
		"the same text, apart": !failed(func(t *testing.T) { wantNewMemory(t, "", text(strings.Clone("longer")), one) }),
	} {
		if !seen {
			t.Errorf("%s is not seen", what)
		}
	}
}
