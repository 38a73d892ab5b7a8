package tests

import (
	"fmt"
	"reflect"
	"strings"
	"testing"
	"unsafe"

	"loop.example/teagle/impl"
)

// span is a piece of memory.
type span struct{ from, to uintptr }

func (s span) meets(other span) bool {
	return s.from < other.to && other.from < s.to
}

// spansOf are the pieces of memory of the lists of a value, spare room included, and those of its texts.
func spansOf(v reflect.Value) (lists, texts []span) {
	switch v.Kind() {
	case reflect.String:
		if s := v.String(); s != "" {
			from := uintptr(unsafe.Pointer(unsafe.StringData(s)))
			texts = append(texts, span{from, from + uintptr(len(s))})
		}
	case reflect.Slice:
		if v.Cap() > 0 {
			from := uintptr(v.UnsafePointer())
			lists = append(lists, span{from, from + uintptr(v.Cap())*v.Type().Elem().Size()})
		}
		fallthrough
	case reflect.Array:
		for i := range v.Len() {
			l, s := spansOf(v.Index(i))
			lists, texts = append(lists, l...), append(texts, s...)
		}
	case reflect.Struct:
		for i := range v.NumField() {
			l, s := spansOf(v.Field(i))
			lists, texts = append(lists, l...), append(texts, s...)
		}
	}
	return lists, texts
}

// wantNewMemory: an answer shares no memory with arguments, and no two of its lists share any.
func wantNewMemory(t *testing.T, what string, answer any, arguments ...any) {
	t.Helper()
	lists, texts := spansOf(reflect.ValueOf(answer))
	for i, one := range lists {
		for _, other := range lists[:i] {
			if one.meets(other) {
				t.Errorf("%s: two lists of the answer share memory", what)
				return
			}
		}
	}
	for _, argument := range arguments {
		theirs, theirTexts := spansOf(reflect.ValueOf(argument))
		for _, pair := range [][2][]span{{lists, theirs}, {texts, theirTexts}} {
			for _, one := range pair[0] {
				for _, other := range pair[1] {
					if one.meets(other) {
						t.Errorf("%s: the answer shares memory with an argument of the type %T", what, argument)
						return
					}
				}
			}
		}
	}
}

// roomy is a value in memory of its own, with room behind the end of each of its lists, in which something stands.
func roomy[E any](value E) E {
	return roomyValue(reflect.ValueOf(&value).Elem()).Interface().(E)
}

func roomyValue(v reflect.Value) reflect.Value {
	copied := reflect.New(v.Type()).Elem()
	switch v.Kind() {
	case reflect.String:
		copied.SetString(strings.Clone(v.String()))
	case reflect.Slice:
		copied = reflect.MakeSlice(v.Type(), 0, v.Len()+3)
		for i := range v.Len() {
			copied = reflect.Append(copied, roomyValue(v.Index(i)))
		}
		copied = reflect.Append(copied, markOf(v.Type().Elem()), markOf(v.Type().Elem())).Slice(0, v.Len())
	case reflect.Struct:
		for i := range v.NumField() {
			copied.Field(i).Set(roomyValue(v.Field(i)))
		}
	default:
		copied.Set(v)
	}
	return copied
}

// markOf is a value of a type that no answer has.
func markOf(kind reflect.Type) reflect.Value {
	mark := reflect.New(kind).Elem()
	switch kind.Kind() {
	case reflect.String:
		mark.SetString("behind the end")
	case reflect.Int:
		mark.SetInt(-777777)
	case reflect.Struct:
		for i := range kind.NumField() {
			if at := kind.Field(i).Type.Kind(); at == reflect.String || at == reflect.Int {
				mark.Field(i).Set(markOf(kind.Field(i).Type))
			}
		}
	}
	return mark
}

// allOf tells all of a value, also what stands behind the ends of its lists.
func allOf(value any) string {
	var told strings.Builder
	tellAll(&told, reflect.ValueOf(value))
	return told.String()
}

func tellAll(told *strings.Builder, v reflect.Value) {
	switch v.Kind() {
	case reflect.Slice:
		fmt.Fprintf(told, "[%d of %d:", v.Len(), v.Cap())
		whole := v.Slice(0, v.Cap())
		for i := range whole.Len() {
			tellAll(told, whole.Index(i))
		}
		told.WriteString("]")
	case reflect.Struct:
		told.WriteString("{")
		for i := range v.NumField() {
			tellAll(told, v.Field(i))
		}
		told.WriteString("}")
	default:
		fmt.Fprintf(told, "%v,", v.Interface())
	}
}

// wantMemory: what is told of roomy arguments is new memory, and all of them stay as they are.
func wantMemory(t *testing.T, what string, tell func() any, arguments ...any) {
	t.Helper()
	before := make([]string, len(arguments))
	for i, argument := range arguments {
		before[i] = allOf(argument)
	}
	answer := tell()
	wantNewMemory(t, what, answer, arguments...)
	for i, argument := range arguments {
		if allOf(argument) != before[i] {
			t.Errorf("%s: an argument of the type %T was changed", what, argument)
		}
	}
}

// endless are a schema, a node and a tree that hold themselves.
func endless() (kind, node, tree) {
	kinds, nodes, trees := make([]kind, 1), make([]node, 1), make([]tree, 1)
	kinds[0] = kind{Sort: impl.TreeForm, Names: []string{"n"}, Kids: kinds}
	nodes[0] = node{Op: impl.LiftSome, Kids: nodes}
	trees[0] = tree{Sort: impl.TreeForm, Names: []string{"n"}, Kids: trees}
	return kinds[0], nodes[0], trees[0]
}

// The tests' own eyes: shared memory and changes are seen.
func TestMemorySeen(t *testing.T) {
	one := roomy(form("ab c", list(num(1), text("longer")), num(2)))
	if !sameTree(one, form("ab c", list(num(1), text("longer")), num(2))) || cap(one.Kids) != len(one.Kids)+3 {
		t.Errorf("%v", one)
	}
	failed := func(check func(t *testing.T)) bool {
		inner := &testing.T{}
		check(inner)
		return inner.Failed()
	}
	shared := list(one.Kids[0], one.Kids[0])
	part := text(one.Kids[0].Kids[1].Text[2:4])
	behind := tree{Kids: one.Kids[len(one.Kids):cap(one.Kids)]}
	for what, seen := range map[string]bool{
		"a list":               failed(func(t *testing.T) { wantNewMemory(t, "", tree{Kids: one.Kids}, one) }),
		"a part of a text":     failed(func(t *testing.T) { wantNewMemory(t, "", part, one) }),
		"behind the end":       failed(func(t *testing.T) { wantNewMemory(t, "", behind, one) }),
		"two lists of it":      failed(func(t *testing.T) { wantNewMemory(t, "", shared) }),
		"written behind it":    failed(func(t *testing.T) { wantMemory(t, "", func() any { _ = append(one.Names, "more"); return 1 }, one) }),
		"written into it":      failed(func(t *testing.T) { wantMemory(t, "", func() any { one.Kids[0].Kids[0].Num = 5; return 1 }, one) }),
		"nothing is shared":    !failed(func(t *testing.T) { wantNewMemory(t, "", roomy(one), one) }),
		"nothing is changed":   !failed(func(t *testing.T) { wantMemory(t, "", func() any { return roomy(one) }, one) }),
		"the same text, apart": !failed(func(t *testing.T) { wantNewMemory(t, "", text(strings.Clone("longer")), one) }),
	} {
		if !seen {
			t.Errorf("%s is not seen", what)
		}
	}
}
