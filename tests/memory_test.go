package tests

import (
	"reflect"
	"testing"
	"unsafe"
)

// A span is memory that a list or a text holds; a list's room behind its end belongs to it.
type span struct {
	first, end uintptr
	list       bool
}

func spansOf(value any) []span {
	var spans []span
	gather(reflect.ValueOf(value), &spans)
	return spans
}

// gather goes through structs, lists and texts: answers and arguments are made of these. The value is finite.
func gather(v reflect.Value, spans *[]span) {
	switch v.Kind() {
	case reflect.String:
		if t := v.String(); t != "" {
			at := uintptr(unsafe.Pointer(unsafe.StringData(t)))
			*spans = append(*spans, span{at, at + uintptr(len(t)), false})
		}
	case reflect.Slice:
		if size := uintptr(v.Cap()) * v.Type().Elem().Size(); size > 0 {
			*spans = append(*spans, span{v.Pointer(), v.Pointer() + size, true})
		}
		for i := range v.Len() {
			gather(v.Index(i), spans)
		}
	case reflect.Struct:
		for i := range v.NumField() {
			gather(v.Field(i), spans)
		}
	}
}

func (s span) meets(o span) bool { return s.first < o.end && o.first < s.end }

// wantOwnMemory fails if the answer shares memory with one of the others (arguments, answers of
// other calls), or if two of its own lists do.
func wantOwnMemory(t *testing.T, what string, answer any, others ...any) {
	t.Helper()
	own := spansOf(answer)
	var taken []span
	for _, other := range others {
		taken = append(taken, spansOf(other)...)
	}
	for i, s := range own {
		for _, o := range own[:i] {
			if s.list && o.list && s.meets(o) {
				t.Errorf("%s: two lists of the answer share memory", what)
			}
		}
		for _, o := range taken {
			if s.meets(o) {
				t.Errorf("%s: the answer shares memory with what is not its own", what)
			}
		}
	}
}
