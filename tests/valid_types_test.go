package tests

import (
	"strings"
	"testing"

	"loop.example/g00540/impl"
)

func wantTypes(t *testing.T, s impl.Schema, text string, want int) {
	t.Helper()
	got, code := impl.CheckTypes(s, wantDocRead(t, text))
	wantCode(t, "CheckTypes", text, got, code, want)
}

// typedText is a schema without a Mutation, with lists and with arguments that Need not be.
const typedText = `type Query { a : Int l : [ Int ] ! b ( x : Int y : Int ! ) : T c : [ T ] ! e ( x : Int y : Int z : Int w : Int ) : Int ! n ( x : Int ! ) : Int }
type T { a : Int q : Query t ( x : Int ) : T ! s : [ U ] }
type U { u : Int ! q ( x : Int ! y : Int ! ) : Query ! }`

func typedSchema(t *testing.T) impl.Schema {
	t.Helper()
	s, code := impl.ParseSchema(typedText)
	if code != impl.OK {
		t.Fatal("ParseSchema", code)
	}
	return s
}

// typedSets are sets of a query by the schema of typedText, by the code of their one fault.
func typedSets() map[int][]string {
	return map[int][]string{
		impl.OK: {
			"a", "l", "x: a", "__typename", "x: __typename", "b(y: 1) { a }", "b(y: $v) { a }", "b(x: 1 y: 2) { a }", "b(y: 2 x: null) { a }", "b(x: $v y: $v) { __typename }", "c { a }", "c { t { t(x: 1) { t(x: null) { a } } } }",
			"e", "e(x: null y: null z: null w: null)", "e(w: 1 z: $v y: null x: -1)", "n(x: 0)", "c { q { c { q { a } } } }", "c { s { u q(x: 1 y: 2) { a l } } }", "... { a }", "... on Query { a l }", "... on Query { ... { b(y: 1) { ... on T { a } } } }",
			"c { ... on T { a } }", "c { ... { ... f } }", "... g", "... g ... g a", "c { s { ... on U { u } } }", "a @skip(if: true)", "a @include(if: false) @skip(if: $v)", "... g @skip(if: $v)", "... @include(if: $v) { a }", "c @skip(if: $v) { ... on T @skip(if: true) { a @skip(if: false) } }",
			"a a a: a", "x: a x: l", "e e(x: 1)", "c { ... f ... f }",
		},
		impl.ErrArg: {
			"a @skip(if: 1)", "a @include(if: null)", "a @skip(if: true) @include(if: 0)", "a @skip(if: $v) @skip(if: -1) @skip(if: true)", "__typename @skip(if: null)", "... g @skip(if: 1)", "... g @include(if: true) @include(if: null)", "... @skip(if: 1) { a }", "... on Query @include(if: 7) { a }", "c @skip(if: null) { a }", "b(y: 1) @skip(if: 1) { a }",
			"__typename(x: 1)", "x: __typename(id: $v)", "__typename(__typename: null)",
			"a(x: 1)", "a(a: $v)", "l(x: null)", "b(y: 1 z: 1) { a }", "b(z: 1 y: 1) { a }", "b(Y: 1) { a }", "e(v: 1)", "c(x: 1) { a }", "c { a(x: 1) }", "c { t(y: 1) { a } }",
			"b(y: true) { a }", "b(y: false) { a }", "b(x: true y: 1) { a }", "e(x: 1 y: 2 z: false)", "n(x: true)",
			"b(y: null) { a }", "b(x: 1 y: null) { a }", "n(x: null)", "c { s { q(x: 1 y: null) { a } } }",
			"b(y: 1 y: 1) { a }", "b(y: 1 y: 2) { a }", "b(x: null x: null y: 1) { a }", "b(y: $v x: 1 y: $v) { a }", "e(x: 1 y: 1 z: 1 x: 1)", "e(w: $v w: null)",
			"b { a }", "b(x: 1) { a }", "b(x: null) { a }", "n", "c { s { q(x: 1) { a } } }", "c { s { q(y: 1) { a } } }", "c { s { q { a } } }",
		},
		impl.ErrLeaf: {
			"__typename { a }", "x: __typename { __typename }", "a { a }", "l { a }", "e { a }", "e(x: 1) { a }", "n(x: 1) { a }", "c", "b(y: 1)", "c { t }", "c { s { u { a } } }", "c { s }", "c { q }", "c { a { a } }", "c { ... { s { u { u } } } }", "... { c }", "... on Query { a { ... on Int { a } } }", "a { ... none }",
		},
		impl.ErrField: {
			"z", "A", "x: z", "a: z", "t", "u", "z { a }", "z(x: 1) { a }", "z(x: true)", "Query", "_", "__typenam", "__type", "Int", "c { l }", "c { u }", "c { c { a } }", "c { s { a } }", "c { q { t { a } } }", "... { z }", "... on Query { c { ... on T { z } } }",
		},
		impl.ErrFragment: {
			"... none", "... query", "... f", "... h", "c { ... g }", "c { ... none }", "c { s { ... f } }", "... { ... none }", "... on T { a }", "... on U { u }", "... on Int { a }", "... on Other { a }", "... on query { a }", "c { ... on Query { a } }", "c { ... { ... on U { u } } }", "... on Query { ... on T { a } }", "c { s { ... on T { a } } }", "... f @skip(if: true)", "... on T @include(if: false) { a }",
		},
	}
}

const typedFragments = " fragment f on T { a } fragment g on Query { a l } fragment h on U { u } "

func TestEachCodeOfTypes(t *testing.T) {
	s := typedSchema(t)
	for want, sets := range typedSets() {
		for _, set := range sets {
			wantTypes(t, s, "{ "+set+" }"+typedFragments, want)
			wantTypes(t, s, typedFragments+"query query { a "+set+" a }", want)
			wantTypes(t, s, "{ a } "+typedFragments+"fragment i on Query { "+set+" }", want)
			wantTypes(t, s, typedFragments+"{ ... on Query @skip(if: $v) { "+set+" } }", want)
			wantTypes(t, s, "{ c { q { "+set+" } } }"+typedFragments, want)
			wantTypes(t, s, "{ a } "+typedFragments+"{ a "+set+" }", want)
		}
	}
}

func TestTypesOfDefinitions(t *testing.T) {
	s := typedSchema(t)
	for text, want := range map[string]int{
		"{ a }":                                                   impl.OK,
		"query Mutation { a }":                                    impl.OK,
		"mutation { a }":                                          impl.ErrFragment,
		"mutation Query { z @skip(if: 1) }":                       impl.ErrFragment,
		"{ a } mutation { z }":                                    impl.ErrFragment,
		"{ z } mutation { z }":                                    impl.ErrField,
		"mutation { z } { z }":                                    impl.ErrFragment,
		"fragment f on T { a }":                                   impl.OK,
		"fragment f on Query { a }":                               impl.OK,
		"fragment f on U { u }":                                   impl.OK,
		"fragment f on Int { a }":                                 impl.ErrFragment,
		"fragment f on Mutation { a }":                            impl.ErrFragment,
		"fragment f on query { a }":                               impl.ErrFragment,
		"fragment f on V { z }":                                   impl.ErrFragment,
		"fragment T on V { u }":                                   impl.ErrFragment,
		"{ ... f } fragment f on V { z }":                         impl.ErrFragment,
		"{ a } { a } fragment f on T { a } fragment f on U { u }": impl.OK,
		// A spread is of the first one of its name.
		"{ c { ... f } } fragment f on T { a } fragment f on U { u }":       impl.OK,
		"{ c { s { ... f } } } fragment f on T { a } fragment f on U { u }": impl.ErrFragment,
		"{ c { s { ... f } } } fragment f on U { u } fragment f on T { a }": impl.OK,
		"{ ... q } query q { a }":                                             impl.ErrFragment,
		"{ ... f } fragment f on Query { ... f }":                             impl.OK,
		"{ c { ... f } } fragment f on T { q { c { ... f } } }":               impl.OK,
		"{ a } fragment f on T { ... g } fragment g on T { t { ... f } }":     impl.OK,
		"{ a } fragment f on T { ... g } fragment g on Query { c { ... f } }": impl.ErrFragment,
	} {
		wantTypes(t, s, text, want)
	}
	plain := impl.PlainSchema()
	for text, want := range map[string]int{
		"mutation { set(id: 1 value: 2) { id } }": impl.OK, "mutation { size }": impl.ErrField, "{ set(id: 1 value: 2) { id } }": impl.ErrField, "mutation { ... on Query { size } }": impl.ErrFragment, "mutation { ... f } fragment f on Mutation { __typename }": impl.OK, "mutation { ... f } fragment f on Query { __typename }": impl.ErrFragment,
	} {
		wantTypes(t, plain, text, want)
	}
	// A type may bear any name but Int.
	odd := schemaOf(typeDef("Query", fieldDef("Int", "Int"), fieldDef("a", "Fragment", may("true"))), typeDef("Mutation", fieldDef("Query", "Query")), typeDef("Fragment", fieldDef("on", "Int")))
	wantTypes(t, odd, "mutation { Query { Int a(true: 1) { on ... on Fragment { on } } } }", impl.OK)
	wantTypes(t, odd, "mutation { Query { Int { Int } } }", impl.ErrLeaf)
}

// typedFaults have one fault each, as parts of a set of T by the schema of typedText.
var typedFaults = []partFault{
	{"a @skip(if: 1)", impl.ErrArg}, {"... none", impl.ErrFragment}, {"... on U { u }", impl.ErrFragment}, {"__typename { a }", impl.ErrLeaf}, {"z", impl.ErrField}, {"t(y: 1) { a }", impl.ErrArg}, {"a { a }", impl.ErrLeaf}, {"t", impl.ErrLeaf}, {"__typename(x: 1)", impl.ErrArg},
}

// Of two selections, or of two definitions, the first one that has a fault gives the code.
func TestWhichFaultOfTypesComesFirst(t *testing.T) {
	s := typedSchema(t)
	for _, a := range typedFaults {
		for _, b := range typedFaults {
			for _, text := range []string{
				"{ c { A B } }", "{ c { a A t { a } B A } }", "{ c { t { A } B } }", "{ c { t { t { a A } } B } }", "{ c { ... { A } B } }", "{ c { ... on T { a t { A } } B } }", "{ c { A t { B } } }", "{ c { A ... on T { B } } }", "{ c { A } } { c { B } }", "{ c { A } z }", "{ c { A } l(x: 1) }",
				"{ c { A } } fragment f on T { B }", "fragment f on T { A } { c { B } }", "{ a } fragment f on T { t { t { A } } } fragment g on T { B }", "{ c { A } } fragment f on V { B }", "{ c { ... f A } } fragment f on T { B }", "{ c { A ... f } } fragment f on T { B }", "{ c { A } } mutation { B }",
			} {
				wantTypes(t, s, strings.NewReplacer("A", a.text, "B", b.text).Replace(text), a.code)
			}
		}
		// A selection's own fault comes ahead of those of its own ones, and a definition's type ahead of all in it.
		for text, want := range map[string]int{
			"{ c { t(y: 1) { A } } }": impl.ErrArg, "{ c { t @skip(if: 1) { A } } }": impl.ErrArg, "{ c { z { A } } }": impl.ErrField, "{ c { a { A } } }": impl.ErrLeaf, "{ c { __typename { A } } }": impl.ErrLeaf, "{ c { __typename(x: 1) { A } } }": impl.ErrArg, "{ c { ... on U { A } } }": impl.ErrFragment, "{ c { ... @skip(if: 1) { A } } }": impl.ErrArg,
			"{ b { A } }": impl.ErrArg, "{ n { A } }": impl.ErrArg, "mutation { A }": impl.ErrFragment, "fragment f on V { A }": impl.ErrFragment, "fragment f on Int { A }": impl.ErrFragment,
		} {
			wantTypes(t, s, strings.ReplaceAll(text, "A", a.text), want)
		}
	}
}

// Of one selection: directives, what it is, arguments, selections.
func TestWhichFaultOfOneSelectionComesFirst(t *testing.T) {
	s := typedSchema(t)
	for set, want := range map[string]int{
		"... none @skip(if: 1)":               impl.ErrArg,
		"... f @include(if: null)":            impl.ErrArg,
		"... on T @skip(if: 1) { z }":         impl.ErrArg,
		"... on T @skip(if: true) { z }":      impl.ErrFragment,
		"z @skip(if: 1)":                      impl.ErrArg,
		"z @skip(if: 1) { a }":                impl.ErrArg,
		"z(x: true) @skip(if: true) { a }":    impl.ErrField,
		"z(x: 1 x: 1)":                        impl.ErrField,
		"a(x: 1) { a }":                       impl.ErrArg,
		"a @skip(if: 1) { a }":                impl.ErrArg,
		"__typename(x: 1) { a }":              impl.ErrArg,
		"__typename @skip(if: 1) { a }":       impl.ErrArg,
		"__typename @skip(if: $v) { a }":      impl.ErrLeaf,
		"b":                                   impl.ErrArg,
		"b(x: 1)":                             impl.ErrArg,
		"b(y: null)":                          impl.ErrArg,
		"b(y: true)":                          impl.ErrArg,
		"b(y: 1 y: 1)":                        impl.ErrArg,
		"b(y: 1 z: 1)":                        impl.ErrArg,
		"b(y: 1)":                             impl.ErrLeaf,
		"n { a }":                             impl.ErrArg,
		"n(x: true) { a }":                    impl.ErrArg,
		"n(x: 1) { z }":                       impl.ErrLeaf,
		"e(x: false) { a }":                   impl.ErrArg,
		"c(x: 1)":                             impl.ErrArg,
		"c @skip(if: 1)":                      impl.ErrArg,
		"c @skip(if: $v)":                     impl.ErrLeaf,
		"c(x: 1) @skip(if: 1) { z }":          impl.ErrArg,
		"e(v: true) @include(if: null) { z }": impl.ErrArg,
	} {
		wantTypes(t, s, "{ "+set+" }"+typedFragments, want)
	}
}
