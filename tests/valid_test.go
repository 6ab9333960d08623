package tests

import (
	"slices"
	"strings"
	"testing"

	"loop.example/g00540/impl"
)

// wantCode fails unless the call answered the code want, and that it could be asked.
func wantCode(t *testing.T, call, text string, got, code, want int) {
	t.Helper()
	if got != want || code != impl.OK {
		t.Errorf("%s of %.200q = %d, %d, want %d", call, text, got, code, want)
	}
}

// wantSecond fails unless the call could not be asked: its first answer is zero then.
func wantSecond(t *testing.T, call, text string, got, code, want int) {
	t.Helper()
	if got != 0 || code != want {
		t.Errorf("%s of %.200q = %d, %d, want 0, %d", call, text, got, code, want)
	}
}

func wantLimits(t *testing.T, text string, want int) {
	t.Helper()
	got, code := impl.CheckLimits(wantDocRead(t, text))
	wantCode(t, "CheckLimits", text, got, code, want)
}

func wantMerge(t *testing.T, text string, want int) {
	t.Helper()
	got, code := impl.CheckMerge(wantDocRead(t, text))
	wantCode(t, "CheckMerge", text, got, code, want)
}

func wantValid(t *testing.T, text string, want int) {
	t.Helper()
	got, code := impl.Validate(impl.PlainSchema(), wantDocRead(t, text))
	wantCode(t, "Validate", text, got, code, want)
}

func TestConstantsOfWhatIsRight(t *testing.T) {
	if impl.MaxFields != 400 || impl.MaxWhole != 12 {
		t.Error("constants", impl.MaxFields, impl.MaxWhole)
	}
}

func TestOpOf(t *testing.T) {
	const f, g, h = " fragment f on T { x } ", " fragment g on T { y } ", " fragment f on U { z } "
	for text, want := range map[string]string{
		"{ a }":                     "query { a }",
		"query q { a(b: 1) { c } }": "query q { a(b: 1) { c } }",
		"mutation { a }":            "mutation { a }",
		"mutation m { a ... f }":    "mutation m { a ... f }",
		f + "{ a }":                 "query { a }",
		"mutation m { a }" + f + g:  "mutation m { a }",
		f + "query q { b: a @skip(if: $v) { c } }" + g: "query q { b: a @skip(if: $v) { c } }",
		f + g + "{ a }":        "query { a }",
		f + "query f { a }":    "query f { a }",
		"mutation f { a }" + f: "mutation f { a }",
	} {
		op, code := impl.OpOf(wantDocRead(t, text))
		told, printed := impl.PrintDoc(docOf(op))
		if code != impl.OK || printed != impl.OK || told != want {
			t.Errorf("OpOf of %q = %q, %d, want %q", text, told, code, want)
		}
	}
	for text, want := range map[string]int{
		f:                                    impl.ErrNone,
		f + g:                                impl.ErrNone,
		"{ a } { b }":                        impl.ErrMany,
		"{ a } mutation { a }":               impl.ErrMany,
		"mutation { a } mutation { a }":      impl.ErrMany,
		"query q { a } query r { a }":        impl.ErrMany,
		f + "{ a }" + g + "mutation { b }":   impl.ErrMany,
		"{a} {a} {a} {a} {a} {a}":            impl.ErrMany,
		f + h:                                impl.ErrTwice,
		f + f:                                impl.ErrTwice,
		"{ a }" + f + f:                      impl.ErrTwice,
		f + "{ a }" + h:                      impl.ErrTwice,
		f + g + "mutation { a }" + h:         impl.ErrTwice,
		f + "{ a } { b }" + h:                impl.ErrTwice,
		"{ a } mutation { b }" + f + g + g:   impl.ErrTwice,
		strings.Repeat(f, 6):                 impl.ErrTwice,
		"{ a } { b }" + strings.Repeat(g, 4): impl.ErrTwice,
	} {
		if op, code := impl.OpOf(wantDocRead(t, text)); !isZeroDef(op) || code != want {
			t.Errorf("OpOf of %q = %v, %d, want code %d", text, op, code, want)
		}
		wantValid(t, text, want)
	}
}

// cyclicTexts have a fragment that comes to itself, the others none.
func cyclicTexts() (cyclic, others []string) {
	const q = "{ a } "
	cyclic = []string{
		"fragment f on T { ... f }",
		q + "fragment f on T { ... f }",
		q + "fragment f on T { a ... f b }",
		q + "fragment f on T { ... { ... f } }",
		q + "fragment f on T { a { ... f } }",
		q + "fragment f on T { a { b { ... on U { c ... f } } } }",
		q + "fragment f on T { ... f @skip(if: true) }",
		q + "fragment f on T { a @include(if: false) { ... f } }",
		"{ ... f } fragment f on T { ... f }",
		q + "fragment f on T { ... g } fragment g on T { ... f }",
		q + "fragment f on T { a ... { ... g } } fragment g on T { b { ... f } }",
		q + "fragment g on T { ... { b { ... f } } } fragment f on U { ... g }",
		"{ ... f } fragment f on T { ... g } fragment g on T { ... h } fragment h on T { ... g }",
		"fragment f on T { ... g } fragment g on T { ... h } fragment h on T { ... i } fragment i on T { ... j } fragment j on T { ... k } fragment k on T { a { ... f } }",
		"fragment f on T { a } fragment g on T { ... f } fragment h on T { ... g ... i } fragment i on T { ... f ... h }",
		"fragment f on T { ... g ... h } fragment g on T { a } fragment h on T { ... g ... h }",
		"fragment f on T { ... f } fragment f on T { a }",
		"fragment f on T { ... g } fragment g on T { ... f } fragment g on T { a }",
		"fragment f on T { a b c { ... none d { e } ... { a } } ... f }",
		"mutation m { a } fragment m on T { ... m }",
	}
	others = []string{
		"{ a }", "{ ... f }", "{ f } fragment f on T { f }", "{ ... f } fragment f on T { a }", "{ ... f ... f a { ... f } } fragment f on T { a { b } }",
		q + "fragment f on T { ... none }", q + "fragment f on T { f: f { f } ... on f { g } }",
		q + "fragment f on T { ... g ... g } fragment g on T { a { ... h } ... h } fragment h on T { f }",
		q + "fragment h on T { f } fragment g on T { ... { ... h } ... h } fragment f on T { ... g ... h }",
		"fragment f on T { ... g ... h ... i } fragment g on T { ... h ... i } fragment h on T { ... i } fragment i on T { a }",
		"fragment f on T { ... g } fragment g on T { ... h } fragment h on T { ... i } fragment i on T { ... j } fragment j on T { ... k } fragment k on T { a { f g } }",
		"query f { ... f } fragment f on T { a }", "query q { ... q }", "mutation m { ... m ... f } fragment f on T { ... m }",
		// A spread is of the first one of its name.
		"fragment f on T { a } fragment f on T { ... f }",
		"fragment f on T { a } fragment g on T { ... f } fragment f on T { ... g }",
	}
	return cyclic, others
}

// Promise 5: fragments that spread themselves are told.
func TestFragmentsThatSpreadThemselves(t *testing.T) {
	cyclic, others := cyclicTexts()
	for _, text := range cyclic {
		d := wantDocRead(t, text)
		if ok, code := impl.HasCycle(d); !ok || code != impl.OK {
			t.Errorf("HasCycle of %q = %v, %d", text, ok, code)
		}
		k, code := impl.CheckLimits(d)
		wantSecond(t, "CheckLimits", text, k, code, impl.ErrCycle)
		k, code = impl.CheckMerge(d)
		wantSecond(t, "CheckMerge", text, k, code, impl.ErrCycle)
	}
	for _, text := range others {
		d := wantDocRead(t, text)
		if ok, code := impl.HasCycle(d); ok || code != impl.OK {
			t.Errorf("HasCycle of %q = %v, %d", text, ok, code)
		}
		k, code := impl.CheckLimits(d)
		wantCode(t, "CheckLimits", text, k, code, impl.OK)
		k, code = impl.CheckMerge(d)
		wantCode(t, "CheckMerge", text, k, code, impl.OK)
	}
	// In what order the definitions stand does not matter.
	d := wantDocRead(t, "fragment f on T { ... g } fragment g on T { a { ... h } } fragment h on T { ... { ... g } } fragment i on T { ... f }")
	for range 2 * len(d.Defs) {
		d.Defs = append(d.Defs[1:], d.Defs[0])
		if ok, _ := impl.HasCycle(d); !ok {
			t.Error("HasCycle hangs on the order of definitions")
		}
		slices.Reverse(d.Defs)
	}
}

// mergeTexts are sets that merge, and such as do not.
func mergeTexts() (merging, clashing []string) {
	merging = []string{
		"a", "a b", "a a", "a a: a", "b: a b: a", "a b: a", "a: b b: a", "a: b c: b", "a(x: 1) a(x: 1)", "a(x: 1) b: a(x: 2)", "a(x: $v) a(x: $v)", "a(x: null y: true) a(y: true x: null)",
		"a(x: 1 y: 2 z: $v w: false) a(w: false z: $v y: 2 x: 1)", "a(x: 1 x: 2) a(x: 2 x: 1)", "a(x: 1 x: 1) a(x: 1 x: 1)", "a(x: 1 x: true) a(x: true x: 1)", "a(x: $v x: $w) a(x: $w x: $v)", "a(x: 0 x: null x: false) a(x: false x: 0 x: null)",
		"a { b } a { b }", "a { b } a { c }", "a { b: c } a { d: c }", "a { b } b", "b a { b: c }", "a { b } a", "a a { b }", "a { b(x: 1) } b(x: 2)", "a { b: c } b: a { b: d }", "a { a: b } b: a { a: c }",
		"a(x: 1) { b: c } d: a(x: 2) { b: e }", "a @skip(if: true) a", "a @skip(if: true) a @include(if: $v)", "a @skip(if: 1) { b } a { b @include(if: null) }",
		"... { a } a", "... { a } ... { b: a }", "... on T { a } ... on U { a }", "... f", "... f ... f", "... f fa: a", "... f ... g", "... { ... f } ... f", "... none a", "... none ... none",
		"a { ... f } a { ... f }", "a { ... f } a { fa: a }", "a { ... f } fa: b", "... f a { fa: b }", "a { ... { b } } ... { a { b } }", "b { b { b { b } } } b { b { b { c } } }",
		"a { b { c: d } } a { b { e: d } } a { c: d }", "a: b { c } a: b { d } a: b { c d }",
	}
	clashing = []string{
		"a: b a: c", "a: b a", "a a: b", "a b: c b: d", "a: b c d a: e", "a a(x: 1)", "a(x: 1) a", "a(x: 1) a(x: 2)", "a(x: 1) a(y: 1)", "a(x: 1) a(x: $v)", "a(x: $v) a(x: $w)", "a(x: null) a(x: false)", "a(x: true) a(x: false)", "a(x: 1) a(x: true)", "a(x: 0) a(x: null)",
		"a(x: 1) a(x: 1 y: 2)", "a(x: 1 y: 2) a(x: 2 y: 1)", "a(x: 1 x: 1) a(x: 1)", "a(x: 1 x: 1 y: 2) a(x: 1 y: 2 y: 2)", "a(x: 1 x: 2) a(x: 1 x: 1)", "a a a(x: 1)", "a(x: 1) b a(x: 1) c a(x: 2)",
		"a(w: 1 x: 1 y: 1 z: 1) a(w: 1 x: 1 y: 1 z: 2)", "b: a(x: 1) b: a(x: 2)",
		"a { b: c } a { b: d }", "a { b: c b: d }", "a { b } a { b: c }", "a { b(x: 1) } a { b(x: 2) }", "a { b { c: d } } a { b { c: e } }", "a { b { c } } a { b { c(x: 1) } }", "a { b } c a { d } a { e: d e: b }",
		"b { a: b { c: d } } b { a: b { c: e } }", "a { b { b { c } } } a { b { b { c: b } } }", "a { b: c } d { e } a { b } f",
		"a: b @skip(if: true) a: c", "a: b @skip(if: true) a: c @include(if: true)", "a(x: 1) @include(if: false) a(x: 2) @include(if: true)", "a @skip(if: true) { b: c } a { b: d }",
		"... { a } a: b", "a: b ... { a }", "... { a } ... { a: b }", "... on T { a } ... on U { a: b }", "... @skip(if: true) { a } a: b", "... { a { b } } a { b: c }", "... { a { ... { b } } } a { b: c }", "... { ... { ... { a } } } ... { a: b }",
		"... f fa: b", "fa: b ... f", "... f ... { fa: b }", "... g fa: b", "... f @include(if: false) fa: b", "a { ... f } a { fa: b }", "a { ... f } a { ... h }", "... f ... h", "... { ... f } b ... { ... h }", "ga { ... f } ... g", "... g ga { fa: c }", "... g ga { gb { x: y } }",
	}
	return merging, clashing
}

// Promise 5: what is asked under one name otherwise is told.
func TestWhatIsAskedUnderOneName(t *testing.T) {
	const known = " fragment f on T { fa: a } fragment g on U { ... f ga { gb { x } fa: b } } fragment h on T { fa: c }"
	merging, clashing := mergeTexts()
	for _, set := range merging {
		wantMerge(t, "{ "+set+" }"+known, impl.OK)
		wantMerge(t, known+"mutation m { "+set+" }", impl.OK)
		wantMerge(t, "{ z { "+set+" } }"+known, impl.OK)
		wantMerge(t, "{ "+set+" ... { "+set+" } z { "+set+" } }"+known, impl.OK)
		wantMerge(t, "{ z }"+known+" fragment i on T { "+set+" }", impl.OK)
		wantMerge(t, "{ z { "+set+" } z { ... i } }"+known+" fragment i on T { "+set+" }", impl.OK)
	}
	for _, set := range clashing {
		wantMerge(t, "{ "+set+" }"+known, impl.ErrMerge)
		wantMerge(t, known+"mutation m { "+set+" }", impl.ErrMerge)
		wantMerge(t, "{ y z { "+set+" } }"+known, impl.ErrMerge)
		wantMerge(t, "{ y ... { x "+set+" } }"+known, impl.ErrMerge)
		wantMerge(t, "{ y { z { ... { "+set+" } } } }"+known, impl.ErrMerge)
		wantMerge(t, "{ z }"+known+" fragment i on T { "+set+" }", impl.ErrMerge)
		wantMerge(t, "fragment i on T { y { "+set+" } }"+known+"{ z }", impl.ErrMerge)
		wantMerge(t, "{ z }"+known+" { "+set+" }", impl.ErrMerge)
	}
	// Definitions have sets of their own.
	wantMerge(t, "{ a: b } { a: c } mutation { a: d } fragment f on T { a: e } fragment f on T { a: g }", impl.OK)
	wantMerge(t, "{ ... f a: e } { a: c } fragment f on T { a: e } fragment f on T { a: g }", impl.OK)
	wantMerge(t, "{ ... f a: g } fragment f on T { a: e } fragment f on T { a: g }", impl.ErrMerge)
	wantMerge(t, "{ ... f } fragment f on T { ... g b: a } fragment g on T { ... h } fragment h on T { b: a(x: 1) }", impl.ErrMerge)
}

func TestUsedVars(t *testing.T) {
	for text, want := range map[string]string{
		"{ a }": "",
		"{ a(x: 1 y: null z: true) @skip(if: false) { ... f @include(if: 1) } }": "",
		"{ a(x: $v) }":        "v",
		"{ a(x: $v y: $w) }":  "v w",
		"{ a(x: $w y: $v) }":  "w v",
		"{ a(x: $v y: $v) }":  "v",
		"{ a @skip(if: $v) }": "v",
		"{ a @include(if: $v) @skip(if: $w) @include(if: $v) }":                                  "v w",
		"{ a(x: $v) @skip(if: $w) { b(x: $u) } }":                                                "v w u",
		"{ a(x: $v) @skip(if: $v) { b(x: $v) } }":                                                "v",
		"{ a { b(x: $v) { c(x: $w) } } d(x: $u) }":                                               "v w u",
		"{ a @skip(if: $w) { b } c(x: $v) }":                                                     "w v",
		"{ a { b @skip(if: $w) } c @skip(if: $v) d(x: $w) }":                                     "w v",
		"{ ... f @skip(if: $v) }":                                                                "v",
		"{ ... @skip(if: $v) { a(x: $w) } }":                                                     "v w",
		"{ ... on T @include(if: $v) { a @skip(if: $w) } ... f @skip(if: $u) }":                  "v w u",
		"{ a(x: $b) ... f } fragment f on T { a(x: $a) }":                                        "b a",
		"{ ... f a(x: $b) } fragment f on T { a(x: $a) }":                                        "b a",
		"fragment f on T { a(x: $a) } { ... f a(x: $b) }":                                        "a b",
		"{ a(x: $a) } { a(x: $b) } mutation { a(x: $a y: $c) }":                                  "a b c",
		"{ a } fragment f on T { a @skip(if: $z) ... f } fragment f on T { a @include(if: $y) }": "z y",
		"{ a: v(v: 1) { w } ... v } fragment v on v { v: w(x: $x) }":                             "x",
		"{ a(x: $V y: $v z: $vv w: $_) }":                                                        "V v vv _",
		"{ a: b a: b(x: $a) c(x: $true y: $null z: true w: null) }":                              "a true null",
	} {
		got, code := impl.UsedVars(wantDocRead(t, text))
		if strings.Join(got, " ") != want || code != impl.OK || len(got) != len(strings.Fields(want)) {
			t.Errorf("UsedVars of %q = %q, %d, want %q", text, got, code, want)
		}
	}
	// As many variables as a document can have.
	var sels []impl.Sel
	var want []string
	for i := range 60 {
		x := impl.Sel{Kind: impl.SeField, Name: "a"}
		for k := range 8 {
			name := "v" + strings.Repeat("_", 36-i%30) + string(rune('a'+i/30)) + string(rune('a'+k))
			want = append(want, name)
			if k < 4 {
				x.Args = append(x.Args, arg("x", varValue(name)))
			} else {
				x.Dirs = append(x.Dirs, include(varValue(name)))
			}
		}
		sels = append(sels, x)
	}
	if got, code := impl.UsedVars(docWith(sels...)); code != impl.OK || !slices.Equal(got, want) {
		t.Error("UsedVars of all that there may be", len(got), code)
	}
}

// A partFault is a part of a document that has one fault, and its code.
type partFault struct {
	text string
	code int
}

// validFaults stand in the order in which Validate looks for them.
func validFaults() []partFault {
	return []partFault{
		{"fragment p on Node { id } fragment p on Node { id }", impl.ErrTwice},
		{"fragment p on Node { nothing }", impl.ErrField},
		{"fragment p on Node { id ... p }", impl.ErrCycle},
		{"fragment p on Node {" + strings.Repeat(" ... r", 20) + " } fragment r on Node {" + strings.Repeat(" id", 20) + " }", impl.ErrMany},
		{"fragment p on Node { a: id a: value }", impl.ErrMerge},
	}
}

func TestWhichCodeOfValidateComesFirst(t *testing.T) {
	list := validFaults()
	for i, a := range list {
		wantValid(t, "{ size } "+a.text, a.code)
		wantValid(t, a.text+" mutation { set(id: 1 value: 2) { id } }", a.code)
		for _, b := range list[i+1:] {
			other := " " + strings.ReplaceAll(b.text, " p ", " q ") + " "
			wantValid(t, "{ size } "+a.text+other, a.code)
			wantValid(t, "{ size } "+other+a.text, a.code)
			wantValid(t, other+a.text+"mutation m { link(id: 1) { id } }", a.code)
		}
	}
	for text, want := range map[string]int{
		"fragment p on Node { nothing }":                                               impl.ErrNone,
		"{ nothing } { size }":                                                         impl.ErrMany,
		"{ size } mutation { nothing } fragment p on Node { id ... p }":                impl.ErrMany,
		"fragment p on Other { ... p } fragment p on Node { id }":                      impl.ErrTwice,
		"{ a: size a: nothing }":                                                       impl.ErrField,
		"{ a: size a: __typename @skip(if: 1) }":                                       impl.ErrArg,
		"{ a: size a: __typename }":                                                    impl.ErrMerge,
		"{ a: size a: __typename } fragment p on Node { ... p }":                       impl.ErrCycle,
		"{ a: size a: __typename } fragment p on Node { ... p next }":                  impl.ErrLeaf,
		"{ a: size a: __typename } fragment p on Node { ... p } fragment q on Q { a }": impl.ErrFragment,
	} {
		wantValid(t, text, want)
	}
	// Too deep comes where the limits do.
	deep := " fragment f on Node { next { next { next { next { next { next { ... g } } } } } } } fragment g on Node { next { next { next { next { next { next { id } } } } } } }"
	wantValid(t, "{ size }"+deep, impl.ErrDeep)
	wantValid(t, "{ a: size a: __typename }"+deep, impl.ErrDeep)
	wantValid(t, "{ size }"+deep+" fragment h on Node { ... h }", impl.ErrCycle)
	wantValid(t, "{ size { id } }"+deep, impl.ErrLeaf)
	wantValid(t, deep, impl.ErrNone)
}

func TestValidateOfRightDocuments(t *testing.T) {
	for _, text := range []string{
		"{ size }", "query q { __typename }", "{ nodes { id value next { need { id } } plus(by: 3) } size }", "{ node(id: 1) { id } must(id: $x) { ... on Node { value } } }",
		"mutation { set(id: 1 value: 2) { id } add(id: $a by: $b) { value } link(id: 1 to: 2) { next { id } } }", "mutation m { link(id: 1) { __typename } ... on Mutation { l: link(to: null id: 2) { id } } }",
		"{ ... f } fragment f on Query { size nodes { ... g } } fragment g on Node { id @skip(if: $s) ... @include(if: true) { value } }", "{ ... f } fragment f on Query { size } fragment unused on Mutation { set(id: 1 value: 1) { id } }",
		"{ nodes { a: id } n: nodes { a: value } node(id: 1) { plus(by: 1) p: plus(by: 2) } }", "{ node(id: -2147483648) { id } a: node(id: 2147483647) { id } }",
	} {
		wantValid(t, text, impl.OK)
	}
	// Which schema it is asked of matters.
	d := wantDocRead(t, "{ a b(x: 1) { c } }")
	s := schemaOf(typeDef("Query", fieldDef("a", "Int"), listDef("b", "T", may("x"))), typeDef("T", listDef("c", "Int")))
	k, code := impl.Validate(s, d)
	wantCode(t, "Validate", "a schema of its own", k, code, impl.OK)
	k, code = impl.Validate(impl.PlainSchema(), d)
	wantCode(t, "Validate", "the plain schema", k, code, impl.ErrField)
}
