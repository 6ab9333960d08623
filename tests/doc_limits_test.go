package tests

import (
	"math"
	"slices"
	"strings"
	"testing"

	"loop.example/g00540/impl"
)

// Texts of so many sets in one another: by fields, by inline fragments, by both in turn.
func deepTexts(sets int) []string {
	both := ""
	for i := range sets - 1 {
		both += []string{"a {", "... on T {", "b: c(d: 1) @skip(if: 1) {", "... @include(if: 1) {"}[i%4]
	}
	ends := strings.Repeat("}", sets)
	return []string{
		"{" + strings.Repeat("a {", sets-1) + "b" + ends,
		"{" + strings.Repeat("... {", sets-1) + "b" + ends,
		"{" + strings.Repeat("... on T {", sets-1) + "... f" + ends,
		"{" + both + "b" + ends,
		"query q {" + strings.Repeat("b a {", sets-1) + "b" + strings.Repeat("} b", sets-1) + "}",
		"fragment f on T {" + strings.Repeat("... {", sets-1) + "b" + ends,
	}
}

// deepDoc has so many sets in one another, by fields or by inline fragments.
func deepDoc(sets int, kind int) impl.Doc {
	x := field("b")
	for range sets - 1 {
		x = impl.Sel{Kind: kind, Name: "a", Sels: []impl.Sel{x}}
	}
	return docWith(x)
}

func TestDepth(t *testing.T) {
	for sets := 1; sets <= 9; sets++ {
		for _, text := range deepTexts(sets) {
			if sets > impl.MaxDeep {
				wantNoDoc(t, text, impl.ErrDeep)
				continue
			}
			d := wantDocRead(t, text)
			if n, code := impl.DocDepth(d); n != sets || code != impl.OK {
				t.Errorf("DocDepth of %q = %d, %d", text, n, code)
			}
		}
		for _, kind := range []int{impl.SeField, impl.SeInline} {
			d := deepDoc(sets, kind)
			n, code := impl.DocDepth(d)
			if sets > impl.MaxDeep {
				wantBad(t, d)
			} else if n != sets || code != impl.OK || !impl.DocOK(d) {
				t.Errorf("DocDepth of %d sets of kind %d = %d, %d", sets, kind, n, code)
			}
		}
	}
	if n, _ := impl.DocDepth(docOf(query("", field("a")), query("", field("a", field("b", field("c")))), query("", field("a", field("b"))))); n != 3 {
		t.Error("DocDepth is not of the deepest definition", n)
	}
	if n, _ := impl.DocDepth(docWith(field("a", field("b", field("c"))), field("d", field("e")))); n != 3 {
		t.Error("DocDepth is not of the deepest selection", n)
	}
	wantNoDoc(t, strings.Repeat("{a", 2000), impl.ErrDeep)
	wantNoDoc(t, strings.Repeat("...{", 1000), impl.ErrForm)
	wantNoDoc(t, "{"+strings.Repeat("...{", 1000), impl.ErrDeep)
}

// Which of a set too deep and a fault of form comes first gives the code.
func TestDepthAndForm(t *testing.T) {
	down := "{" + strings.Repeat("a {", 6)
	for _, text := range []string{
		down + "a {", down + "a {}", down + "a { 1", down + "a {{", down + "a { b }", down + "a { b } 1", down + "a {]", down + "... {", down + "... on T {", down + "... @skip(if: 1) { )",
		down + "b a(c: 1) {", down + "b } a { b a {", down + "b } } a { a { a {", "{ a } " + down + "a {", down + "b }}}}}}} " + down + "a {", down + "b: a @include(if: $c) { query",
		"query q " + down + "a {", "fragment f on T " + down + "... on on { :",
	} {
		wantNoDoc(t, text, impl.ErrDeep)
	}
	for _, text := range []string{
		"1 " + down + "a {", "} " + down + "a {", "query q r " + down + "a {", "fragment on on T " + down + "a {", "fragment f " + down + "a {", "other " + down + "a {",
		"{ : " + down + "a {", "{ 1 " + strings.Repeat("a {", 7), down + "{", down + "1 {", down + "a: {", down + "a() {", down + "a(b: {", down + "a(b: 1 {", down + "a @skip {", down + "a @other(if: 1) {", down + "a @skip(if: 1 {",
		down + "... f {", down + "... on {", down + "... f @skip(if: 1) {", down + "} a {", down + "b } {", down + "b }}}}}}}} " + down + "a {", "{ a } b " + down + "a {",
		down + "a } } } } } } } } " + down + "a {", down + "a", down + "b }}}}}} a(b: c) " + strings.Repeat("{ a", 8), "{ a {} " + strings.Repeat("a {", 8), "{ ... f { a " + strings.Repeat("{ a", 8),
	} {
		wantNoDoc(t, text, impl.ErrForm)
	}
	// What is no token is told ahead of all that is read of the tokens.
	wantNoDoc(t, down+"a { a %", impl.ErrForm)
	wantNoDoc(t, down+"a { 01", impl.ErrForm)
	// Too deep, or of no form, comes ahead of too many.
	wantNoDoc(t, "{"+strings.Repeat("a ", 61)+down[1:]+"a {", impl.ErrDeep)
	wantNoDoc(t, strings.Repeat("{a}", 7)+down+"a { a", impl.ErrDeep)
	wantNoDoc(t, "{"+strings.Repeat("a ", 61)+"a {}", impl.ErrForm)
	wantNoDoc(t, "{"+strings.Repeat("a ", 61), impl.ErrForm)
	wantNoDoc(t, strings.Repeat("{a}", 7)+"a", impl.ErrForm)
	wantNoDoc(t, "{ a(b: 1 c: 1 d: 1 e: 1 f: 1 g) }", impl.ErrForm)
}

func TestLimitsOfTexts(t *testing.T) {
	dirs := func(n int) string { return strings.Repeat("@skip(if: 1) ", n) }
	args := func(n int) string { return "(" + strings.Repeat("b: 1 ", n) + ")" }
	sels := func(n int) string { return "{" + strings.Repeat("a ", n) + "}" }
	for _, text := range []string{
		sels(60), sels(20) + sels(20) + sels(20), sels(1) + sels(59), "mutation " + sels(60), "fragment f on T " + sels(60), sels(55) + strings.Repeat(sels(1), 5),
		"{ a" + sels(58) + " a }", "{ ..." + sels(59) + "}", "{" + strings.Repeat("... f ", 60) + "}", "{" + strings.Repeat("... { a } ", 30) + "}", "{" + strings.Repeat("a { a { a } } ", 20) + "}",
		strings.Repeat(sels(1), 6), strings.Repeat("fragment f on T {a}", 6), "{ a" + args(1) + " }", "{ a" + args(4) + " }", "{" + strings.Repeat("a"+args(4), 60) + "}",
		"{ a " + dirs(4) + "}", "{ ... f " + dirs(4) + "}", "{ ... " + dirs(4) + "{ a } }", "{ ... on T " + dirs(4) + "{ a } }", "{" + strings.Repeat("a "+dirs(4), 60) + "}", "{ a" + args(4) + dirs(4) + sels(59) + "}",
	} {
		wantDocRead(t, text)
	}
	for _, text := range []string{
		sels(61), sels(62), sels(3999 - 1), sels(20) + sels(20) + sels(21), sels(60) + sels(1), "mutation " + sels(61), "fragment f on T " + sels(61), sels(56) + strings.Repeat(sels(1), 5),
		"{ a" + sels(59) + " a }", "{ ..." + sels(60) + "}", "{" + strings.Repeat("... f ", 61) + "}", "{" + strings.Repeat("... { a } ", 30) + "a }", "{" + strings.Repeat("a { a { a } } ", 20) + "a }",
		strings.Repeat(sels(1), 7), strings.Repeat(sels(1), 1000), strings.Repeat("fragment f on T {a}", 7), "{ a" + args(5) + " }", "{ a" + args(1000) + " }", "{ a b { c" + args(5) + " } }",
		"{ a " + dirs(5) + "}", "{ ... f " + dirs(5) + "}", "{ ... " + dirs(5) + "{ a } }", "{ ... on T " + dirs(5) + "{ a } }", "{ a { b " + dirs(500) + "} }", "{ a }" + "{ a " + dirs(5) + "}",
	} {
		wantNoDoc(t, text, impl.ErrMany)
	}
}

func TestCodesOfTokensComeFirst(t *testing.T) {
	deep := strings.Repeat("{a", 8)
	wantNoDoc(t, strings.Repeat("{", impl.MaxText+1), impl.ErrLong)
	wantNoDoc(t, "%"+strings.Repeat(" ", impl.MaxText), impl.ErrLong)
	wantNoDoc(t, deep+strings.Repeat(" ", impl.MaxText), impl.ErrLong)
	wantNoDoc(t, "{a}"+strings.Repeat(" ", impl.MaxText-2), impl.ErrLong)
	wantDoc(t, "{a}"+strings.Repeat(" ", impl.MaxText-3), docWith(field("a")))
	wantDoc(t, "#"+strings.Repeat("%", impl.MaxText-5)+"\n{a}", docWith(field("a")))
	wantNoDoc(t, strings.Repeat("{ ", 4001), impl.ErrMany)
	wantNoDoc(t, strings.Repeat("{ ", 4000), impl.ErrForm)
	wantNoDoc(t, strings.Repeat("} ", 4001), impl.ErrMany)
	wantNoDoc(t, strings.Repeat("} ", 4000), impl.ErrForm)
	wantNoDoc(t, strings.Repeat("a ", 4000)+"%", impl.ErrForm)
	wantNoDoc(t, strings.Repeat("a ", 4001)+"%", impl.ErrMany)
	wantNoDoc(t, deep+strings.Repeat(" a", 3984), impl.ErrDeep)
	wantNoDoc(t, deep+strings.Repeat(" a", 3985), impl.ErrMany)
	wantNoDoc(t, deep+" $", impl.ErrForm)
	wantNoDoc(t, "{"+strings.Repeat("a ", 100)+"} %", impl.ErrForm)
	wantNoDoc(t, "{ "+strings.Repeat("n", 41)+" }", impl.ErrForm)
	long := strings.Repeat("n", 40)
	toldDoc{docOf(fragment(long, long, impl.Sel{Kind: impl.SeField, Alias: long, Name: long, Args: []impl.Arg{arg(long, varValue(long))}}, spread(long), inline(long, field(long)))),
		"fragment " + long + " on " + long + " { " + long + ": " + long + "(" + long + ": $" + long + ") ... " + long + " ... on " + long + " { " + long + " } }", nil}.check(t)
}

// The greatest right document that there is, by its text: all names are long, all lists full.
func TestTheGreatestDocumentIsReadBack(t *testing.T) {
	long := strings.Repeat("W", 40)
	full := impl.Sel{Kind: impl.SeField, Alias: long, Name: long, Args: slices.Repeat([]impl.Arg{arg(long, varValue(long))}, 4), Dirs: slices.Repeat([]impl.Dir{include(varValue(long))}, 4)}
	for _, d := range []impl.Doc{
		docOf(slices.Repeat([]impl.Def{fragment(long, long, slices.Repeat([]impl.Sel{full}, 10)...)}, 6)...),
		docWith(slices.Repeat([]impl.Sel{full}, 60)...),
	} {
		text, code := impl.PrintDoc(d)
		if code != impl.OK || len(text) > impl.MaxText {
			t.Fatal("PrintDoc", len(text), code)
		}
		wantDoc(t, text, d)
	}
}

func wantBad(t *testing.T, d impl.Doc) {
	t.Helper()
	if impl.DocOK(d) {
		t.Errorf("DocOK of a document that is not right = true")
	}
	if text, code := impl.PrintDoc(d); text != "" || code != impl.ErrBad {
		t.Errorf("PrintDoc of a document that is not right = %.60q, %d", text, code)
	}
	if n, code := impl.DocDepth(d); n != 0 || code != impl.ErrBad {
		t.Errorf("DocDepth of a document that is not right = %d, %d", n, code)
	}
	if n, code := impl.DocSize(d); n != 0 || code != impl.ErrBad {
		t.Errorf("DocSize of a document that is not right = %d, %d", n, code)
	}
	for _, name := range []string{"f", "none", "", "on"} {
		if f, code := impl.FragmentOf(d, name); !isZeroDef(f) || code != impl.ErrBad {
			t.Errorf("FragmentOf(%q) of a document that is not right = %v, %d", name, f, code)
		}
	}
	right := docWith(field("a"))
	if impl.SameDoc(d, d) || impl.SameDoc(d, right) || impl.SameDoc(right, d) {
		t.Errorf("SameDoc of a document that is not right = true")
	}
}

func isZeroDef(f impl.Def) bool {
	return f.Kind == 0 && f.Name == "" && f.On == "" && len(f.Sels) == 0
}

func wrongNames() []string {
	return []string{"9", "a b", "$a", "é", "a.", "\x00", " ", strings.Repeat("n", 41), strings.Repeat("n", impl.MaxText+1)}
}

func wrongSels() []impl.Sel {
	list := []impl.Sel{
		{}, {Name: "a"}, {Kind: 4, Name: "a"}, {Kind: -1, Name: "a"}, {Kind: math.MinInt, Name: "a"}, {Kind: math.MaxInt, Name: "a", Sels: fields(1)},
		field(""), field("", field("a")), {Kind: impl.SeField, Alias: "a"}, spread(""), spread("on"),
		{Kind: impl.SeSpread, Name: "f", Alias: "a"}, {Kind: impl.SeSpread, Name: "f", Alias: "f"}, {Kind: impl.SeSpread, Name: "f", Sels: fields(1)}, {Kind: impl.SeSpread, Name: "f", Args: []impl.Arg{arg("a", yes)}},
		inline(""), inline("T"), {Kind: impl.SeInline, Alias: "a", Sels: fields(1)}, {Kind: impl.SeInline, Name: "T", Alias: "a", Sels: fields(1)}, {Kind: impl.SeInline, Name: "T", Args: []impl.Arg{arg("a", yes)}, Sels: fields(1)},
		fieldWith(slices.Repeat([]impl.Arg{arg("b", yes)}, 5)...), fieldWith(arg("", yes)), fieldWith(arg("b", yes), arg("", yes)),
	}
	for _, x := range []impl.Sel{field("a"), spread("f"), inline("", field("a")), inline("T", field("a"))} {
		x.Dirs = slices.Repeat([]impl.Dir{skip(yes)}, 5)
		list = append(list, x)
		for _, v := range wrongValues() {
			x.Dirs = []impl.Dir{include(yes), include(v)}
			list = append(list, x)
			x.Dirs = []impl.Dir{skip(v)}
			list = append(list, x)
		}
	}
	for _, v := range wrongValues() {
		list = append(list, fieldWith(arg("b", v)), fieldWith(arg("b", yes), arg("c", v)))
	}
	for _, name := range wrongNames() {
		list = append(list, field(name), spread(name), inline(name, field("a")), fieldWith(arg(name, yes)), impl.Sel{Kind: impl.SeField, Alias: name, Name: "a"})
	}
	return list
}

func wrongDefs() []impl.Def {
	list := []impl.Def{
		{}, {Kind: impl.DeQuery}, {Kind: impl.DeMutation, Name: "m"}, fragment("f", "T"), {Sels: fields(1)}, {Kind: 4, Sels: fields(1)}, {Kind: -1, Sels: fields(1)}, {Kind: math.MaxInt, Name: "f", On: "T", Sels: fields(1)},
		{Kind: impl.DeQuery, On: "T", Sels: fields(1)}, {Kind: impl.DeMutation, Name: "m", On: "T", Sels: fields(1)}, fragment("", "T", field("a")), fragment("f", "", field("a")), fragment("on", "T", field("a")), fragment("", "", field("a")),
	}
	for _, name := range wrongNames() {
		list = append(list, query(name, field("a")), mutation(name, field("a")), fragment(name, "T", field("a")), fragment("f", name, field("a")), impl.Def{Kind: impl.DeQuery, On: name, Sels: fields(1)})
	}
	return list
}

func TestDocumentsThatAreNotRight(t *testing.T) {
	wantBad(t, impl.Doc{})
	wantBad(t, impl.Doc{Defs: []impl.Def{}})
	f := fragment("f", "T", field("a"))
	for _, x := range wrongSels() {
		wantBad(t, docWith(x))
		wantBad(t, docWith(field("a"), field("b", field("c"), x)))
		wantBad(t, docOf(f, query("", inline("", x))))
	}
	for _, d := range wrongDefs() {
		wantBad(t, docOf(d))
		wantBad(t, docOf(f, d))
		wantBad(t, docOf(d, f))
	}
	for _, d := range []impl.Doc{
		docOf(slices.Repeat([]impl.Def{f}, 7)...), docOf(slices.Repeat([]impl.Def{f}, 5000)...), docWith(fields(61)...), docOf(query("", fields(60)...), f), docOf(f, query("", fields(60)...)),
		docWith(field("a", fields(60)...)), docWith(append(fields(1), inline("", fields(59)...))...), docWith(fields(5000)...), docOf(query("", fields(10)...), query("", fields(51)...)),
		docWith(fieldWith(slices.Repeat([]impl.Arg{arg("b", yes)}, 5000)...)),
	} {
		wantBad(t, d)
	}
	for _, d := range []impl.Doc{
		docOf(slices.Repeat([]impl.Def{f}, 6)...), docWith(fields(60)...), docOf(f, query("", fields(59)...)), docOf(slices.Repeat([]impl.Def{query("", fields(10)...)}, 6)...), docWith(field("a", fields(59)...)),
		docWith(fieldWith(slices.Repeat([]impl.Arg{arg("b", yes)}, 4)...)), docWith(impl.Sel{Kind: impl.SeInline, Dirs: slices.Repeat([]impl.Dir{skip(no)}, 4), Sels: fields(58)}),
	} {
		if text, code := impl.PrintDoc(d); code != impl.OK || !impl.DocOK(d) {
			t.Error("a full document is not right", code)
		} else {
			wantDoc(t, text, d)
		}
	}
}

// endlessSets hold themselves, or stand in one another beyond all bounds.
func endlessSets() [][]impl.Sel {
	ring := []impl.Sel{field("a"), field("b")}
	ring[1].Sels = ring
	twins := make([]impl.Sel, 1)
	twins[0] = inline("T", twins...)
	twins[0].Sels = twins
	wide := fields(1)
	for range 100 {
		wide = []impl.Sel{field("a", wide...), field("b", wide...)}
	}
	deep := field("b")
	for range 200000 {
		deep = impl.Sel{Kind: impl.SeField, Name: "a", Sels: []impl.Sel{deep}}
	}
	spreads := []impl.Sel{spread("f")}
	spreads[0].Sels = spreads
	return [][]impl.Sel{ring, twins, wide, {deep}, spreads}
}

// sharingSet is of few lists in memory, seven in one another, but of 4008 selections.
func sharingSet() []impl.Sel {
	few := fields(4)
	for range 6 {
		few = []impl.Sel{field("a", few...), inline("", few...), field("b", few...)}
	}
	return few
}

// endlessDocs have lists that hold themselves, or share memory so that they are too great to be gone through.
func endlessDocs() []impl.Doc {
	docs := []impl.Doc{docWith(sharingSet()...)}
	sets := endlessSets()
	for _, set := range sets {
		docs = append(docs, docWith(set...))
	}
	ring, wide := sets[0], sets[2]
	return append(docs,
		docOf(fragment("f", "T", field("a")), fragment("g", "T", ring...)), docOf(slices.Repeat([]impl.Def{query("", wide...)}, 6)...),
		docWith(slices.Repeat(ring, 20000)...), docOf(slices.Repeat([]impl.Def{query("", ring...)}, 20000)...))
}

func TestEndlessDocuments(t *testing.T) {
	docs := endlessDocs()
	for _, d := range docs {
		wantBad(t, d)
		for _, e := range docs {
			if impl.SameDoc(d, e) || impl.SameDoc(e, d) {
				t.Error("SameDoc of endless documents")
			}
		}
	}
}
