package tests

import (
	"math"
	"math/rand"
	"reflect"
	"slices"
	"strconv"
	"strings"
	"testing"

	"loop.example/g00540/impl"
)

func intValue(n int) impl.Value    { return impl.Value{Kind: impl.VaInt, N: n} }
func varValue(t string) impl.Value { return impl.Value{Kind: impl.VaVar, T: t} }

var (
	yes  = impl.Value{Kind: impl.VaBool, N: 1}
	no   = impl.Value{Kind: impl.VaBool}
	null = impl.Value{Kind: impl.VaNull}
)

func arg(name string, v impl.Value) impl.Arg { return impl.Arg{Name: name, Value: v} }
func skip(v impl.Value) impl.Dir             { return impl.Dir{Skip: true, If: v} }
func include(v impl.Value) impl.Dir          { return impl.Dir{If: v} }

func field(name string, sels ...impl.Sel) impl.Sel {
	return impl.Sel{Kind: impl.SeField, Name: name, Sels: sels}
}

func spread(name string, dirs ...impl.Dir) impl.Sel {
	return impl.Sel{Kind: impl.SeSpread, Name: name, Dirs: dirs}
}

func inline(on string, sels ...impl.Sel) impl.Sel {
	return impl.Sel{Kind: impl.SeInline, Name: on, Sels: sels}
}

func query(name string, sels ...impl.Sel) impl.Def {
	return impl.Def{Kind: impl.DeQuery, Name: name, Sels: sels}
}

func mutation(name string, sels ...impl.Sel) impl.Def {
	return impl.Def{Kind: impl.DeMutation, Name: name, Sels: sels}
}

func fragment(name, on string, sels ...impl.Sel) impl.Def {
	return impl.Def{Kind: impl.DeFragment, Name: name, On: on, Sels: sels}
}

func docOf(defs ...impl.Def) impl.Doc     { return impl.Doc{Defs: defs} }
func docWith(sels ...impl.Sel) impl.Doc   { return docOf(query("", sels...)) }
func fields(n int) []impl.Sel             { return slices.Repeat([]impl.Sel{field("a")}, n) }
func textWith(inside string) string       { return "{ " + inside + " }" }
func fieldWith(args ...impl.Arg) impl.Sel { return impl.Sel{Kind: impl.SeField, Name: "a", Args: args} }

// A toldDoc is a document, its text, and other texts of it.
type toldDoc struct {
	doc  impl.Doc
	text string
	also []string
}

func (c toldDoc) check(t *testing.T) {
	t.Helper()
	if !impl.DocOK(c.doc) {
		t.Errorf("DocOK of %q = false", c.text)
	}
	if text, code := impl.PrintDoc(c.doc); text != c.text || code != impl.OK {
		t.Errorf("PrintDoc = %q, %d, want %q", text, code, c.text)
	}
	for _, source := range append(c.also, c.text) {
		wantDoc(t, source, c.doc)
	}
}

// tidied has nil for empty lists, which are the same, so that DeepEqual holds documents against each other.
func tidied(d impl.Doc) impl.Doc {
	var sels func(list []impl.Sel) []impl.Sel
	sels = func(list []impl.Sel) []impl.Sel {
		var out []impl.Sel
		for _, x := range list {
			x.Args = append([]impl.Arg(nil), x.Args...)
			x.Dirs = append([]impl.Dir(nil), x.Dirs...)
			x.Sels = sels(x.Sels)
			out = append(out, x)
		}
		return out
	}
	var out impl.Doc
	for _, f := range d.Defs {
		f.Sels = sels(f.Sels)
		out.Defs = append(out.Defs, f)
	}
	return out
}

func wantDoc(t *testing.T, text string, want impl.Doc) {
	t.Helper()
	got, code := impl.ParseDoc(text)
	if code != impl.OK || !reflect.DeepEqual(tidied(got), tidied(want)) {
		t.Errorf("ParseDoc(%.80q) = %v, %d, want %v", text, got, code, want)
		return
	}
	if !impl.DocOK(got) || !impl.SameDoc(got, want) || !impl.SameDoc(want, got) {
		t.Errorf("SameDoc of what is read from %.80q = false", text)
	}
}

func wantNoDoc(t *testing.T, text string, want int) {
	t.Helper()
	got, code := impl.ParseDoc(text)
	if code != want || len(got.Defs) != 0 {
		t.Errorf("ParseDoc(%.80q) = %v, code %d, want code %d", text, got, code, want)
	}
}

func TestConstantsOfDocuments(t *testing.T) {
	got := []int{
		impl.VaInt, impl.VaBool, impl.VaNull, impl.VaVar, impl.SeField, impl.SeSpread, impl.SeInline,
		impl.DeQuery, impl.DeMutation, impl.DeFragment, impl.MaxDeep, impl.MaxSels,
	}
	if !slices.Equal(got, []int{1, 2, 3, 4, 1, 2, 3, 1, 2, 3, 7, 60}) {
		t.Error("constants", got)
	}
}

func rightValues() []impl.Value {
	return []impl.Value{
		intValue(0), intValue(7), intValue(-1), intValue(2147483647), intValue(-2147483648), yes, no, null,
		varValue("a"), varValue("_9"), varValue("true"), varValue("on"), varValue(strings.Repeat("v", 40)),
	}
}

func wrongValues() []impl.Value {
	return []impl.Value{
		{}, {Kind: 5}, {Kind: -1}, {Kind: math.MinInt}, {N: 1}, {T: "a"}, {Kind: 5, T: "a"},
		intValue(2147483648), intValue(-2147483649), intValue(math.MaxInt), intValue(math.MinInt), {Kind: impl.VaInt, T: "a"}, {Kind: impl.VaInt, N: 1, T: "1"},
		{Kind: impl.VaBool, N: 2}, {Kind: impl.VaBool, N: -1}, {Kind: impl.VaBool, N: math.MinInt}, {Kind: impl.VaBool, N: 1, T: "true"}, {Kind: impl.VaBool, T: "a"},
		{Kind: impl.VaNull, N: 1}, {Kind: impl.VaNull, N: -1}, {Kind: impl.VaNull, T: "null"},
		varValue(""), varValue("9"), varValue("$a"), varValue("a b"), varValue(strings.Repeat("v", 41)), varValue(strings.Repeat("v", impl.MaxText+1)), {Kind: impl.VaVar, N: 1, T: "a"},
	}
}

func TestValueOK(t *testing.T) {
	for _, v := range rightValues() {
		if !impl.ValueOK(v) {
			t.Errorf("ValueOK(%v) = false", v)
		}
	}
	for _, v := range wrongValues() {
		if impl.ValueOK(v) {
			t.Errorf("ValueOK(%.60v) = true", v)
		}
	}
}

func TestDefinitionsAreReadBack(t *testing.T) {
	for _, c := range []toldDoc{
		{docOf(query("", field("a"))), "query { a }", []string{"{a}", "{ a }", "query{a}", ",{#x\na,},", "\t{\r\na}"}},
		{docOf(query("q", field("a"))), "query q { a }", []string{"query q{a}", "query,q,{a}"}},
		{docOf(mutation("", field("a"))), "mutation { a }", []string{"mutation{a}"}},
		{docOf(mutation("m", field("a"))), "mutation m { a }", []string{"mutation#\nm{a}"}},
		{docOf(fragment("f", "T", field("a"))), "fragment f on T { a }", []string{"fragment f on T{a}"}},
		{docOf(query("", field("a")), query("", field("b"))), "query { a } query { b }", []string{"{a}{b}", "{a}query{b}", "query{a}{b}"}},
		{docOf(fragment("f", "T", field("a")), query("", field("b")), mutation("", field("c"))), "fragment f on T { a } query { b } mutation { c }", []string{"fragment f on T{a}{b}mutation{c}"}},
		{docOf(query("q", field("a")), query("q", field("a")), fragment("q", "q", field("a")), fragment("q", "q", field("a"))), "query q { a } query q { a } fragment q on q { a } fragment q on q { a }", nil},
	} {
		c.check(t)
	}
}

func TestSelectionsAreReadBack(t *testing.T) {
	aliased := func(alias, name string) impl.Sel {
		return impl.Sel{Kind: impl.SeField, Alias: alias, Name: name}
	}
	whole := impl.Sel{Kind: impl.SeField, Alias: "x", Name: "y", Args: []impl.Arg{arg("p", intValue(-1)), arg("q", varValue("v"))}, Dirs: []impl.Dir{skip(yes), include(no)}, Sels: []impl.Sel{field("z")}}
	guarded := impl.Sel{Kind: impl.SeInline, Name: "T", Dirs: []impl.Dir{skip(null)}, Sels: []impl.Sel{field("a")}}
	bare := impl.Sel{Kind: impl.SeInline, Dirs: []impl.Dir{include(varValue("v")), skip(intValue(1))}, Sels: []impl.Sel{field("a")}}
	for inside, sels := range map[string][]impl.Sel{
		"a":                              {field("a")},
		"a b":                            {field("a"), field("b")},
		"a a":                            {field("a"), field("a")},
		"a: b":                           {aliased("a", "b")},
		"a: b c: d e":                    {aliased("a", "b"), aliased("c", "d"), field("e")},
		"a b: c":                         {field("a"), aliased("b", "c")},
		"a: a":                           {aliased("a", "a")},
		"a { b }":                        {field("a", field("b"))},
		"a { b } c { d { e } f }":        {field("a", field("b")), field("c", field("d", field("e")), field("f"))},
		"a(b: 1)":                        {fieldWith(arg("b", intValue(1)))},
		"a(b: 1 b: 1)":                   {fieldWith(arg("b", intValue(1)), arg("b", intValue(1)))},
		"... f":                          {spread("f")},
		"... f a":                        {spread("f"), field("a")},
		"... f a: b":                     {spread("f"), aliased("a", "b")},
		"... f ... g":                    {spread("f"), spread("g")},
		"... f @skip(if: $a)":            {spread("f", skip(varValue("a")))},
		"... f @include(if: 1) a":        {spread("f", include(intValue(1))), field("a")},
		"... on T { a }":                 {inline("T", field("a"))},
		"... { a }":                      {inline("", field("a"))},
		"... { ... { a } } b":            {inline("", inline("", field("a"))), field("b")},
		"... on T { ... on T { a } }":    {inline("T", inline("T", field("a")))},
		"... on T @skip(if: null) { a }": {guarded},
		"... @include(if: $v) @skip(if: 1) { a }":                       {bare},
		"x: y(p: -1 q: $v) @skip(if: true) @include(if: false) { z }":   {whole},
		"x: y(p: -1 q: $v) @skip(if: true) @include(if: false) { z } z": {whole, field("z")},
	} {
		toldDoc{docWith(sels...), "query { " + inside + " }", []string{textWith(inside)}}.check(t)
		closed := "query{" + strings.NewReplacer(": ", ":", " {", "{", "{ ", "{", " }", "}", "... ", "...", " @", "@").Replace(inside) + "}"
		wantDoc(t, closed, docWith(sels...))
		if tokens, code := impl.Lex(inside); code == impl.OK {
			apart := ""
			for _, k := range tokens {
				told, _ := impl.TokenText(k)
				apart += "\t,#{\n" + told + " "
			}
			wantDoc(t, "{"+apart+"}", docWith(sels...))
		}
	}
}

func TestValuesAreReadBack(t *testing.T) {
	texts := map[string]impl.Value{
		"0": intValue(0), "1": intValue(1), "-1": intValue(-1), "2147483647": intValue(2147483647), "-2147483648": intValue(-2147483648),
		"true": yes, "false": no, "null": null, "$a": varValue("a"), "$null": varValue("null"), "$on": varValue("on"), "$_": varValue("_"),
	}
	for text, v := range texts {
		toldDoc{docWith(fieldWith(arg("x", v))), "query { a(x: " + text + ") }", nil}.check(t)
		toldDoc{docWith(spread("f", skip(v))), "query { ... f @skip(if: " + text + ") }", nil}.check(t)
		toldDoc{docWith(spread("f", include(v), skip(v))), "query { ... f @include(if: " + text + ") @skip(if: " + text + ") }", nil}.check(t)
	}
	for _, text := range []string{"a", "True", "TRUE", "nul", "nulls", "on", "if", "{", "}", "(", ")", "[", "]", ":", "!", "@", "...", "", "1 2", "$a $b", "[1]", "-", "$", "2147483648", "01", "true false", "\"a\"", "1.5"} {
		wantNoDoc(t, "{ a(x: "+text+") }", impl.ErrForm)
		wantNoDoc(t, "{ a @skip(if: "+text+") }", impl.ErrForm)
	}
}

// languageWords may stand as names wherever no rule says that they do not.
var languageWords = []string{"on", "query", "mutation", "fragment", "true", "false", "null", "skip", "include", "if"}

func TestWordsOfTheLanguageAsNames(t *testing.T) {
	for _, w := range languageWords {
		toldDoc{docOf(query(w, field(w))), "query " + w + " { " + w + " }", nil}.check(t)
		toldDoc{docOf(mutation(w, field(w))), "mutation " + w + " { " + w + " }", nil}.check(t)
		toldDoc{docOf(fragment("f", w, field(w))), "fragment f on " + w + " { " + w + " }", nil}.check(t)
		toldDoc{docWith(impl.Sel{Kind: impl.SeField, Alias: w, Name: w}), "query { " + w + ": " + w + " }", nil}.check(t)
		toldDoc{docWith(fieldWith(arg(w, varValue(w)))), "query { a(" + w + ": $" + w + ") }", nil}.check(t)
		toldDoc{docWith(field(w, field(w), field(w))), "query { " + w + " { " + w + " " + w + " } }", nil}.check(t)
		toldDoc{docWith(inline(w, field(w))), "query { ... on " + w + " { " + w + " } }", nil}.check(t)
		if w != "on" {
			toldDoc{docWith(spread(w)), "query { ... " + w + " }", nil}.check(t)
			toldDoc{docOf(fragment(w, "T", field("a"))), "fragment " + w + " on T { a }", nil}.check(t)
		}
		if w != "skip" && w != "include" {
			wantNoDoc(t, "{ a @"+w+"(if: 1) }", impl.ErrForm)
		}
		if w != "if" {
			wantNoDoc(t, "{ a @skip("+w+": 1) }", impl.ErrForm)
		}
		if w != "query" && w != "mutation" {
			wantNoDoc(t, w+" { a }", impl.ErrForm)
			wantNoDoc(t, w+" x { a }", impl.ErrForm)
		}
		if w != "fragment" {
			wantNoDoc(t, w+" f on T { a }", impl.ErrForm)
		}
		if w != "on" {
			wantNoDoc(t, "fragment f "+w+" T { a }", impl.ErrForm)
			wantDoc(t, "{ ... "+w+" T { a } }", docWith(spread(w), field("T", field("a"))))
		}
	}
	for _, text := range []string{
		"{ ... on }", "{ ... on a }", "{ ... on on }", "{ ... on { a } }", "{ ... on @skip(if: 1) { a } }", "{ ... on : a }", "{ ... on T }", "{ ... on T @skip(if: 1) }",
		"fragment on on T { a }", "fragment on T { a }", "fragment on { a }", "fragment f on { a }", "fragment f { a }", "fragment { a }", "fragment f on T U { a }", "fragment f g on T { a }",
	} {
		wantNoDoc(t, text, impl.ErrForm)
	}
}

func TestTextsOfNoDocument(t *testing.T) {
	for _, text := range []string{
		"", " ", "#{a}", ",", "{", "}", "{}", "{ }", "a", "query", "query q", "query q {", "query {}", "query q r { a }", "query: q { a }", "q { a }", "1 { a }", "$a { a }", "... f", "@skip(if: 1) { a }",
		"query @skip(if: 1) { a }", "query q(a: 1) { b }", "query($a: Int) { b }", "{ a } b", "{ a } }", "{ a } ...", "{ a } 1", "{ a } query", "{{ a }}", "{ { a } }", "{ a {} }", "{ a { } }", "{ a } {}",
		"{ : a }", "{ a : }", "{ a : b : c }", "{ a : 1 }", "{ 1 }", "{ $a }", "{ 1: a }", "{ a: $b }", "{ a: ... f }", "{ a: { b } }", "{ ! }", "{ [ a ] }", "{ a! }", "{ a: b! }",
		"{ a() }", "{ a(b) }", "{ a(b:) }", "{ a(:1) }", "{ a(1) }", "{ a(b: c: 1) }", "{ a(b 1) }", "{ a(b: 1 }", "{ a(b: 1 c) }", "{ a(b: 1)(c: 1) }", "{ (b: 1) }", "{ a(1: 1) }", "{ a($b: 1) }", "{ a(b: { c: 1 }) }", "{ a(b: 1 @skip(if: 1)) }",
		"{ a @ }", "{ a @skip }", "{ a @skip() }", "{ a @skip(if) }", "{ a @skip(if:) }", "{ a @skip(if 1) }", "{ a @skip(if: 1 }", "{ a @skip(if: 1 if: 1) }", "{ a @skip(if: 1, x: 2) }", "{ a @Skip(if: 1) }", "{ a @skipp(if: 1) }", "{ a @includes(if: 1) }", "{ a @1(if: 1) }", "{ a @(if: 1) }", "{ a skip(if: 1) @ }", "{ @skip(if: 1) }", "{ @skip(if: 1) a }", "{ a @@skip(if: 1) }", "{ a @skip @skip(if: 1) }",
		"{ a { b } @skip(if: 1) }", "{ a { b } (c: 1) }", "{ a @skip(if: 1) (c: 1) }", "{ a { b } { c } }", "{ a(b: 1): c }", "{ a @skip(if: 1): c }",
		"{ ... }", "{ ... 1 }", "{ ... $a }", "{ ... ... f }", "{ ... f { a } }", "{ ... f(a: 1) }", "{ ... f: a }", "{ ... f @skip(if: 1) { a } }", "{ ... @skip(if: 1) }", "{ ... @skip(if: 1) f }", "{ ... @skip(if: 1) on T { a } }", "{ ... {} }", "{ ... on T {} }", "{ ... (a: 1) { b } }", "{ a: ... on T { b } }", "{ ... on T(a: 1) { b } }", "{ ... on 1 { a } }", "{ ... on $a { b } }", "{ ... on T: a { b } }",
		"fragment f on T", "fragment f on T {}", "fragment f on T @skip(if: 1) { a }", "fragment f on 1 { a }", "fragment 1 on T { a }", "fragment $f on T { a }", "fragment f: on T { a }", "fragment f ON T { a }", "fragment f on T a",
		"{ a b: }", "{ a ]", "{ a )", "[ a ]", "( a )", "{ a }, %", "{ a . b }", "{ a-b }", "{ é }", "\x00", "{ a \xff }",
	} {
		wantNoDoc(t, text, impl.ErrForm)
	}
}

// richText has each kind of selection, value and directive, in one definition: so no beginning of it is a document.
const richText = "query q { a: node(id: 1 x: $v y: null z: true) @skip(if: $b) @include(if: false) { id ... on Node @skip(if: true) { value } ... f @include(if: $c) ... { next { id } } ... @skip(if: -5) { on } } }"

func TestTextsThatAreCutShort(t *testing.T) {
	for _, text := range []string{richText, "mutation m { set(id: -1 value: 2) { id } }", "fragment f on T { a { b } }", "{a}"} {
		wantDocRead(t, text)
		tokens, _ := impl.Lex(text)
		for n := range tokens {
			short, _ := impl.JoinTokens(tokens[:n])
			wantNoDoc(t, short, impl.ErrForm)
			if n > 0 {
				wantNoDoc(t, "{ a } "+short, impl.ErrForm)
			}
		}
		for n := range text {
			wantNoDoc(t, text[:n], impl.ErrForm)
		}
	}
}

func wantDocRead(t *testing.T, text string) impl.Doc {
	t.Helper()
	d, code := impl.ParseDoc(text)
	if code != impl.OK || !impl.DocOK(d) {
		t.Errorf("ParseDoc(%.80q) = code %d", text, code)
	}
	return d
}

func TestDocSize(t *testing.T) {
	for text, want := range map[string]int{
		"{a}": 1, "{a b}": 2, "{a{b}}": 2, "{a{b}c{d{e}f}}": 6, "{...f}": 1, "{...{a}}": 2, "{...on T{a ...{b c}}}": 5, "{a}{b}": 2, "{a{b}}mutation{c}fragment f on T{...g d}": 5,
	} {
		if n, code := impl.DocSize(wantDocRead(t, text)); n != want || code != impl.OK {
			t.Errorf("DocSize of %q = %d, %d, want %d", text, n, code, want)
		}
	}
	for n := 1; n <= 60; n++ {
		if size, code := impl.DocSize(docWith(fields(n)...)); size != n || code != impl.OK {
			t.Errorf("DocSize of %d selections = %d, %d", n, size, code)
		}
	}
}

func TestFragmentOf(t *testing.T) {
	first, second, other := fragment("f", "T", field("a")), fragment("f", "U", field("b")), fragment("g", "V", field("c", spread("f")))
	d := docOf(query("q", field("a")), mutation("m", field("a")), query("g", field("x")), first, second, other)
	for name, want := range map[string]impl.Def{"f": first, "g": other} {
		got, code := impl.FragmentOf(d, name)
		if code != impl.OK || !impl.SameDoc(docOf(got), docOf(want)) {
			t.Errorf("FragmentOf(%q) = %v, %d, want %v", name, got, code, want)
		}
	}
	for _, name := range []string{"q", "m", "", "on", "T", "U", "F", "ff", "f ", "a", "query", "9", "\xff", strings.Repeat("f", 41), strings.Repeat("f", impl.MaxText)} {
		if got, code := impl.FragmentOf(d, name); code != impl.ErrNone || !isZeroDef(got) {
			t.Errorf("FragmentOf(%.40q) = %v, %d", name, got, code)
		}
	}
	if _, code := impl.FragmentOf(docWith(field("f")), "f"); code != impl.ErrNone {
		t.Error("FragmentOf a document without fragments", code)
	}
	if _, code := impl.FragmentOf(docOf(query("", field("f"))), ""); code != impl.ErrNone {
		t.Error("FragmentOf an operation without a name", code)
	}
	for _, d := range []impl.Doc{d, {}} {
		if got, code := impl.FragmentOf(d, strings.Repeat("f", impl.MaxText+1)); code != impl.ErrLong || !isZeroDef(got) {
			t.Error("FragmentOf a long name", got, code)
		}
	}
}

func TestSameDoc(t *testing.T) {
	base := func() impl.Sel {
		return impl.Sel{Kind: impl.SeField, Alias: "x", Name: "y", Args: []impl.Arg{arg("p", intValue(1)), arg("q", yes)}, Dirs: []impl.Dir{skip(yes), include(no)}, Sels: []impl.Sel{field("z"), spread("f")}}
	}
	changes := []func(x *impl.Sel){
		func(x *impl.Sel) { x.Alias = "" }, func(x *impl.Sel) { x.Alias = "y" }, func(x *impl.Sel) { x.Name = "x" }, func(x *impl.Sel) { x.Args = nil }, func(x *impl.Sel) { x.Args = x.Args[:1] }, func(x *impl.Sel) { x.Args[0], x.Args[1] = x.Args[1], x.Args[0] },
		func(x *impl.Sel) { x.Args[1].Name = "r" }, func(x *impl.Sel) { x.Args[0].Value.N = 2 }, func(x *impl.Sel) { x.Args[0].Value.Kind = impl.VaBool }, func(x *impl.Sel) { x.Args[1].Value = varValue("v") }, func(x *impl.Sel) { x.Dirs = nil }, func(x *impl.Sel) { x.Dirs = x.Dirs[1:] },
		func(x *impl.Sel) { x.Dirs[0].Skip = false }, func(x *impl.Sel) { x.Dirs[1].If = yes }, func(x *impl.Sel) { x.Dirs = append(x.Dirs, skip(yes)) }, func(x *impl.Sel) { x.Dirs[0], x.Dirs[1] = x.Dirs[1], x.Dirs[0] }, func(x *impl.Sel) { x.Sels = nil }, func(x *impl.Sel) { x.Sels = x.Sels[:1] },
		func(x *impl.Sel) { x.Sels = append(x.Sels, field("z")) }, func(x *impl.Sel) { x.Sels[0], x.Sels[1] = x.Sels[1], x.Sels[0] }, func(x *impl.Sel) { x.Sels[1].Kind = impl.SeField }, func(x *impl.Sel) { x.Sels[0].Sels = fields(1) },
		func(x *impl.Sel) { *x = inline("y", x.Sels...) },
	}
	for i, change := range changes {
		x := base()
		change(&x)
		for _, pair := range [][2]impl.Doc{{docWith(base()), docWith(x)}, {docWith(field("a", base())), docWith(field("a", x))}, {docOf(query("", field("a")), query("", base())), docOf(query("", field("a")), query("", x))}} {
			if !impl.SameDoc(pair[0], pair[0]) || !impl.SameDoc(pair[1], pair[1]) || impl.SameDoc(pair[0], pair[1]) || impl.SameDoc(pair[1], pair[0]) {
				t.Errorf("SameDoc of change %d", i)
			}
		}
	}
	defs := []impl.Doc{
		docWith(field("a")), docOf(query("q", field("a"))), docOf(mutation("", field("a"))), docOf(mutation("q", field("a"))), docOf(fragment("q", "T", field("a"))), docOf(fragment("q", "U", field("a"))), docOf(fragment("r", "T", field("a"))),
		docOf(query("", field("a")), query("", field("a"))), docOf(query("", field("a"), field("a"))), docOf(query("", field("a")), query("q", field("a"))), docOf(query("q", field("a")), query("", field("a"))), docWith(inline("", field("a"))), docWith(inline("T", field("a"))),
	}
	for i, a := range defs {
		for j, b := range defs {
			if impl.SameDoc(a, b) != (i == j) {
				t.Errorf("SameDoc of %d and %d = %v", i, j, i != j)
			}
		}
	}
}

// An empty list and nil are the same.
func TestEmptyListsAndNil(t *testing.T) {
	plain := docWith(field("a"), spread("f"), inline("", field("b")))
	empty := docWith(field("a"), spread("f"), inline("", field("b")))
	for i := range empty.Defs[0].Sels {
		x := &empty.Defs[0].Sels[i]
		x.Args, x.Dirs = []impl.Arg{}, make([]impl.Dir, 0, 3)
		if x.Kind != impl.SeInline {
			x.Sels = make([]impl.Sel, 0, 2)
		}
	}
	if !impl.DocOK(empty) || !impl.SameDoc(plain, empty) || !impl.SameDoc(empty, plain) {
		t.Error("empty lists are held to be other than nil")
	}
	a, _ := impl.PrintDoc(plain)
	b, _ := impl.PrintDoc(empty)
	if a != b || a != "query { a ... f ... { b } }" {
		t.Error("PrintDoc", a, b)
	}
	wantBad(t, docWith(impl.Sel{Kind: impl.SeInline, Sels: []impl.Sel{}}))
	wantBad(t, docOf(impl.Def{Kind: impl.DeQuery, Sels: []impl.Sel{}}))
}

func TestArgumentsOfDocumentCallsStay(t *testing.T) {
	random := rand.New(rand.NewSource(5))
	docs := []impl.Doc{{}, docWith(fields(61)...), docOf(fragment("f", "T", field("a")), fragment("f", "U", field("b", spread("f"))))}
	for range 200 {
		docs = append(docs, randomDoc(random))
	}
	for _, d := range docs {
		backing := append(slices.Clone(d.Defs), fragment("behind", "T", field("b")))
		inner := append(fields(3), field("behind"))
		backing = append(backing, query("", inner[:2]...))
		d = impl.Doc{Defs: backing[:len(d.Defs)]}
		ahead, room := tidied(d), slices.Clone(backing)
		answersOfDocument(d, "f")
		if !reflect.DeepEqual(tidied(d), ahead) || !reflect.DeepEqual(backing, room) || !reflect.DeepEqual(inner, append(fields(3), field("behind"))) {
			t.Fatal("a call changed its argument, or what is behind it")
		}
	}
}

// answersOfDocument is all that the calls of chapter 3 answer to a document and a name.
func answersOfDocument(d impl.Doc, name string) []any {
	text, printed := impl.PrintDoc(d)
	depth, deep := impl.DocDepth(d)
	size, sized := impl.DocSize(d)
	f, found := impl.FragmentOf(d, name)
	read, code := impl.ParseDoc(text)
	return []any{impl.DocOK(d), impl.SameDoc(d, d), impl.SameDoc(d, read), text, printed, depth, deep, size, sized, f, found, read, code}
}

func TestAnswersOfDocumentCallsAreNew(t *testing.T) {
	random := rand.New(rand.NewSource(6))
	for range 200 {
		d := randomDoc(random)
		d.Defs[0] = fragment("f", "T", field("a", field("b", d.Defs[0].Sels[0])), fieldWith(arg("x", varValue("v"))))
		if !impl.DocOK(d) {
			continue
		}
		text, _ := impl.PrintDoc(d)
		read, _ := impl.ParseDoc(text)
		again, _ := impl.ParseDoc(text)
		wantOwnMemory(t, "ParseDoc", read, text, again)
		f, _ := impl.FragmentOf(d, "f")
		g, _ := impl.FragmentOf(d, "f")
		wantOwnMemory(t, "FragmentOf", f, d, g)
		other, _ := impl.PrintDoc(d)
		wantOwnMemory(t, "PrintDoc", text, d, other)
	}
	name := "f"
	shared := fields(2)
	args := []impl.Arg{arg("b", varValue("v"))}
	dirs := []impl.Dir{skip(varValue("v"))}
	twin := impl.Sel{Kind: impl.SeField, Name: "c", Args: args, Dirs: dirs, Sels: shared}
	d := docOf(fragment("f", "T", twin, twin, field("d", twin)))
	f, code := impl.FragmentOf(d, name)
	if code != impl.OK || !impl.SameDoc(docOf(f), d) {
		t.Error("FragmentOf of lists that share memory", f, code)
	}
	wantOwnMemory(t, "FragmentOf", f, d, name)
	f.Sels[0].Sels[0].Name = "other"
	f.Sels[0].Args[0].Name = "other"
	f.Sels[0].Dirs[0].Skip = false
	if shared[0].Name != "a" || args[0].Name != "b" || !dirs[0].Skip || f.Sels[1].Sels[0].Name != "a" {
		t.Error("FragmentOf hands out its argument's lists")
	}
}

func TestAlikeDocumentsHaveAlikeAnswers(t *testing.T) {
	random := rand.New(rand.NewSource(8))
	docs := []impl.Doc{{}, docWith(field("a")), docWith(fields(61)...), deepDoc(8, impl.SeField), docOf(fragment("f", "T", spread("f")))}
	for range 20 {
		docs = append(docs, randomDoc(random))
	}
	texts := []string{"", "{a}", richText, "{", "%", strings.Repeat("{a", 8), strings.Repeat("{a}", 7), strings.Repeat("a ", 4001), strings.Repeat(" ", impl.MaxText+1)}
	for _, d := range docs {
		ahead := answersOfDocument(d, "f")
		for i, other := range docs {
			answersOfDocument(other, "g"+strconv.Itoa(i))
		}
		for _, text := range texts {
			impl.ParseDoc(text)
		}
		if !reflect.DeepEqual(answersOfDocument(d, "f"), ahead) {
			t.Errorf("answers to %v hang on what was called ahead", d)
		}
	}
}
