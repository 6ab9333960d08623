package tests

import (
	"slices"
	"strconv"
	"strings"
	"testing"

	"loop.example/g00540/impl"
)

func binding(name string, v impl.Value) impl.Binding { return impl.Binding{Name: name, Value: v} }

// plainVars bind t to true, f to false, x to a number, n to null; z and none are bound to nothing.
func plainVars() []impl.Binding {
	return []impl.Binding{binding("t", yes), binding("f", no), binding("x", intValue(1)), binding("n", null)}
}

// manyBindings are so many of names of their own.
func manyBindings(n int) (list []impl.Binding) {
	for i := range n {
		list = append(list, binding("v"+strconv.Itoa(i), intValue(i)))
	}
	return list
}

func rightBindings() [][]impl.Binding {
	long := strings.Repeat("n", 40)
	lists := [][]impl.Binding{
		nil, {}, plainVars(), manyBindings(1), manyBindings(8),
		{binding("a", yes), binding("A", yes), binding("_", yes), binding("aa", yes), binding("on", yes), binding("true", no), binding(long, null), binding(long[1:], null)},
	}
	for _, v := range rightValues() {
		if v.Kind != impl.VaVar {
			lists = append(lists, []impl.Binding{binding("a", v)}, []impl.Binding{binding("b", no), binding("a", v)})
		}
	}
	return lists
}

func wrongBindings() [][]impl.Binding {
	b := binding("b", yes)
	lists := [][]impl.Binding{
		make([]impl.Binding, 1), make([]impl.Binding, 9), manyBindings(9), manyBindings(10), manyBindings(impl.MaxList),
		{b, b}, {b, binding("b", no)}, {b, binding("c", yes), binding("d", yes), b}, append(manyBindings(7), binding("v0", yes)), append(manyBindings(8), binding("v0", yes)),
		{binding("", yes)}, {b, binding("", yes)}, {binding("", yes), binding("", no)},
	}
	for _, name := range wrongNames() {
		lists = append(lists, []impl.Binding{binding(name, yes)}, []impl.Binding{b, binding(name, null)})
	}
	for _, v := range append(wrongValues(), varValue("a"), varValue("b"), varValue("c")) {
		lists = append(lists, []impl.Binding{binding("a", v)}, []impl.Binding{b, binding("a", v)}, []impl.Binding{binding("a", v), b})
	}
	return lists
}

func TestBindingsOK(t *testing.T) {
	for _, list := range rightBindings() {
		if !impl.BindingsOK(list) {
			t.Errorf("BindingsOK(%v) = false", list)
		}
	}
	for _, list := range append(wrongBindings(), manyBindings(impl.MaxList+1)) {
		if impl.BindingsOK(list) {
			t.Errorf("BindingsOK(%.200v) = true", list)
		}
	}
}

func TestValueOf(t *testing.T) {
	for _, vars := range rightBindings() {
		for _, v := range rightValues() {
			if v.Kind == impl.VaVar {
				continue
			}
			if got, code := impl.ValueOf(v, vars); got != v || code != impl.OK {
				t.Errorf("ValueOf(%v) = %v, %d", v, got, code)
			}
		}
		for _, b := range vars {
			if got, code := impl.ValueOf(varValue(b.Name), vars); got != b.Value || code != impl.OK {
				t.Errorf("ValueOf($%s) of %v = %v, %d", b.Name, vars, got, code)
			}
		}
		for _, name := range []string{"z", "none", "X", "aaa", "v8", "nn", "false", "null", strings.Repeat("n", 38)} {
			if got, code := impl.ValueOf(varValue(name), vars); got != (impl.Value{}) || code != impl.ErrVariable {
				t.Errorf("ValueOf($%s) of %v = %v, %d", name, vars, got, code)
			}
		}
	}
}

// A dirsCase is what Included says of directives with plainVars, and what Collect makes of them:
// there a variable that is bound to nothing is another thing than true.
type dirsCase struct {
	dirs    []impl.Dir
	want    bool
	code    int
	collect bool
}

func dirsCases() []dirsCase {
	list := []dirsCase{{nil, true, impl.OK, true}, {[]impl.Dir{}, true, impl.OK, true}}
	for _, v := range []impl.Value{yes, varValue("t")} {
		list = append(list, dirsCase{[]impl.Dir{skip(v)}, false, impl.OK, false}, dirsCase{[]impl.Dir{include(v)}, true, impl.OK, true})
	}
	others := []impl.Value{no, null, intValue(0), intValue(1), intValue(-1), intValue(impl.MaxInt), varValue("f"), varValue("x"), varValue("n")}
	for _, v := range others {
		list = append(list, dirsCase{[]impl.Dir{skip(v)}, true, impl.OK, true}, dirsCase{[]impl.Dir{include(v)}, false, impl.OK, false})
	}
	for _, name := range []string{"z", "none", "T", "tt"} {
		v := varValue(name)
		list = append(list, dirsCase{[]impl.Dir{skip(v)}, false, impl.ErrVariable, true}, dirsCase{[]impl.Dir{include(v)}, false, impl.ErrVariable, false})
	}
	// Two, three and four of them: one that leaves the selection out is enough, a fault comes first.
	ones := slices.Clone(list[2:])
	for i, a := range ones {
		for k, b := range ones {
			c := joinDirs(a, b)
			list = append(list, c)
			if (i+k)%5 == 0 {
				list = append(list, joinDirs(c, ones[(i*k+i)%len(ones)]), joinDirs(c, joinDirs(b, ones[(i+2*k)%len(ones)])))
			}
		}
	}
	return list
}

func joinDirs(a, b dirsCase) dirsCase {
	c := dirsCase{dirs: slices.Concat(a.dirs, b.dirs), code: max(a.code, b.code), collect: a.collect && b.collect}
	c.want = c.code == impl.OK && a.want && b.want
	return c
}

// selsOfEachKind are right by themselves, whatever is in their sets.
func selsOfEachKind() []impl.Sel {
	return []impl.Sel{
		field("a"), field("a", field("b")), {Kind: impl.SeField, Alias: "c", Name: "a", Args: []impl.Arg{arg("i", varValue("none")), arg("k", yes)}},
		spread("g"), inline("", field("b")), inline("T", field("b"), field("c")),
	}
}

func TestIncluded(t *testing.T) {
	for _, c := range dirsCases() {
		for _, x := range selsOfEachKind() {
			x.Dirs = c.dirs
			if got, code := impl.Included(x, plainVars()); got != c.want || code != c.code {
				t.Errorf("Included of kind %d with %v = %v, %d, want %v, %d", x.Kind, c.dirs, got, code, c.want, c.code)
			}
		}
	}
	// What is bound decides, not what a variable is called.
	x := field("a")
	x.Dirs = []impl.Dir{include(varValue("v"))}
	for _, v := range []impl.Value{yes, no, null, intValue(0), intValue(1)} {
		got, code := impl.Included(x, []impl.Binding{binding("w", yes), binding("v", v)})
		if got != (v == yes) || code != impl.OK {
			t.Errorf("Included with a variable bound to %v = %v, %d", v, got, code)
		}
	}
	if got, code := impl.Included(x, nil); got || code != impl.ErrVariable {
		t.Error("Included without bindings", got, code)
	}
}

// Of a selection's set Included looks at nothing but whether there is one.
func TestIncludedOfTheSelectionByItself(t *testing.T) {
	ring := []impl.Sel{field("a")}
	ring[0].Sels = ring
	sets := [][]impl.Sel{{{}}, {{Kind: 9}, field("9")}, ring, fields(61), fields(impl.MaxList + 1), {deepDoc(9, impl.SeField).Defs[0].Sels[0]}, {{Kind: impl.SeField, Name: "a", Dirs: []impl.Dir{{}}}}, {spread("f", skip(varValue("none")))}}
	for _, x := range wrongSels() {
		sets = append(sets, []impl.Sel{x})
	}
	for _, set := range sets {
		for _, x := range []impl.Sel{field("a"), inline(""), inline("T")} {
			x.Sels = set
			if ok, code := impl.Included(x, plainVars()); !ok || code != impl.OK {
				t.Errorf("Included of kind %d = %v, %d", x.Kind, ok, code)
			}
			x.Dirs = []impl.Dir{skip(varValue("t"))}
			if ok, code := impl.Included(x, plainVars()); ok || code != impl.OK {
				t.Errorf("Included of kind %d that is skipped = %v, %d", x.Kind, ok, code)
			}
		}
		x := spread("f")
		x.Sels = set
		if ok, code := impl.Included(x, nil); ok || code != impl.ErrBad {
			t.Errorf("Included of a spread with a set = %v, %d", ok, code)
		}
	}
	for _, x := range []impl.Sel{inline(""), inline("T"), {Kind: impl.SeInline, Sels: []impl.Sel{}}} {
		if ok, code := impl.Included(x, nil); ok || code != impl.ErrBad {
			t.Errorf("Included of an inline one without a set = %v, %d", ok, code)
		}
	}
}

// selsText tells a list as a set, without its braces.
func selsText(list []impl.Sel) string {
	if len(list) == 0 {
		return ""
	}
	text, code := impl.PrintDoc(docWith(list...))
	if code != impl.OK {
		return "a list that is not right"
	}
	return strings.TrimSuffix(strings.TrimPrefix(text, "query { "), " }")
}

// groupsText tells of each group its key, and its fields behind a sign =.
func groupsText(groups []impl.Group) string {
	var texts []string
	for _, g := range groups {
		texts = append(texts, g.Key+" = "+selsText(g.Fields))
	}
	return strings.Join(texts, " | ")
}

// wantGroups collects the set of the text's first definition with plainVars.
func wantGroups(t *testing.T, text, want string) []impl.Group {
	t.Helper()
	d := wantDocRead(t, text)
	groups, code := impl.Collect(d, d.Defs[0].Sels, plainVars())
	if got := groupsText(groups); got != want || code != impl.OK {
		t.Errorf("Collect of %q = %q, %d, want %q", text, got, code, want)
	}
	return groups
}

// Promise 6: fields are collected by their keys, as they first come.
func TestFieldsByTheirKeys(t *testing.T) {
	for text, want := range map[string]string{
		"{ a }":                          "a = a",
		"{ a b }":                        "a = a | b = b",
		"{ b a }":                        "b = b | a = a",
		"{ a a }":                        "a = a a",
		"{ a b a }":                      "a = a a | b = b",
		"{ c b a b c a }":                "c = c c | b = b b | a = a a",
		"{ a b x: a a }":                 "a = a a | b = b | x = x: a",
		"{ x: a x: a }":                  "x = x: a x: a",
		"{ x: a x }":                     "x = x: a x",
		"{ x x: a }":                     "x = x x: a",
		"{ a: b b: a }":                  "a = a: b | b = b: a",
		"{ a: b b: a a b }":              "a = a: b a | b = b: a b",
		"{ a: a a }":                     "a = a: a a",
		"{ A a _ a1 A }":                 "A = A A | a = a | _ = _ | a1 = a1",
		"{ a(i: 1) a(i: 2) a }":          "a = a(i: 1) a(i: 2) a",
		"{ a(i: $none) a(i: true) }":     "a = a(i: $none) a(i: true)",
		"{ p { a b } q p { c } }":        "p = p { a b } p { c } | q = q",
		"{ p { a } a p: a { p { b } } }": "p = p { a } p: a { p { b } } | a = a",
		"{ p { ... f ... { a } } } fragment f on T { b }": "p = p { ... f ... { a } }",
		"mutation m { b a b }":                            "b = b b | a = a",
		"fragment f on T { b a b }":                       "b = b b | a = a",
		"{ on query fragment true null }":                 "on = on | query = query | fragment = fragment | true = true | null = null",
	} {
		wantGroups(t, text, want)
	}
}

// Inline ones and spreads are in their places, whatever type they are on.
func TestWhatStandsInPlaces(t *testing.T) {
	const f, g, h = " fragment f on T { fa fb } ", " fragment g on U { ga ... h gb } ", " fragment h on V { ha ... { hb } } "
	for text, want := range map[string]string{
		"{ ... { a } }":                             "a = a",
		"{ a ... { b a } c }":                       "a = a a | b = b | c = c",
		"{ ... { b } a b }":                         "b = b b | a = a",
		"{ ... on T { a ... on U { b } } c }":       "a = a | b = b | c = c",
		"{ ... { ... { ... { a } b } } a: c }":      "a = a a: c | b = b",
		"{ ... { a } ... { a } ... on T { a: b } }": "a = a a a: b",
		"{ a ... f b }" + f:                         "a = a | fa = fa | fb = fb | b = b",
		"{ fb ... f fa: a }" + f:                    "fb = fb fb | fa = fa fa: a",
		"{ ... g x }" + g + h:                       "ga = ga | ha = ha | hb = hb | gb = gb | x = x",
		f + "{ a }":                                 "fa = fa | fb = fb",
		"{ ... { ... g a } hb }" + h + g:            "ga = ga | ha = ha | hb = hb hb | gb = gb | a = a",
		"{ p { ... f } ... f }" + f:                 "p = p { ... f } | fa = fa | fb = fb",
		// A spread of a fragment that is not there.
		"{ ... none }":                 "",
		"{ a ... none b }":             "a = a | b = b",
		"{ ... none a ... none }":      "a = a",
		"{ ... { ... none } ... q }":   "",
		"query q { ... q a }":          "a = a",
		"{ ... m a } mutation m { b }": "a = a",
		"{ ... g }" + g:                "ga = ga | gb = gb",
	} {
		wantGroups(t, text, want)
	}
}

// Promise 6: what is skipped is not.
func TestWhatIsSkipped(t *testing.T) {
	const f = " fragment f on T { fa } "
	for text, want := range map[string]string{
		"{ a @skip(if: true) }":                                 "",
		"{ a @skip(if: true) a }":                               "a = a",
		"{ a @skip(if: true) b a }":                             "b = b | a = a",
		"{ b a @skip(if: true) { b } c: b @include(if: true) }": "b = b | c = c: b @include(if: true)",
		"{ a @skip(if: false) b @include(if: true) }":           "a = a @skip(if: false) | b = b @include(if: true)",
		"{ p { a @skip(if: true) } }":                           "p = p { a @skip(if: true) }",
		"{ ... @skip(if: true) { a } b }":                       "b = b",
		"{ ... @include(if: $f) { a } ... on T @include(if: $t) { b @skip(if: $t) c } }": "c = c",
		"{ ... { a @skip(if: $t) } a: b }":                                               "a = a: b",
		"{ ... f @skip(if: true) a }" + f:                                                "a = a",
		"{ ... f @include(if: $none) a }" + f:                                            "a = a",
		"{ ... f @skip(if: $none) a }" + f:                                               "fa = fa | a = a",
		"{ ... { ... @skip(if: true) { ... { a } } } b }":                                "b = b",
		"{ a @skip(if: true) b @skip(if: false) c @include(if: $t) d @include(if: false) e @include(if: $none) g @skip(if: $none) }": "b = b @skip(if: false) | c = c @include(if: $t) | g = g @skip(if: $none)",
		"{ a @include(if: 1) b @skip(if: 1) c @include(if: null) d @skip(if: null) }":                                                "b = b @skip(if: 1) | d = d @skip(if: null)",
	} {
		wantGroups(t, text, want)
	}
}

// Each directive does in Collect what it does in Included, but for variables that are bound to nothing.
func TestDirectivesInCollect(t *testing.T) {
	d := docOf(query("", field("z")), fragment("g", "T", field("b")))
	for _, c := range dirsCases() {
		for _, x := range selsOfEachKind() {
			x.Dirs = c.dirs
			groups, code := impl.Collect(d, []impl.Sel{x}, plainVars())
			if code != impl.OK || (len(groups) > 0) != c.collect {
				t.Errorf("Collect of kind %d with %v = %v, %d, want some: %v", x.Kind, c.dirs, groups, code, c.collect)
			}
			if c.code == impl.OK && c.want != c.collect {
				t.Fatal("a case is not sound", c)
			}
			if x.Kind == impl.SeField && c.collect && !slices.Equal(groups[0].Fields[0].Dirs, c.dirs) {
				t.Errorf("Collect changes directives: %v", groups)
			}
		}
	}
}

// A fragment comes once in all, where it is first spread and not skipped.
func TestFragmentsThatComeTwice(t *testing.T) {
	const f, g, h = " fragment f on T { a } ", " fragment g on T { b ... f c } ", " fragment h on T { ... g ... f d ... g } "
	for text, want := range map[string]string{
		"{ ... f ... f }" + f:                              "a = a",
		"{ ... f x ... f ... f }" + f:                      "a = a | x = x",
		"{ a ... f a ... f }" + f:                          "a = a a a",
		"{ ... f ... { ... f x } }" + f:                    "a = a | x = x",
		"{ ... { x ... f } ... f y }" + f:                  "x = x | a = a | y = y",
		"{ ... { ... f } ... { ... on T { ... f } } }" + f: "a = a",
		"{ ... f ... g }" + f + g:                          "a = a | b = b | c = c",
		"{ ... g ... f x }" + f + g:                        "b = b | a = a | c = c | x = x",
		"{ ... h }" + f + g + h:                            "b = b | a = a | c = c | d = d",
		"{ ... h ... g ... f }" + h + g + f:                "b = b | a = a | c = c | d = d",
		"{ ... f ... h }" + f + g + h:                      "a = a | b = b | c = c | d = d",
		"{ ... f @skip(if: true) x ... f }" + f:            "x = x | a = a",
		"{ ... f @include(if: $none) x ... f ... f }" + f:  "x = x | a = a",
		"{ ... f ... f @skip(if: true) }" + f:              "a = a",
		"{ ... @skip(if: true) { ... f } x ... f }" + f:    "x = x | a = a",
		"{ ... g @skip(if: true) x ... f ... f }" + f + g:  "x = x | a = a",
		"{ ... i x ... f } fragment i on T { y ... f @skip(if: $t) ... { z @skip(if: $t) } }" + f: "y = y | x = x | a = a",
		"{ ... i ... j } fragment i on T { ... j @skip(if: $t) } fragment j on T { x }":           "x = x",
		// What a field has is another set.
		"{ x { ... f } ... f y { ... f } }" + f:                                       "x = x { ... f } | a = a | y = y { ... f }",
		"{ ... none ... none ... f }" + f:                                             "a = a",
		"{ ... f ... f } fragment f on T { a } fragment f on T { b }":                 "a = a",
		"{ ... f } fragment f on T { a ... f } fragment f on T { b }":                 "a = a",
		"fragment f on T { x ... f y } fragment f on T { z }":                         "x = x x | y = y y",
		"{ ... g } fragment g on U { b } fragment f on T { a } fragment g on T { c }": "b = b",
	} {
		wantGroups(t, text, want)
	}
}

func TestCollectOfFragmentsThatSpreadThemselves(t *testing.T) {
	for text, want := range map[string]string{
		"{ ... f } fragment f on T { ... f }":                                         "",
		"{ ... f } fragment f on T { a ... f b }":                                     "a = a | b = b",
		"{ ... f x ... f } fragment f on T { a ... { ... f a } }":                     "a = a a | x = x",
		"{ ... f } fragment f on T { a ... g b } fragment g on T { c ... f d }":       "a = a | c = c | d = d | b = b",
		"{ ... g } fragment f on T { a ... g b } fragment g on T { c ... f d }":       "c = c | a = a | b = b | d = d",
		"{ ... g ... f } fragment f on T { a { ... f } } fragment g on T { a ... g }": "a = a a { ... f }",
		"{ ... f } fragment f on T { a ... f @skip(if: true) b }":                     "a = a | b = b",
		// The set of a fragment by itself spreads it once.
		"fragment f on T { a ... f b }":                             "a = a a | b = b b",
		"fragment f on T { ... f a ... f }":                         "a = a a",
		"fragment f on T { a ... g } fragment g on T { b ... f c }": "a = a a | b = b | c = c",
	} {
		wantGroups(t, text, want)
	}
	cyclic, _ := cyclicTexts()
	for _, text := range cyclic {
		d := wantDocRead(t, text)
		for _, f := range d.Defs {
			if _, code := impl.Collect(d, f.Sels, plainVars()); code != impl.OK {
				t.Errorf("Collect of %q = code %d", text, code)
			}
		}
	}
}

// Any right list is collected with any right document.
func TestListsThatAreNotTheDocuments(t *testing.T) {
	d := docOf(query("q", field("z")), fragment("f", "T", field("a"), spread("g")))
	for want, list := range map[string][]impl.Sel{
		"":                    nil,
		"b = b b":             {field("b"), field("b")},
		"b = b | a = a":       {field("b"), spread("f"), spread("q")},
		"a = a":               {spread("g"), spread("f"), spread("f", include(yes))},
		"a = a | c = c { d }": {inline("", spread("f"), field("c", field("d")))},
		"a = a a | z = z":     {field("a"), spread("f"), field("z")},
	} {
		if groups, code := impl.Collect(d, list, nil); groupsText(groups) != want || code != impl.OK {
			t.Errorf("Collect of %q = %q, %d, want %q", selsText(list), groupsText(groups), code, want)
		}
	}
	if groups, code := impl.Collect(d, []impl.Sel{}, []impl.Binding{}); len(groups) > 0 || code != impl.OK {
		t.Error("Collect of nothing", groups, code)
	}
}

// A list by itself may have more selections than a document, but not more than MaxList.
func TestHowManyAreCollected(t *testing.T) {
	d := docWith(field("a"))
	for _, n := range []int{1, 60, 61, 400, 401, impl.MaxList} {
		groups, code := impl.Collect(d, fields(n), nil)
		if code != impl.OK || len(groups) != 1 || groups[0].Key != "a" || len(groups[0].Fields) != n {
			t.Errorf("Collect of %d fields = %d groups, %d", n, len(groups), code)
		}
		groups, code = impl.Collect(d, []impl.Sel{inline("", fields(n)...), field("b", fields(n)...)}, nil)
		if code != impl.OK || len(groups) != 2 || len(groups[0].Fields) != n || len(groups[1].Fields[0].Sels) != n {
			t.Errorf("Collect of %d fields in a set = %d groups, %d", n, len(groups), code)
		}
	}
	var list []impl.Sel
	for i := range impl.MaxList {
		list = append(list, field("n"+strconv.Itoa(i*7%1000)))
	}
	groups, code := impl.Collect(d, list, nil)
	if code != impl.OK || len(groups) != 1000 {
		t.Fatal("Collect of 1000 keys", len(groups), code)
	}
	for i, g := range groups {
		if want := "n" + strconv.Itoa(i*7%1000); g.Key != want || len(g.Fields) < 4 || g.Fields[3].Name != want {
			t.Fatal("Collect of 1000 keys", i, g.Key, len(g.Fields))
		}
	}
	for sets := 1; sets <= 9; sets++ {
		for _, kind := range []int{impl.SeField, impl.SeInline} {
			groups, code := impl.Collect(d, deepDoc(sets, kind).Defs[0].Sels, nil)
			if sets > impl.MaxDeep && (len(groups) > 0 || code != impl.ErrBad) || sets <= impl.MaxDeep && (len(groups) != 1 || code != impl.OK) {
				t.Errorf("Collect of %d sets of kind %d = %v, %d", sets, kind, groups, code)
			}
		}
	}
}

func TestMergedSels(t *testing.T) {
	deep := field("a", field("b", field("c")))
	skipped := impl.Sel{Kind: impl.SeField, Name: "a", Dirs: []impl.Dir{skip(yes)}, Sels: []impl.Sel{field("d"), spread("f", skip(varValue("none")))}}
	for _, c := range []struct {
		list []impl.Sel
		want string
	}{
		{nil, ""}, {[]impl.Sel{}, ""}, {fields(1), ""}, {fields(3), ""},
		{[]impl.Sel{field("a", field("b"))}, "b"}, {[]impl.Sel{field("a", field("b"), field("c"))}, "b c"}, {[]impl.Sel{deep}, "b { c }"}, {[]impl.Sel{deep, deep}, "b { c } b { c }"},
		{[]impl.Sel{field("a", field("b")), field("a", field("c"))}, "b c"}, {[]impl.Sel{field("a", field("c")), field("a", field("b"))}, "c b"}, {[]impl.Sel{field("a", field("b")), field("a"), field("a", field("b"))}, "b b"},
		{[]impl.Sel{field("a"), field("a", inline("T", field("b")), spread("f"))}, "... on T { b } ... f"}, {[]impl.Sel{skipped}, "d ... f @skip(if: $none)"}, {[]impl.Sel{skipped, deep, skipped}, "d ... f @skip(if: $none) b { c } d ... f @skip(if: $none)"},
		{[]impl.Sel{{Kind: impl.SeField, Alias: "k", Name: "a", Args: []impl.Arg{arg("i", yes)}, Sels: []impl.Sel{field("b")}}}, "b"},
	} {
		// A key must be a name, and need not be the fields' own.
		for _, key := range []string{"a", "k", "_", "on", strings.Repeat("n", 40)} {
			got, code := impl.MergedSels(impl.Group{Key: key, Fields: c.list})
			if selsText(got) != c.want || code != impl.OK {
				t.Errorf("MergedSels of %q = %q, %d, want %q", selsText(c.list), selsText(got), code, c.want)
			}
		}
		for _, key := range append(wrongNames(), "") {
			if got, code := impl.MergedSels(impl.Group{Key: key, Fields: c.list}); len(got) > 0 || code != impl.ErrBad {
				t.Errorf("MergedSels with the key %.60q = %v, %d", key, got, code)
			}
		}
	}
	for _, n := range []int{60, 61, 400, impl.MaxList, impl.MaxList + 1} {
		got, code := impl.MergedSels(impl.Group{Key: "a", Fields: slices.Repeat([]impl.Sel{deep}, n)})
		if len(got) != n || code != impl.OK {
			t.Errorf("MergedSels of %d fields = %d selections, %d", n, len(got), code)
		}
	}
}

// What a group has together is collected again, though it is more than a document may have.
func TestMergedSelsAreCollected(t *testing.T) {
	ids := strings.Repeat("id ", 50)
	d := wantDocRead(t, "{ node(id: 1) { next { ... f } ... f } } fragment f on Node { next { next { "+ids+"} } }")
	if k, code := impl.Validate(impl.PlainSchema(), d); k != impl.OK || code != impl.OK {
		t.Fatal("Validate", k, code)
	}
	list := d.Defs[0].Sels
	for i, want := range []string{"node 1", "next 2", "next 2", "next 1 id 50", "id 50"} {
		groups, code := impl.Collect(d, list, nil)
		got := ""
		for _, g := range groups {
			got += " " + g.Key + " " + strconv.Itoa(len(g.Fields))
		}
		if got != " "+want || code != impl.OK {
			t.Fatalf("Collect at depth %d = %q, %d, want %q", i, got, code, want)
		}
		if list, code = impl.MergedSels(groups[0]); code != impl.OK {
			t.Fatal("MergedSels", i, code)
		}
	}
	if len(list) > 0 {
		t.Error("MergedSels of numbers", list)
	}
}

func TestVarsFit(t *testing.T) {
	fitting := []string{
		"a", "a(i: 1)", "a(i: null k: -1)", "a(i: $x)", "a(i: $n)", "a(i: $x k: $n l: 1 m: null)", "a @skip(if: true)", "a @include(if: false)", "a @skip(if: $t) @include(if: $f)", "a(i: $x) @include(if: $t) { b(i: $n) @skip(if: $f) }",
		"... g", "... none @skip(if: $t)", "... g @include(if: false)", "... @skip(if: $f) { a }", "... on T @skip(if: true) @include(if: $t) { a(i: $x) }", "t: f { x: n }",
	}
	others := []string{
		"a(i: true)", "a(i: false)", "a(i: $t)", "a(i: $f)", "a(i: $none)", "a(i: $z)", "a(i: $X)", "a(i: 1 k: $none)", "a(i: $t k: 1)", "a(i: $x k: null l: $n m: false)", "a(i: $x) a(i: $f)",
		"a @skip(if: 1)", "a @skip(if: 0)", "a @include(if: null)", "a @skip(if: $x)", "a @include(if: $x)", "a @skip(if: $n)", "a @include(if: $n)", "a @skip(if: $none)", "a @include(if: $z)", "a @skip(if: true) @include(if: $t) @skip(if: 1)", "a @include(if: null) @include(if: true)",
		"a @skip(if: true) { b(i: $none) }", "a(i: $none) @skip(if: true)", "a @skip(if: true) @include(if: $none)", "... g @skip(if: $x)", "... none @include(if: $none)", "... @skip(if: null) { a }", "... on T @skip(if: $n) { a }", "... on T { a(i: $t) }", "... { ... { a @skip(if: 1) } }",
	}
	for want, sets := range map[int][]string{impl.OK: fitting, impl.ErrVariable: others} {
		for _, set := range sets {
			for _, text := range []string{
				"{ " + set + " }", "mutation m { z " + set + " }", "fragment g on T { " + set + " z }", "{ z } fragment g on T { " + set + " }", "fragment h on T { " + set + " } { z } fragment g on T { z }",
				"{ z { y } z { x { " + set + " } } }", "{ a { b { c { d { z " + set + " } } } } }", "{ ... { ... on T { " + set + " } } }", "{ z } { z } mutation { z } fragment g on T { z } fragment g on T { z } fragment g on T { " + set + " }",
				"{ z } fragment g on T { ... g z { " + set + " } }", "{ " + set + " } { " + set + " }",
			} {
				got, code := impl.VarsFit(wantDocRead(t, text), plainVars())
				wantCode(t, "VarsFit", text, got, code, want)
			}
		}
	}
	// One binding is of one variable, in whatever order they stand.
	d := wantDocRead(t, "{ a(i: $v) @skip(if: $w) }")
	values := []impl.Value{intValue(0), intValue(1), yes, no, null}
	for _, v := range values {
		for _, w := range values {
			want := impl.ErrVariable
			if v.Kind != impl.VaBool && w.Kind == impl.VaBool {
				want = impl.OK
			}
			for _, vars := range [][]impl.Binding{{binding("v", v), binding("w", w)}, {binding("w", w), binding("u", w), binding("v", v)}} {
				got, code := impl.VarsFit(d, vars)
				wantCode(t, "VarsFit", "$v and $w", got, code, want)
			}
			got, code := impl.VarsFit(d, []impl.Binding{binding("v", v)})
			wantCode(t, "VarsFit", "$v alone", got, code, impl.ErrVariable)
			got, code = impl.VarsFit(d, []impl.Binding{binding("w", w)})
			wantCode(t, "VarsFit", "$w alone", got, code, impl.ErrVariable)
		}
	}
	got, code := impl.VarsFit(d, nil)
	wantCode(t, "VarsFit", "no bindings", got, code, impl.ErrVariable)
	got, code = impl.VarsFit(wantDocRead(t, "{ a(i: 1) }"), nil)
	wantCode(t, "VarsFit", "no variables", got, code, impl.OK)
}
