package tests

import (
	"reflect"
	"slices"
	"strings"
	"testing"

	"loop.example/g00540/impl"
)

func request(d impl.Doc, vars ...impl.Binding) impl.Request {
	return impl.Request{Doc: d, Vars: vars}
}

func isZeroRequest(q impl.Request) bool { return len(q.Doc.Defs)+len(q.Vars) == 0 }

// tidyRequest has nil for empty lists, so that DeepEqual holds requests against each other.
func tidyRequest(q impl.Request) impl.Request {
	return impl.Request{Doc: tidied(q.Doc), Vars: tidyBindings(q.Vars)}
}

func wantRequest(t *testing.T, text string, want impl.Request) {
	t.Helper()
	got, code := impl.ReadRequest(text)
	if code != impl.OK || !reflect.DeepEqual(tidyRequest(got), tidyRequest(want)) {
		t.Errorf("ReadRequest(%.120q) = %s, %d, want %s", text, brief(got), code, brief(want))
		return
	}
	if !impl.RequestOK(got) || !impl.SameRequest(got, want) || !impl.SameRequest(want, got) {
		t.Errorf("SameRequest of what is read from %.120q = false", text)
	}
}

func wantNoRequest(t *testing.T, text string, want int) {
	t.Helper()
	if got, code := impl.ReadRequest(text); code != want || !isZeroRequest(got) {
		t.Errorf("ReadRequest(%.120q) = %s, %d, want code %d", text, brief(got), code, want)
	}
}

// wantToldRequest fails unless the request has the text, and is read back from it.
func wantToldRequest(t *testing.T, q impl.Request, text string) {
	t.Helper()
	if !impl.RequestOK(q) {
		t.Errorf("RequestOK of %.120q = false", text)
	}
	if got, code := impl.RequestText(q); got != text || code != impl.OK {
		t.Errorf("RequestText = %.120q, %d, want %.120q", got, code, text)
	}
	wantRequest(t, text, q)
}

// wantBadRequest fails unless each call of chapter 12 says that the request is not right.
func wantBadRequest(t *testing.T, what string, q impl.Request) {
	t.Helper()
	if impl.RequestOK(q) {
		t.Errorf("RequestOK of %s = true", what)
	}
	if text, code := impl.RequestText(q); text != "" || code != impl.ErrBad {
		t.Errorf("RequestText of %s = %.60q, %d", what, text, code)
	}
	if k, code := impl.RequestCode(q); k != 0 || code != impl.ErrBad {
		t.Errorf("RequestCode of %s = %d, %d", what, k, code)
	}
	right := request(docWith(field("size")))
	if impl.SameRequest(q, q) || impl.SameRequest(q, right) || impl.SameRequest(right, q) {
		t.Errorf("SameRequest of %s = true", what)
	}
}

func TestRequestsThatAreNotRight(t *testing.T) {
	eachWrong(func(what string, d impl.Doc, vars []impl.Binding) { wantBadRequest(t, what, request(d, vars...)) })
	wantBadRequest(t, "nothing", impl.Request{})
	wantBadRequest(t, "no document", request(impl.Doc{}, runVars()...))
	for _, def := range wrongDefs() {
		wantBadRequest(t, "a wrong definition alone", request(docOf(def), runVars()...))
	}
	for _, d := range []impl.Doc{{Defs: []impl.Def{}}, docWith(), docWith(fields(61)...), docOf(slices.Repeat([]impl.Def{query("", field("a"))}, 7)...), deepDoc(8, impl.SeField), deepDoc(8, impl.SeInline)} {
		wantBadRequest(t, "a wrong document", request(d))
		wantBadRequest(t, "a wrong document", request(d, manyBindings(9)...))
	}
	// Within a request a list is bounded by what is said of bindings alone.
	for _, n := range []int{9, 10, impl.MaxList, impl.MaxList + 1, 3 * impl.MaxList} {
		wantBadRequest(t, "too many bindings", request(docWith(field("size")), manyBindings(n)...))
		wantBadRequest(t, "too many bindings", request(impl.Doc{}, make([]impl.Binding, n)...))
	}
}

// A request need not be one that can be run.
func TestRequestsThatAreRight(t *testing.T) {
	for _, text := range []string{"{ size }", "{ nothing }", "{ a } { b } mutation { c }", "fragment f on T { ... f }", richText} {
		d := wantDocRead(t, text)
		for _, vars := range rightBindings() {
			if !impl.RequestOK(request(d, vars...)) || !impl.SameRequest(request(d, vars...), request(d, vars...)) {
				t.Errorf("RequestOK of %q with %v = false", text, vars)
			}
		}
	}
	for _, d := range []impl.Doc{docWith(fields(60)...), docOf(slices.Repeat([]impl.Def{query("", field("a"))}, 6)...), deepDoc(7, impl.SeField), deepDoc(7, impl.SeInline)} {
		if !impl.RequestOK(request(d, manyBindings(8)...)) {
			t.Error("RequestOK of a full document = false")
		}
	}
}

// plainTexts are of all sorts of values that are no variables.
func plainTexts() map[string]impl.Value {
	return map[string]impl.Value{
		"0": intValue(0), "1": intValue(1), "-1": intValue(-1), "9": intValue(9), "10": intValue(10), "-10": intValue(-10), "1000000000": intValue(1000000000),
		"2147483647": intValue(2147483647), "-2147483648": intValue(-2147483648), "2147483646": intValue(2147483646), "-2147483647": intValue(-2147483647),
		"true": yes, "false": no, "null": null,
	}
}

func TestRequestText(t *testing.T) {
	size := docWith(field("size"))
	wantToldRequest(t, request(size), "query { size }")
	wantToldRequest(t, request(docOf(mutation("m", field("a")), fragment("f", "T", spread("f")))), "mutation m { a } fragment f on T { ... f }")
	for text, v := range plainTexts() {
		wantToldRequest(t, request(size, binding("x", v)), "x="+text+" | query { size }")
		wantToldRequest(t, request(size, binding("b", no), binding("x", v), binding("c", null)), "b=false x="+text+" c=null | query { size }")
	}
	long := strings.Repeat("n", 40)
	for _, name := range append([]string{"a", "Z", "_", "_9", "a0", "x_y", long}, languageWords...) {
		wantToldRequest(t, request(size, binding(name, yes)), name+"=true | query { size }")
		wantToldRequest(t, request(size, binding("other", intValue(-5)), binding(name, null)), "other=-5 "+name+"=null | query { size }")
	}
	wantToldRequest(t, request(size, runVars()...), "x=1 y=7 z=8 m=-1 b=2147483647 n=null t=true f=false | query { size }")
	wantToldRequest(t, request(size, manyBindings(8)...), "v0=0 v1=1 v2=2 v3=3 v4=4 v5=5 v6=6 v7=7 | query { size }")
	d := wantDocRead(t, richText)
	wantToldRequest(t, request(d), richText)
	wantToldRequest(t, request(d, binding("v", intValue(3)), binding("b", yes)), "v=3 b=true | "+richText)
	text := ""
	for n := range 9 {
		if n > 0 {
			text += "v" + string(rune('0'+n-1)) + "=" + string(rune('0'+n-1)) + " "
			wantToldRequest(t, request(d, manyBindings(n)...), text+"| "+richText)
		}
	}
}

// The greatest right request that there is, by its text: all names are long, all lists full.
func TestTheGreatestRequestIsReadBack(t *testing.T) {
	long := strings.Repeat("W", 39)
	name := varValue(long + "v")
	full := impl.Sel{Kind: impl.SeField, Alias: name.T, Name: name.T, Args: slices.Repeat([]impl.Arg{arg(name.T, name)}, 4), Dirs: slices.Repeat([]impl.Dir{include(name)}, 4)}
	var vars []impl.Binding
	for _, c := range "abcdefgh" {
		vars = append(vars, binding(long+string(c), intValue(-2147483648)))
	}
	ahead := ""
	for _, b := range vars {
		ahead += b.Name + "=-2147483648 "
	}
	for _, d := range []impl.Doc{
		docOf(slices.Repeat([]impl.Def{fragment(name.T, name.T, slices.Repeat([]impl.Sel{full}, 10)...)}, 6)...),
		docWith(slices.Repeat([]impl.Sel{full}, 60)...),
	} {
		text, _ := impl.PrintDoc(d)
		wantToldRequest(t, request(d, vars...), ahead+"| "+text)
		if len(ahead+"| "+text) > impl.MaxText {
			t.Error("the greatest request is too long to be read")
		}
	}
}

// codesOfRequests are all that chapter 10 tells of a document and variables, but for ErrBad.
var codesOfRequests = []int{
	impl.OK, impl.ErrMany, impl.ErrTwice, impl.ErrNone, impl.ErrDeep, impl.ErrField, impl.ErrArg, impl.ErrLeaf, impl.ErrFragment, impl.ErrCycle, impl.ErrMerge, impl.ErrVariable,
}

func wantRequestCode(t *testing.T, q impl.Request, want int) {
	t.Helper()
	if k, code := impl.RequestCode(q); k != want || code != impl.OK {
		t.Errorf("RequestCode of %s = %d, %d, want %d", brief(q), k, code, want)
	}
	if _, code := impl.Execute(q.Doc, q.Vars, nil); code != want {
		t.Errorf("Execute of %s = %d, want %d", brief(q), code, want)
	}
}

func TestRequestCode(t *testing.T) {
	came := map[int]int{}
	for _, d := range runDocs(t) {
		for _, v := range varsCases() {
			q := request(d.doc, v.vars...)
			want := d.codeOf(v)
			came[want]++
			if want == impl.ErrBad {
				wantBadRequest(t, d.text, q)
				continue
			}
			wantRequestCode(t, q, want)
		}
	}
	deep := wantDocRead(t, "{ size } fragment f on Node { next { next { next { next { next { next { ... g } } } } } } } fragment g on Node { next { next { next { next { next { next { id } } } } } } }")
	for _, vars := range rightBindings() {
		wantRequestCode(t, request(deep, vars...), impl.ErrDeep)
		came[impl.ErrDeep]++
	}
	for _, code := range codesOfRequests {
		if came[code] == 0 {
			t.Errorf("code %d did not come", code)
		}
	}
}

// What is read by a text has its code by it: of bindings too.
func TestRequestCodeOfTexts(t *testing.T) {
	for text, want := range map[string]int{
		"{ size }": impl.OK, "x=1 | { node(id: $x) { id } }": impl.OK, "x=null | { node(id: $x) { id } }": impl.OK, "b=true | { size @skip(if: $b) }": impl.OK, "b=false c=1 | { size @include(if: $b) }": impl.OK,
		"y=1 | { node(id: $x) { id } }": impl.ErrVariable, "X=1 | { node(id: $x) { id } }": impl.ErrVariable, "x=true | { node(id: $x) { id } }": impl.ErrVariable, "x=false | { node(id: $x) { id } }": impl.ErrVariable, "{ node(id: $x) { id } }": impl.ErrVariable,
		"b=1 | { size @skip(if: $b) }": impl.ErrVariable, "b=0 | { size @skip(if: $b) }": impl.ErrVariable, "b=null | { size @skip(if: $b) }": impl.ErrVariable, "{ size @skip(if: $b) }": impl.ErrVariable,
		"{ nothing }": impl.ErrField, "b=1 | { nothing @skip(if: $b) }": impl.ErrField, "{ size } { size }": impl.ErrMany, "fragment f on Node { id }": impl.ErrNone, "{ size } fragment f on Node { id } fragment f on Node { id }": impl.ErrTwice,
		"{ node { id } }": impl.ErrArg, "{ nodes }": impl.ErrLeaf, "{ ... f }": impl.ErrFragment, "{ size } fragment f on Node { ... f }": impl.ErrCycle, "{ a: size a: __typename }": impl.ErrMerge,
	} {
		q, code := impl.ReadRequest(text)
		if code != impl.OK {
			t.Errorf("ReadRequest(%q) = %d", text, code)
		}
		wantRequestCode(t, q, want)
	}
}

// requestVariants are right, and no two of them are alike: most differ from the first in one thing alone.
func requestVariants(t *testing.T) (list []impl.Request) {
	t.Helper()
	const doc = "query q { x: y(p: 1 q: $v) @skip(if: true) @include(if: $b) { z ... f ... on T { a } } } fragment f on T { b }"
	base := func() []impl.Binding {
		return []impl.Binding{binding("v", intValue(1)), binding("b", yes), binding("n", null)}
	}
	d := wantDocRead(t, doc)
	for i := range base() {
		for _, v := range []impl.Value{intValue(0), intValue(1), intValue(2), intValue(-1), intValue(impl.MaxInt), yes, no, null} {
			if vars := base(); vars[i].Value != v {
				vars[i].Value = v
				list = append(list, request(d, vars...))
			}
		}
		for _, name := range []string{"w", "V", "vv", "v_", strings.Repeat("v", 40)} {
			vars := base()
			vars[i].Name = name
			list = append(list, request(d, vars...))
		}
		list = append(list, request(d, slices.Delete(base(), i, i+1)...), request(d, slices.Insert(base(), i, binding("more", no))...))
	}
	b := base()
	list = append(list, request(d, base()...), request(d), request(d, b[1], b[0], b[2]), request(d, b[0], b[2], b[1]), request(d, b[2], b[1], b[0]), request(d, append(base(), binding("more", no))...))
	for _, change := range [][2]string{
		{"query q", "mutation q"}, {"query q", "query"}, {"query q", "query r"}, {"x: y", "y"}, {"x: y", "z: y"}, {"x: y", "x: z"}, {"p: 1 q: $v", "p: 1"}, {"p: 1 q: $v", "q: $v p: 1"}, {"(p: 1 q: $v)", ""}, {"p: 1", "p: 2"}, {"p: 1", "p: true"}, {"p: 1", "r: 1"}, {"$v", "$w"}, {"$v", "null"},
		{"p: 1", "p: 1 p: 1"}, {"@skip(if: true)", ""}, {"@skip(if: true)", "@skip(if: false)"}, {"@skip", "@include"}, {"@include(if: $b)", ""}, {"@include(if: $b)", "@include(if: $c)"}, {"@include(if: $b)", "@include(if: $b) @include(if: $b)"}, {"{ z ... f ... on T { a } }", ""}, {"z ... f", "z"}, {"z ... f", "... f z"}, {"z ... f", "z ... g"},
		{"... f", "f"}, {"on T { a }", "on U { a }"}, {"... on T { a }", "... { a }"}, {"{ a }", "{ b }"}, {"{ a }", "{ a a }"}, {"... on T { a }", "T { a }"}, {"fragment f", "fragment g"}, {"on T { b }", "on U { b }"}, {"{ b }", "{ c }"}, {" fragment f on T { b }", ""}, {"{ b }", "{ b } fragment f on T { b }"}, {"fragment f on", "query { a } fragment f on"},
	} {
		text := strings.Replace(doc, change[0], change[1], 1)
		if text == doc {
			t.Errorf("%q is not there", change[0])
		}
		list = append(list, request(wantDocRead(t, text), base()...))
	}
	return list
}

func TestSameRequest(t *testing.T) {
	list, others := requestVariants(t), requestVariants(t)
	for i, a := range list {
		for j, b := range others {
			if impl.SameRequest(a, b) != (i == j) {
				t.Errorf("SameRequest of %s and %s = %v", brief(a), brief(b), i != j)
			}
		}
		if !impl.SameRequest(a, a) {
			t.Errorf("SameRequest of %s and itself = false", brief(a))
		}
		text, code := impl.RequestText(a)
		if code != impl.OK {
			t.Errorf("RequestText of %s = %d", brief(a), code)
		}
		wantRequest(t, text, others[i])
	}
}

// Requests of which one is right, the other one is not, though they differ in little.
func TestSameRequestOfOneThatIsRight(t *testing.T) {
	d := docWith(field("size"))
	right := request(d, binding("a", yes), binding("b", no))
	for _, wrong := range []impl.Request{
		request(d, binding("a", yes), binding("a", no)), request(d, binding("a", yes), binding("a", yes)), request(d, binding("a", yes), binding("", no)), request(d, binding("a", yes), binding("b", varValue("c"))),
		request(d, binding("a", impl.Value{Kind: impl.VaBool, N: 2}), binding("b", no)), request(d, binding("a", yes), binding("b", impl.Value{})), request(docWith(field("")), right.Vars...), request(docOf(append(d.Defs, impl.Def{})...), right.Vars...),
	} {
		wantBadRequest(t, "one that is nearly right", wrong)
		if impl.SameRequest(right, wrong) || impl.SameRequest(wrong, right) {
			t.Errorf("SameRequest of %s = true", brief(wrong))
		}
	}
}
