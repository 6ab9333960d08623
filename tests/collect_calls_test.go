package tests

import (
	"math/rand"
	"reflect"
	"slices"
	"testing"

	"loop.example/g00540/impl"
)

func wantNoValue(t *testing.T, v impl.Value, vars []impl.Binding, want int) {
	t.Helper()
	if got, code := impl.ValueOf(v, vars); got != (impl.Value{}) || code != want {
		t.Errorf("ValueOf = %v, %d, want code %d", got, code, want)
	}
}

func wantNotIncluded(t *testing.T, x impl.Sel, vars []impl.Binding, want int) {
	t.Helper()
	if got, code := impl.Included(x, vars); got || code != want {
		t.Errorf("Included = %v, %d, want code %d", got, code, want)
	}
}

func wantNoGroups(t *testing.T, d impl.Doc, list []impl.Sel, vars []impl.Binding, want int) {
	t.Helper()
	if got, code := impl.Collect(d, list, vars); len(got) > 0 || code != want {
		t.Errorf("Collect = %d groups, %d, want code %d", len(got), code, want)
	}
}

func wantNoMerged(t *testing.T, list []impl.Sel) {
	t.Helper()
	if got, code := impl.MergedSels(impl.Group{Key: "a", Fields: list}); len(got) > 0 || code != impl.ErrBad {
		t.Errorf("MergedSels = %d selections, %d, want code %d", len(got), code, impl.ErrBad)
	}
}

func wantNoFit(t *testing.T, d impl.Doc, vars []impl.Binding, want int) {
	t.Helper()
	k, code := impl.VarsFit(d, vars)
	wantSecond(t, "VarsFit", "what is not right", k, code, want)
}

// wantNoBindings fails unless each call that takes bindings answers the code alone.
func wantNoBindings(t *testing.T, vars []impl.Binding, want int) {
	t.Helper()
	d := docOf(query("", field("a"), spread("f")), fragment("f", "T", field("b")))
	x := fieldWith(arg("i", varValue("v")))
	for _, v := range []impl.Value{yes, varValue("v0"), varValue("none"), {}} {
		wantNoValue(t, v, vars, want)
	}
	for _, x := range []impl.Sel{field("a"), spread("f"), inline("", x), x, spread("f", skip(varValue("none"))), {}} {
		wantNotIncluded(t, x, vars, want)
		wantNoGroups(t, d, []impl.Sel{x}, vars, want)
		wantNoGroups(t, impl.Doc{}, []impl.Sel{x}, vars, want)
		wantNoFit(t, docWith(x), vars, want)
	}
	wantNoGroups(t, d, nil, vars, want)
	wantNoFit(t, d, vars, want)
	wantNoFit(t, impl.Doc{}, vars, want)
}

func TestBindingsThatAreNotRight(t *testing.T) {
	for _, vars := range wrongBindings() {
		wantNoBindings(t, vars, impl.ErrBad)
	}
}

// Too long is told ahead of all else.
func TestListsThatAreLong(t *testing.T) {
	for _, n := range []int{impl.MaxList + 1, 3 * impl.MaxList} {
		wantNoBindings(t, manyBindings(n), impl.ErrLong)
		wantNoBindings(t, make([]impl.Binding, n), impl.ErrLong)
		for _, list := range [][]impl.Sel{fields(n), make([]impl.Sel, n)} {
			for _, vars := range [][]impl.Binding{nil, plainVars(), manyBindings(9), manyBindings(n)} {
				wantNoGroups(t, docWith(field("a")), list, vars, impl.ErrLong)
				wantNoGroups(t, impl.Doc{}, list, vars, impl.ErrLong)
			}
		}
	}
	wantNoBindings(t, make([]impl.Binding, impl.MaxList), impl.ErrBad)
	wantNoGroups(t, docWith(field("a")), make([]impl.Sel, impl.MaxList), nil, impl.ErrBad)
	wantNoGroups(t, impl.Doc{}, fields(impl.MaxList), nil, impl.ErrBad)
}

func TestValuesThatAreNotRight(t *testing.T) {
	for _, v := range wrongValues() {
		for _, vars := range rightBindings() {
			wantNoValue(t, v, vars, impl.ErrBad)
		}
	}
	// A variable of no name, or with a number, is none, though its name is bound.
	wantNoValue(t, impl.Value{Kind: impl.VaVar, N: 1, T: "t"}, plainVars(), impl.ErrBad)
	wantNoValue(t, impl.Value{Kind: impl.VaInt, N: 1, T: "t"}, plainVars(), impl.ErrBad)
}

func TestSelectionsThatAreNotRight(t *testing.T) {
	d := docOf(query("", field("a")), fragment("f", "T", field("b")))
	off := []impl.Dir{skip(yes)}
	for _, x := range wrongSels() {
		wantNotIncluded(t, x, plainVars(), impl.ErrBad)
		wantNotIncluded(t, x, nil, impl.ErrBad)
		for _, list := range [][]impl.Sel{
			{x}, {field("a"), x}, {x, field("a")}, {field("a", x)}, {field("a"), field("b", inline("", field("c"), x))}, {inline("T", x)}, {spread("f"), spread("f"), x},
			// What is skipped, or within what is skipped, must be right, too.
			{{Kind: impl.SeField, Name: "a", Dirs: off, Sels: []impl.Sel{x}}}, {{Kind: impl.SeInline, Dirs: off, Sels: []impl.Sel{field("a"), x}}},
		} {
			wantNoGroups(t, d, list, plainVars(), impl.ErrBad)
			wantNoGroups(t, d, list, nil, impl.ErrBad)
			wantNoMerged(t, list)
		}
	}
	wantNoMerged(t, []impl.Sel{field("a", field("b")), {}})
	for _, kind := range []int{impl.SeField, impl.SeInline} {
		wantNoMerged(t, deepDoc(8, kind).Defs[0].Sels)
		wantNoGroups(t, d, deepDoc(8, kind).Defs[0].Sels, nil, impl.ErrBad)
	}
}

func TestDocumentsThatAreNotRightInCollect(t *testing.T) {
	f := fragment("f", "T", field("a"))
	docs := append(endlessDocs(), impl.Doc{}, docWith(fields(61)...), docOf(slices.Repeat([]impl.Def{f}, 7)...), deepDoc(8, impl.SeField), deepDoc(8, impl.SeInline))
	for _, x := range wrongSels() {
		docs = append(docs, docWith(x), docOf(query("", field("a")), fragment("f", "T", field("a", field("b"), x))))
	}
	for _, def := range wrongDefs() {
		docs = append(docs, docOf(def), docOf(query("", field("a")), f, def))
	}
	for _, d := range docs {
		for _, vars := range [][]impl.Binding{nil, plainVars(), manyBindings(9)} {
			for _, list := range [][]impl.Sel{nil, fields(1), {spread("f")}, {{}}} {
				wantNoGroups(t, d, list, vars, impl.ErrBad)
			}
			wantNoFit(t, d, vars, impl.ErrBad)
		}
	}
}

// Lists that hold themselves are not right; those that share memory are, if they are finite.
func TestEndlessSelections(t *testing.T) {
	d := docOf(query("", field("a")), fragment("f", "T", field("b")))
	for _, list := range endlessSets() {
		wantNoGroups(t, d, list, plainVars(), impl.ErrBad)
		wantNoGroups(t, d, []impl.Sel{spread("f"), inline("", list...)}, nil, impl.ErrBad)
		wantNoMerged(t, list)
		wantNoMerged(t, append(fields(1), list...))
	}
	few := sharingSet()
	groups, code := impl.Collect(d, few, nil)
	if code != impl.OK || len(groups) != 2 || groups[0].Key != "a" || len(groups[0].Fields) != 10 || len(groups[1].Fields) != 6 {
		t.Error("Collect of lists that share memory", len(groups), code)
	}
	wantOwnMemory(t, "Collect", groups, few)
	merged, code := impl.MergedSels(impl.Group{Key: "a", Fields: few})
	if len(merged) != 9 || code != impl.OK {
		t.Error("MergedSels of lists that share memory", len(merged), code)
	}
	// Too great to be held, though they are not too deep.
	great := fields(1000)
	for range 6 {
		x := field("a", great...)
		great = slices.Repeat([]impl.Sel{x}, 1000)
	}
	wantNoGroups(t, d, great, nil, impl.ErrBad)
	wantNoMerged(t, great)
	if ok, code := impl.Included(great[0], nil); !ok || code != impl.OK {
		t.Error("Included of a great selection", ok, code)
	}
}

// Fragments that are spread again and again come once each.
func TestCollectOfSpreadsThatMultiply(t *testing.T) {
	for _, d := range multiplyingDocs(t) {
		text, _ := impl.PrintDoc(d)
		for range 2 {
			for _, f := range d.Defs {
				groups, code := impl.Collect(d, f.Sels, plainVars())
				if code != impl.OK || len(groups) > 2 {
					t.Errorf("Collect of %q = %q, %d", text, groupsText(groups), code)
				}
				for _, g := range groups {
					if len(g.Fields) > 60 {
						t.Errorf("Collect of %q has %d fields", text, len(g.Fields))
					}
				}
			}
			d.Defs[5].Sels = append(d.Defs[5].Sels, spread("f1"))
		}
	}
}

// An empty list and nil are the same.
func TestEmptyListsInCollect(t *testing.T) {
	bare := []impl.Sel{field("a"), inline("", field("b")), spread("f")}
	full := []impl.Sel{field("a"), inline("", field("b")), spread("f")}
	for i := range full {
		full[i].Args, full[i].Dirs = []impl.Arg{}, make([]impl.Dir, 0, 3)
		if full[i].Kind != impl.SeInline {
			full[i].Sels = []impl.Sel{}
		}
	}
	for _, list := range [][]impl.Sel{bare, full} {
		for _, vars := range [][]impl.Binding{nil, {}} {
			d := docOf(query("", list...), fragment("f", "T", field("c", list...)))
			groups, code := impl.Collect(d, list, vars)
			if groupsText(groups) != "a = a | b = b | c = c { a ... { b } ... f }" || code != impl.OK {
				t.Error("Collect", groupsText(groups), code)
			}
			merged, code := impl.MergedSels(impl.Group{Key: "a", Fields: list})
			if selsText(merged) != "b" || code != impl.OK {
				t.Error("MergedSels", selsText(merged), code)
			}
			for _, x := range list {
				if ok, code := impl.Included(x, vars); !ok || code != impl.OK {
					t.Error("Included", ok, code)
				}
			}
			k, code := impl.VarsFit(d, vars)
			wantCode(t, "VarsFit", "empty lists", k, code, impl.OK)
		}
	}
}

// answersOfCollect is all that the calls of chapter 6 answer to a document, its sets and bindings.
func answersOfCollect(d impl.Doc, vars []impl.Binding) []any {
	fit, fitted := impl.VarsFit(d, vars)
	answers := []any{impl.BindingsOK(vars), fit, fitted}
	for _, f := range d.Defs {
		groups, code := impl.Collect(d, f.Sels, vars)
		answers = append(answers, groups, code)
		for _, g := range groups {
			merged, code := impl.MergedSels(g)
			answers = append(answers, merged, code)
		}
		merged, code := impl.MergedSels(impl.Group{Key: "key", Fields: f.Sels})
		answers = append(answers, merged, code)
		for _, x := range f.Sels {
			ok, code := impl.Included(x, vars)
			answers = append(answers, ok, code)
			for _, a := range x.Args {
				v, code := impl.ValueOf(a.Value, vars)
				answers = append(answers, v, code)
			}
		}
	}
	return answers
}

// bindingsForCollect are of the names that docsForValid use; some are not right.
func bindingsForCollect() [][]impl.Binding {
	return [][]impl.Binding{
		nil, {binding("v", yes), binding("w", no)}, {binding("w", yes), binding("a", yes), binding("v", intValue(1))}, {binding("v", null), binding("w", yes), binding("true", no)},
		{binding("v", yes), binding("v", yes)}, {binding("v", varValue("w"))}, manyBindings(9), manyBindings(impl.MaxList + 1),
	}
}

func TestArgumentsOfCollectStay(t *testing.T) {
	for _, d := range docsForValid(t) {
		d = roomyDoc(d)
		ahead := tidied(d)
		for _, vars := range bindingsForCollect() {
			room := withRoom(vars, binding("behind", no))
			answersOfCollect(d, room)
			if !slices.Equal(room, vars) || behind(room) != binding("behind", no) {
				t.Fatal("a call changed its bindings, or what is behind them")
			}
		}
		if !reflect.DeepEqual(tidied(d), ahead) {
			t.Fatal("a call changed its document")
		}
		wantRoomAsItWas(t, d)
	}
}

func TestAnswersOfCollectAreNew(t *testing.T) {
	for _, d := range docsForValid(t) {
		for _, vars := range bindingsForCollect()[:3] {
			for _, f := range d.Defs {
				groups, _ := impl.Collect(d, f.Sels, vars)
				again, _ := impl.Collect(d, f.Sels, vars)
				wantOwnMemory(t, "Collect", groups, d, vars, again)
				for _, g := range groups {
					merged, _ := impl.MergedSels(g)
					more, _ := impl.MergedSels(g)
					wantOwnMemory(t, "MergedSels", merged, g, more)
				}
			}
		}
	}
	// Selections that share memory, in the list and in what is spread, have none in common in the answer.
	shared := fields(2)
	args, dirs := []impl.Arg{arg("b", varValue("v"))}, []impl.Dir{include(varValue("t"))}
	twin := impl.Sel{Kind: impl.SeField, Name: "c", Alias: "x", Args: args, Dirs: dirs, Sels: shared}
	d := docOf(query("", twin, twin, inline("", twin)), fragment("f", "T", twin, field("d", twin)))
	list := append(slices.Clone(d.Defs[0].Sels), spread("f"))
	vars := plainVars()
	groups, code := impl.Collect(d, list, vars)
	if code != impl.OK || len(groups) != 2 || len(groups[0].Fields) != 4 || len(groups[1].Fields) != 1 {
		t.Fatal("Collect of selections that share memory", groups, code)
	}
	wantOwnMemory(t, "Collect", groups, d, list, vars, shared, args, dirs)
	g := impl.Group{Key: "k", Fields: []impl.Sel{field("k", twin, twin), field("k", twin)}}
	merged, code := impl.MergedSels(g)
	if code != impl.OK || len(merged) != 3 {
		t.Fatal("MergedSels of selections that share memory", merged, code)
	}
	wantOwnMemory(t, "MergedSels", merged, g, shared, args, dirs)
	for _, x := range []impl.Sel{groups[0].Fields[0], merged[0]} {
		x.Args[0].Name, x.Dirs[0].Skip, x.Sels[0].Name = "other", true, "other"
	}
	if args[0] != arg("b", varValue("v")) || dirs[0] != include(varValue("t")) || shared[0].Name != "a" || groups[0].Fields[1].Sels[0].Name != "a" || merged[1].Sels[0].Name != "a" {
		t.Error("an answer's lists are its argument's")
	}
}

func TestAlikeArgumentsHaveAlikeAnswersInCollect(t *testing.T) {
	docs := docsForValid(t)
	random := rand.New(rand.NewSource(57))
	var ahead [][]any
	sets := bindingsForCollect()
	for i, d := range docs {
		ahead = append(ahead, answersOfCollect(d, sets[i%len(sets)]))
	}
	for _, i := range random.Perm(len(docs)) {
		vars := sets[i%len(sets)]
		answersOfCollect(docs[i], sets[random.Intn(len(sets))])
		if !reflect.DeepEqual(answersOfCollect(docs[i], vars), ahead[i]) || !reflect.DeepEqual(answersOfCollect(tidied(docs[i]), slices.Clone(vars)), ahead[i]) {
			t.Errorf("answers to %v hang on what was called ahead", docs[i])
		}
	}
}
