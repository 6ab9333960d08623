package tests

import (
	"math/rand"
	"reflect"
	"slices"
	"strings"
	"testing"

	"loop.example/g00540/impl"
)

// answersOfValid is all that the calls of chapter 5 answer to a schema and a document.
func answersOfValid(s impl.Schema, d impl.Doc) []any {
	op, found := impl.OpOf(d)
	cyclic, looked := impl.HasCycle(d)
	types, typed := impl.CheckTypes(s, d)
	limits, limited := impl.CheckLimits(d)
	merge, merged := impl.CheckMerge(d)
	valid, validated := impl.Validate(s, d)
	vars, used := impl.UsedVars(d)
	return []any{op, found, cyclic, looked, types, typed, limits, limited, merge, merged, valid, validated, vars, used}
}

// wantBadInValid fails unless each call that is given the schema and the document answers ErrBad and nothing else.
func wantBadInValid(t *testing.T, s impl.Schema, d impl.Doc) {
	t.Helper()
	k, code := impl.CheckTypes(s, d)
	wantSecond(t, "CheckTypes", "what is not right", k, code, impl.ErrBad)
	k, code = impl.Validate(s, d)
	wantSecond(t, "Validate", "what is not right", k, code, impl.ErrBad)
	if impl.DocOK(d) {
		return
	}
	if op, code := impl.OpOf(d); !isZeroDef(op) || code != impl.ErrBad {
		t.Errorf("OpOf of a document that is not right = %v, %d", op, code)
	}
	if ok, code := impl.HasCycle(d); ok || code != impl.ErrBad {
		t.Errorf("HasCycle of a document that is not right = %v, %d", ok, code)
	}
	k, code = impl.CheckLimits(d)
	wantSecond(t, "CheckLimits", "a document that is not right", k, code, impl.ErrBad)
	k, code = impl.CheckMerge(d)
	wantSecond(t, "CheckMerge", "a document that is not right", k, code, impl.ErrBad)
	if vars, code := impl.UsedVars(d); len(vars) > 0 || code != impl.ErrBad {
		t.Errorf("UsedVars of a document that is not right = %v, %d", vars, code)
	}
}

func TestWhatIsNotRightInValid(t *testing.T) {
	plain := impl.PlainSchema()
	f := fragment("f", "Node", field("id"))
	wantBadInValid(t, plain, impl.Doc{})
	wantBadInValid(t, impl.Schema{}, impl.Doc{})
	for _, x := range wrongSels() {
		wantBadInValid(t, plain, docWith(x))
		wantBadInValid(t, plain, docOf(f, query("", field("nodes", field("id"), x))))
		wantBadInValid(t, plain, docOf(query("", field("size")), fragment("g", "Node", spread("g"), inline("", x))))
	}
	for _, def := range wrongDefs() {
		wantBadInValid(t, plain, docOf(def))
		wantBadInValid(t, plain, docOf(f, f, def))
	}
	for _, d := range append(endlessDocs(), docWith(fields(61)...), docOf(slices.Repeat([]impl.Def{f}, 7)...), deepDoc(8, impl.SeField), deepDoc(8, impl.SeInline)) {
		wantBadInValid(t, plain, d)
		wantBadInValid(t, impl.Schema{}, d)
	}
	// A schema that is not right comes ahead of the document's faults.
	cyclic, _ := cyclicTexts()
	docs := []impl.Doc{docWith(field("size")), docWith(field("a")), docOf(f), docOf(f, f), wantDocRead(t, cyclic[1]), {}}
	for _, fields := range wrongFields() {
		for _, d := range docs {
			wantBadInValid(t, querySchema(fields...), d)
			wantBadInValid(t, schemaOf(plain.Types[2], typeDef("Query", fields...)), d)
		}
	}
	for _, s := range []impl.Schema{{}, schemaOf(plain.Types[1:]...), schemaOf(append(slices.Clone(plain.Types), plain.Types...)...), schemaOf(append(slices.Clone(plain.Types), typeDef("Int", fieldDef("a", "Int")))...)} {
		for _, d := range docs {
			wantBadInValid(t, s, d)
		}
	}
}

// An empty list and nil are the same.
func TestEmptyListsInValid(t *testing.T) {
	bare := docWith(field("size"), inline("", field("size")), spread("f"))
	full := docWith(field("size"), inline("", field("size")), spread("f"))
	for i := range full.Defs[0].Sels {
		x := &full.Defs[0].Sels[i]
		x.Args, x.Dirs = []impl.Arg{}, []impl.Dir{}
		if x.Kind != impl.SeInline {
			x.Sels = []impl.Sel{}
		}
	}
	for _, d := range []*impl.Doc{&bare, &full} {
		d.Defs = append(d.Defs, fragment("f", "Query", field("size")))
	}
	s := schemaOf(typeDef("Query", impl.FieldDef{Name: "size", Type: "Int", Args: []impl.ArgDef{}}))
	for _, schema := range []impl.Schema{s, tidySchema(s)} {
		for _, d := range []impl.Doc{bare, full} {
			if k, code := impl.Validate(schema, d); k != impl.OK || code != impl.OK {
				t.Error("Validate", k, code)
			}
		}
	}
}

// docsForValid are right documents of all sorts, and some that are not right.
func docsForValid(t *testing.T) []impl.Doc {
	t.Helper()
	random := rand.New(rand.NewSource(45))
	docs := append(multiplyingDocs(t), impl.Doc{}, docWith(fields(61)...))
	cyclic, others := cyclicTexts()
	merging, clashing := mergeTexts()
	for _, text := range append(cyclic, others...) {
		docs = append(docs, wantDocRead(t, text))
	}
	for _, set := range append(merging, clashing...) {
		docs = append(docs, wantDocRead(t, "{ "+set+" }"))
	}
	for range 60 {
		a := asker{random: random, spoiled: 100}
		docs = append(docs, a.doc(), randomDoc(random), greatDoc(random))
	}
	return docs
}

// withRoom is the list in memory of its own, where another element stands behind its end.
func withRoom[T any](list []T, behind T) []T { return append(slices.Clone(list), behind)[:len(list)] }

// behind is the element that withRoom put behind the list's end.
func behind[T any](list []T) T { return list[:len(list)+1][len(list)] }

// roomyDoc is the document with room behind its lists.
func roomyDoc(d impl.Doc) impl.Doc {
	d.Defs = withRoom(d.Defs, fragment("behind", "T", spread("behind")))
	for i := range d.Defs {
		set := withRoom(d.Defs[i].Sels, field("behind"))
		d.Defs[i].Sels = set
		for k := range set {
			x := &set[k]
			x.Args, x.Dirs, x.Sels = withRoom(x.Args, arg("behind", yes)), withRoom(x.Dirs, skip(null)), withRoom(x.Sels, field("behind"))
		}
	}
	return d
}

// wantRoomAsItWas fails if something was written behind the lists of a roomyDoc.
func wantRoomAsItWas(t *testing.T, d impl.Doc) {
	t.Helper()
	ok := reflect.DeepEqual(behind(d.Defs), fragment("behind", "T", spread("behind")))
	for _, f := range d.Defs {
		ok = ok && reflect.DeepEqual(behind(f.Sels), field("behind"))
		for _, x := range f.Sels {
			ok = ok && behind(x.Args) == arg("behind", yes) && behind(x.Dirs) == skip(null) && reflect.DeepEqual(behind(x.Sels), field("behind"))
		}
	}
	if !ok {
		t.Fatal("a call wrote behind a list of its document")
	}
}

func TestArgumentsOfValidStay(t *testing.T) {
	plain := impl.PlainSchema()
	for _, d := range docsForValid(t) {
		d = roomyDoc(d)
		ahead := tidied(d)
		answersOfValid(plain, d)
		if !reflect.DeepEqual(tidied(d), ahead) {
			t.Fatal("a call changed its document")
		}
		wantRoomAsItWas(t, d)
	}
	if !reflect.DeepEqual(tidySchema(plain), tidySchema(plainTypes())) {
		t.Error("a call changed its schema")
	}
}

func TestAnswersOfValidAreNew(t *testing.T) {
	for _, d := range docsForValid(t) {
		op, _ := impl.OpOf(d)
		again, _ := impl.OpOf(d)
		wantOwnMemory(t, "OpOf", op, d, again)
		vars, _ := impl.UsedVars(d)
		more, _ := impl.UsedVars(d)
		wantOwnMemory(t, "UsedVars", vars, d, more)
	}
	shared := fields(2)
	args, dirs := []impl.Arg{arg("b", varValue("v"))}, []impl.Dir{skip(varValue("w"))}
	twin := impl.Sel{Kind: impl.SeField, Name: "c", Alias: "x", Args: args, Dirs: dirs, Sels: shared}
	d := docOf(fragment("f", "T", twin), query("q", twin, twin, field("d", twin)))
	op, code := impl.OpOf(d)
	if code != impl.OK || !impl.SameDoc(docOf(op), docOf(d.Defs[1])) {
		t.Error("OpOf of lists that share memory", op, code)
	}
	wantOwnMemory(t, "OpOf", op, d)
	vars, code := impl.UsedVars(d)
	if code != impl.OK || strings.Join(vars, " ") != "v w" {
		t.Error("UsedVars of lists that share memory", vars, code)
	}
	op.Sels[0].Sels[0].Name, op.Sels[0].Args[0].Name, op.Sels[0].Dirs[0].Skip, vars[0] = "other", "other", false, "other"
	if shared[0].Name != "a" || args[0] != arg("b", varValue("v")) || !dirs[0].Skip || op.Sels[1].Sels[0].Name != "a" {
		t.Error("an answer's lists are its argument's")
	}
}

func TestAlikeDocumentsHaveAlikeAnswersInValid(t *testing.T) {
	docs := docsForValid(t)
	plain := impl.PlainSchema()
	var ahead [][]any
	for _, d := range docs {
		ahead = append(ahead, answersOfValid(plain, d))
	}
	slices.Reverse(docs)
	slices.Reverse(ahead)
	for i, d := range docs {
		answersOfValid(impl.Schema{}, d)
		if !reflect.DeepEqual(answersOfValid(plain, d), ahead[i]) || !reflect.DeepEqual(answersOfValid(tidySchema(plain), tidied(d)), ahead[i]) {
			t.Errorf("answers to %v hang on what was called ahead", d)
		}
	}
}
