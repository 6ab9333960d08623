package tests

import (
	"cmp"
	"fmt"
	"slices"
	"strings"
	"testing"

	"loop.example/g00540/impl"
)

// A runDoc is a document and the first code that is told of it, with runVars and without any variable.
type runDoc struct {
	text       string
	doc        impl.Doc
	with, bare int
	reads      int
}

// runDocs have each fault that a document may have, and none; those without one read as much as is told.
func runDocs(t *testing.T) []runDoc {
	t.Helper()
	list := []runDoc{
		{text: "{ size }"}, {text: "{ node(id: 1) { value next { id } } }", reads: 2}, {text: "mutation { set(id: 1 value: 2) { value } }"}, {text: "mutation { add(id: 1 by: 2) { value } }", reads: 1},
		{text: "{ node(id: $x) { value } }", bare: impl.ErrVariable, reads: 1}, {text: "{ size @skip(if: $t) }", bare: impl.ErrVariable}, {text: "mutation { link(id: 1 to: $n) { id } }", bare: impl.ErrVariable},
		{text: "{ size } fragment f on Node { plus(by: $x) }", bare: impl.ErrVariable},
	}
	// Variables that do not fit: bound to nothing, or to another thing, wherever they stand.
	for _, text := range []string{
		"{ node(id: $none) { id } }", "{ node(id: $t) { id } }", "{ node(id: $f) { id } }", "{ size @skip(if: $none) }", "{ size @skip(if: $x) }", "{ size @include(if: $n) }", "mutation { link(id: 1 to: $t) { id } }",
		"{ size } fragment f on Node { plus(by: $none) }", "{ size } fragment f on Node { id @skip(if: $z) }", "{ size ... @skip(if: true) { node(id: $none) { id } } }", "{ node(id: $X) { id } }",
	} {
		list = append(list, runDoc{text: text, with: impl.ErrVariable, bare: impl.ErrVariable})
	}
	// Faults that Validate tells come ahead of those of variables.
	faults := validFaults()
	faults = append(faults, partFault{"{ size }", impl.ErrMany}, partFault{"fragment p on Other { id }", impl.ErrFragment}, partFault{"fragment p on Node { next }", impl.ErrLeaf}, partFault{"fragment p on Node { plus }", impl.ErrArg})
	for _, f := range faults {
		for _, head := range []string{"{ size }", "mutation { set(id: 1 value: 2) { id } }", "{ node(id: $none) { id } }", "{ size @skip(if: $x) }"} {
			list = append(list, runDoc{text: head + " " + f.text, with: f.code, bare: f.code})
		}
	}
	for text, code := range map[string]int{
		"fragment p on Node { id }": impl.ErrNone, "{ nothing }": impl.ErrField, "mutation { size }": impl.ErrField, "{ set(id: 1 value: 2) { id } }": impl.ErrField, "{ node { id } }": impl.ErrArg, "{ node(id: null) { id } }": impl.ErrArg, "{ node(id: true) { id } }": impl.ErrArg,
		"{ must { id } }": impl.ErrArg, "mutation { add(id: 1) { id } }": impl.ErrArg, "mutation { set(id: 1 value: null) { id } }": impl.ErrArg, "mutation { link(to: 1) { id } }": impl.ErrArg, "{ size @skip(if: 1) }": impl.ErrArg, "{ nodes }": impl.ErrLeaf, "{ size { id } }": impl.ErrLeaf,
	} {
		list = append(list, runDoc{text: text, with: code, bare: code})
	}
	for i, c := range list {
		list[i].doc = wantDocRead(t, c.text)
	}
	for _, d := range []impl.Doc{{}, docWith(), docWith(impl.Sel{}), docWith(fields(61)...), docOf(query("on", field("size")), impl.Def{}), deepDoc(8, impl.SeField), endlessDocs()[0]} {
		list = append(list, runDoc{text: "what is no document", doc: d, with: impl.ErrBad, bare: impl.ErrBad})
	}
	return list
}

// A varsCase is variables, and whether they are runVars; if not, the code that is told of them.
type varsCase struct {
	vars []impl.Binding
	with bool
	code int
}

func varsCases() []varsCase {
	return []varsCase{
		{nil, false, impl.OK}, {[]impl.Binding{}, false, impl.OK}, {[]impl.Binding{binding("other", yes)}, false, impl.OK}, {runVars(), true, impl.OK}, {slices.Concat(runVars()[4:], runVars()[:4]), true, impl.OK},
		{manyBindings(9), false, impl.ErrBad}, {append(runVars()[:7:7], binding("x", intValue(1))), false, impl.ErrBad}, {[]impl.Binding{binding("x", varValue("y"))}, false, impl.ErrBad}, {make([]impl.Binding, impl.MaxList), false, impl.ErrBad},
		{make([]impl.Binding, impl.MaxList+1), false, impl.ErrLong}, {manyBindings(impl.MaxList + 1), false, impl.ErrLong},
	}
}

// codeOf is the code that is told of a document and variables, once neither is too long.
func (c runDoc) codeOf(v varsCase) int {
	switch {
	case v.code != impl.OK || c.bare == impl.ErrBad:
		return impl.ErrBad
	case v.with:
		return c.with
	}
	return c.bare
}

func longCode(v varsCase) int {
	if v.code == impl.ErrLong {
		return impl.ErrLong
	}
	return impl.OK
}

// A logCase is a log, and the codes of it by itself, long and of range.
type logCase struct {
	log       []int
	long, out int
}

func logCases() []logCase {
	var list []logCase
	for _, log := range [][]int{nil, {}, {1}, {5, 0}, {impl.MaxInt, leastInt}, {1, 2, 3}, make([]int, impl.MaxList)} {
		list = append(list, logCase{log, impl.OK, impl.OK})
	}
	for _, n := range []int{impl.MaxInt + 1, leastInt - 1, hugeInt, tinyInt} {
		for _, log := range [][]int{{n}, {0, n}, {n, 0}, {0, 0, n}, {0, 0, 0, n, 0}, append(make([]int, impl.MaxList-1), n)} {
			list = append(list, logCase{log, impl.OK, impl.ErrRange})
		}
	}
	return append(list, logCase{make([]int, impl.MaxList+1), impl.ErrLong, impl.OK}, logCase{slices.Repeat([]int{hugeInt}, 2*impl.MaxList), impl.ErrLong, impl.ErrRange})
}

func TestWhichCodeOfExecuteComesFirst(t *testing.T) {
	came := map[int]int{}
	for _, d := range runDocs(t) {
		for _, v := range varsCases() {
			for _, l := range logCases() {
				many := impl.OK
				if len(l.log) > d.reads {
					many = impl.ErrMany
				}
				want := cmp.Or(longCode(v), l.long, d.codeOf(v), l.out, many)
				came[want]++
				if want != impl.OK {
					wantNoRun(t, fmt.Sprintf("%s with %d variables by a log of %d", d.text, len(v.vars), len(l.log)), d.doc, v.vars, l.log, want)
				} else if r, code := impl.Execute(d.doc, v.vars, l.log); code != impl.OK || len(r.Reads) != len(l.log) || (r.Need == -1) != (len(l.log) == d.reads) {
					t.Errorf("Execute of %s by %v = %s, %d", d.text, l.log, runTold(r), code)
				}
			}
		}
	}
	wantOften(t, came, impl.OK, impl.ErrBad, impl.ErrLong, impl.ErrRange, impl.ErrMany, impl.ErrTwice, impl.ErrNone, impl.ErrField, impl.ErrArg, impl.ErrLeaf, impl.ErrFragment, impl.ErrCycle, impl.ErrMerge, impl.ErrVariable)
}

// An hourCase is a store and an hour, and chapter 7's code of them.
type hourCase struct {
	s    impl.Store
	ts   int
	code int
}

func hourCases() (list []hourCase) {
	for _, s := range []impl.Store{impl.NewStore(), plainStore(), storeAt(impl.MaxTime, plainMap())} {
		for _, ts := range []int{0, s.Now} {
			list = append(list, hourCase{s, ts, impl.OK})
		}
		for _, ts := range []int{-1, s.Now + 1, hugeInt, tinyInt} {
			list = append(list, hourCase{s, ts, impl.ErrRange})
		}
	}
	for _, s := range []impl.Store{{}, storeAt(8, plainMap()), storeAt(-1, nil), storeAt(impl.MaxTime+1, nil), storeWith(3, 1, impl.Version{Ts: 1, Value: 9})} {
		for _, ts := range []int{0, s.Now, -1, hugeInt} {
			list = append(list, hourCase{s, ts, impl.ErrBad})
		}
	}
	return list
}

func wantNoAtomic(t *testing.T, what string, s impl.Store, ts int, d impl.Doc, vars []impl.Binding, want int) {
	t.Helper()
	if r, log, code := impl.Atomic(s, ts, d, vars); !isZeroRun(r) || len(log) > 0 || code != want {
		t.Errorf("Atomic of %s = %s, %v, %d, want code %d", what, brief(r), log, code, want)
	}
}

func wantNoReplay(t *testing.T, what string, s impl.Store, d impl.Doc, vars []impl.Binding, want int) {
	t.Helper()
	if next, text, code := impl.Replay(s, d, vars); len(next.Chains) > 0 || next.Now != 0 || text != "" || code != want {
		t.Errorf("Replay of %s = %s, %q, %d, want code %d", what, brief(next), text, code, want)
	}
}

func TestWhichCodeOfAtomicComesFirst(t *testing.T) {
	came := map[int]int{}
	for _, d := range runDocs(t) {
		for _, v := range varsCases() {
			for _, h := range hourCases() {
				want := cmp.Or(longCode(v), h.code, d.codeOf(v))
				came[want]++
				if want != impl.OK {
					wantNoAtomic(t, fmt.Sprintf("%s with %d variables at %d", d.text, len(v.vars), h.ts), h.s, h.ts, d.doc, v.vars, want)
				} else if r, log, code := impl.Atomic(h.s, h.ts, d.doc, v.vars); code != impl.OK || r.Need != -1 || len(log) != d.reads || len(r.Reads) != d.reads {
					t.Errorf("Atomic of %s = %s, %v, %d", d.text, runTold(r), log, code)
				}
			}
		}
	}
	wantOften(t, came, impl.OK, impl.ErrBad, impl.ErrLong, impl.ErrRange, impl.ErrMany, impl.ErrTwice, impl.ErrNone, impl.ErrField, impl.ErrArg, impl.ErrLeaf, impl.ErrFragment, impl.ErrCycle, impl.ErrMerge, impl.ErrVariable)
}

func TestWhichCodeOfReplayComesFirst(t *testing.T) {
	came := map[int]int{}
	for _, d := range runDocs(t) {
		for _, v := range varsCases() {
			for _, h := range hourCases() {
				if h.ts != h.s.Now {
					continue
				}
				full := impl.OK
				if h.s.Now == impl.MaxTime {
					full = impl.ErrFull
				}
				want := cmp.Or(longCode(v), h.code, d.codeOf(v), full)
				came[want]++
				switch next, text, code := impl.Replay(h.s, d.doc, v.vars); {
				case want == impl.ErrFull:
					wantStore(t, "Replay of "+d.text, next, h.s)
					if text != "" || code != impl.ErrFull {
						t.Errorf("Replay of %s at the last hour = %q, %d", d.text, text, code)
					}
				case want != impl.OK:
					wantNoReplay(t, d.text, h.s, d.doc, v.vars, want)
				case code != impl.OK || !strings.HasPrefix(text, `{"data":`):
					t.Errorf("Replay of %s = %q, %d", d.text, text, code)
				}
			}
		}
	}
	wantOften(t, came, impl.OK, impl.ErrBad, impl.ErrLong, impl.ErrFull, impl.ErrMany, impl.ErrTwice, impl.ErrField, impl.ErrArg, impl.ErrLeaf, impl.ErrFragment, impl.ErrCycle, impl.ErrMerge, impl.ErrVariable)
}

// wantBadRuns fails unless each call that runs the document with the variables answers ErrBad alone.
func wantBadRuns(t *testing.T, what string, d impl.Doc, vars []impl.Binding) {
	t.Helper()
	for _, log := range [][]int{nil, {1}, {hugeInt}} {
		wantNoRun(t, what, d, vars, log, impl.ErrBad)
	}
	wantNoAtomic(t, what, plainStore(), 3, d, vars, impl.ErrBad)
	wantNoReplay(t, what, plainStore(), d, vars, impl.ErrBad)
}

// eachWrong hands on documents and variables of which one is not right.
func eachWrong(look func(what string, d impl.Doc, vars []impl.Binding)) {
	for _, x := range wrongSels() {
		look("a wrong selection", docWith(x), runVars())
		look("a wrong selection", docOf(query("", field("size")), fragment("f", "Node", field("id"), inline("", x))), nil)
	}
	for _, def := range wrongDefs() {
		look("a wrong definition", docOf(query("", field("size")), def), nil)
	}
	for _, d := range endlessDocs() {
		look("an endless document", d, runVars())
	}
	for _, vars := range wrongBindings() {
		look("wrong variables", docWith(field("size")), vars)
		look("wrong variables", docWith(field("nothing")), vars)
	}
}

func TestRunsOfWhatIsNotRight(t *testing.T) {
	eachWrong(func(what string, d impl.Doc, vars []impl.Binding) { wantBadRuns(t, what, d, vars) })
	for _, s := range wrongStores() {
		wantNoAtomic(t, "a wrong store", s, s.Now, docWith(field("size")), nil, impl.ErrBad)
		wantNoReplay(t, "a wrong store", s, docWith(field("size")), nil, impl.ErrBad)
		wantNoReplay(t, "a wrong store", s, docWith(field("nothing")), nil, impl.ErrBad)
	}
}
