package tests

import (
	"fmt"
	"slices"
	"strings"
	"testing"

	"loop.example/g00540/impl"
)

// What is read stands in the order in which the fields are run: what is in one ahead of the next one.
func TestOrderOfReads(t *testing.T) {
	wantRun(t, "{ node(id: 1) { value next { value next { id } } plus(by: 1) } a: node(id: 0) { value } }", []int{10, 3, 20, 0, 11, 5},
		`reads [2 3 4 5 2 0] {"node":{"value":10,"next":{"value":20,"next":null},"plus":12},"a":{"value":5}}`)
	wantRun(t, "{ nodes { value next { id } } }", []int{9, 0, 8, 0, 7, 0, 6, 0, 5, 0, 4, 0, 3, 0, 2, 1},
		`reads [0 1 2 3 4 5 6 7 8 9 10 11 12 13 14 15] {"nodes":[{"value":9,"next":null},{"value":8,"next":null},{"value":7,"next":null},{"value":6,"next":null},{"value":5,"next":null},{"value":4,"next":null},{"value":3,"next":null},{"value":2,"next":{"id":0}}]}`)
	wantRun(t, "{ node(id: 1) { ... f value } } fragment f on Node { next { value } }", []int{5, 40, 10}, `reads [3 8 2] {"node":{"next":{"value":40},"value":10}}`)
	// A fragment's field comes where its key first does.
	wantRun(t, "{ node(id: 1) { value ... f } } fragment f on Node { next { value } value }", []int{10, 5, 40}, `reads [2 3 8] {"node":{"value":10,"next":{"value":40}}}`)
}

// A thing that is asked twice is read twice: the log may tell another thing then.
func TestThingsThatAreReadTwice(t *testing.T) {
	wantRun(t, "{ node(id: 1) { a: value b: value plus(by: 1) value } }", []int{4, 5, 6, 7}, `reads [2 2 2 2] {"node":{"a":4,"b":5,"plus":7,"value":7}}`)
	wantRun(t, "{ a: node(id: 1) { next { id } b: next { id } need { id } } must(id: 1) { next { id } } }", []int{1, 0, 3, 4},
		`reads [3 3 3 3] {"a":{"next":{"id":0},"b":null,"need":{"id":2}},"must":{"next":{"id":3}}}`)
	wantRun(t, "mutation { set(id: 1 value: 2) { next { id } n: next { id } } }", []int{1, 2}, `reads [3 3] writes [{2 2}] {"set":{"next":{"id":0},"n":{"id":1}}}`)
}

// plus reads ahead of looking at by, add looks at by ahead of reading.
func TestReadingAndArguments(t *testing.T) {
	wantRun(t, "{ node(id: 1) { plus(by: $n) } }", nil, "needs 2")
	wantRun(t, "{ node(id: 1) { plus(by: $n) } }", []int{5}, `reads [2] {"node":{"plus":null}} errors [node.plus]`)
	wantRun(t, "mutation { add(id: 1 by: $n) { value } }", nil, `{"add":null} errors [add]`)
	wantRun(t, "mutation { add(id: 1 by: $x) { value } }", nil, "needs 2")
	wantRun(t, "mutation { add(id: 8 by: $x) { value } }", nil, `{"add":null} errors [add]`)
	wantRun(t, "mutation { add(id: 1 by: $b) { value } }", []int{1}, `reads [2] {"add":null} errors [add]`)
	wantRun(t, "mutation { set(id: 1 value: $n) { next { id } } }", nil, `{"set":null} errors [set]`)
	wantRun(t, "mutation { link(id: 1 to: $z) { value } }", nil, `{"link":null} errors [link]`)
	wantRun(t, "{ node(id: $n) { value } must(id: 8) { value } }", nil, "null errors [node must]")
}

// What was written in this run is read back from it, and does not join what was read.
func TestWhatWasWrittenIsReadBack(t *testing.T) {
	wantRun(t, "mutation { set(id: 1 value: 7) { value plus(by: 1) v: value } }", nil, `writes [{2 7}] {"set":{"value":7,"plus":8,"v":7}}`)
	wantRun(t, "mutation { set(id: 1 value: 7) { value } add(id: 1 by: 2) { value } b: add(id: 1 by: 3) { value } }", nil,
		`writes [{2 7} {2 9} {2 12}] {"set":{"value":7},"add":{"value":9},"b":{"value":12}}`)
	wantRun(t, "mutation { a: add(id: 1 by: 2) { value } b: add(id: 1 by: 3) { value } }", []int{10}, `reads [2] writes [{2 12} {2 15}] {"a":{"value":12},"b":{"value":15}}`)
	wantRun(t, "mutation { link(id: 1 to: 3) { next { id need { id } } } }", []int{5}, `reads [7] writes [{3 4}] {"link":{"next":{"id":3,"need":{"id":4}}}}`)
	wantRun(t, "mutation { a: link(id: 1 to: 2) { next { value } } b: set(id: 2 value: 5) { id } c: set(id: 1 value: 0) { next { value } value } }", []int{9},
		`reads [4] writes [{3 3} {4 5} {2 0}] {"a":{"next":{"value":9}},"b":{"id":2},"c":{"next":{"value":5},"value":0}}`)
	// Only the last one counts; what was read ahead was read, and another key's is another one's.
	wantRun(t, "mutation { a: link(id: 0 to: 7) { id } b: link(id: 0 to: 6) { id } c: link(id: 0) { next { id } value } d: link(id: 0 to: 0) { next { id } } }", []int{3},
		`reads [0] writes [{1 8} {1 7} {1 0} {1 1}] {"a":{"id":0},"b":{"id":0},"c":{"next":null,"value":3},"d":{"next":{"id":0}}}`)
	wantRun(t, "mutation { a: link(id: 7) { value } b: set(id: 7 value: -1) { value } c: add(id: 7 by: 1) { value plus(by: 1) } d: add(id: 6 by: 1) { id } }", []int{3, 5},
		`reads [14 12] writes [{15 0} {14 -1} {14 0} {12 6}] {"a":{"value":3},"b":{"value":-1},"c":{"value":0,"plus":1},"d":{"id":6}}`)
	wantRun(t, "mutation { set(id: 1 value: 7) { value } b: set(id: 2 value: 1) { need { value } } }", []int{2}, `reads [5] writes [{2 7} {4 1}] {"set":{"value":7},"b":{"need":{"value":7}}}`)
	// At both ends of what a value may be.
	wantRun(t, "mutation { set(id: 1 value: $b) { value plus(by: 0) } a: add(id: 1 by: -2147483648) { value } }", nil, `writes [{2 2147483647} {2 -1}] {"set":{"value":2147483647,"plus":2147483647},"a":{"value":-1}}`)
}

// Each field of a mutation runs on what those ahead left, also on what fields with errors left: a
// write that is refused leaves nothing, one whose node is null then leaves what it wrote.
func TestFieldsBehindErrors(t *testing.T) {
	wantRun(t, "mutation { a: add(id: 1 by: 1) { id } b: add(id: 1 by: 0) { value } }", []int{impl.MaxInt, 3}, `reads [2 2] writes [{2 3}] {"a":null,"b":{"value":3}} errors [a]`)
	wantRun(t, "mutation { a: set(id: 1 value: $n) { id } b: add(id: 1 by: 0) { value } }", []int{3}, `reads [2] writes [{2 3}] {"a":null,"b":{"value":3}} errors [a]`)
	wantRun(t, "mutation { a: link(id: 1 to: 8) { id } b: set(id: 1 value: 0) { next { id } } }", []int{3}, `reads [3] writes [{2 0}] {"a":null,"b":{"next":{"id":2}}} errors [a]`)
	wantRun(t, "mutation { a: set(id: 1 value: 5) { need { id } } b: add(id: 1 by: 1) { value } }", []int{0}, `reads [3] writes [{2 5} {2 6}] {"a":null,"b":{"value":6}} errors [a.need]`)
	wantRun(t, "mutation { a: link(id: 1) { need { id } } b: set(id: 1 value: 1) { need { id } value } }", nil, `writes [{3 0} {2 1}] {"a":null,"b":null} errors [a.need b.need]`)
	wantRun(t, "mutation { a: set(id: 1 value: 5) { plus(by: $b) value } b: add(id: 1 by: $b) { id } c: add(id: 1 by: 1) { plus(by: $n) } d: set(id: 8 value: 1) { id } }", nil,
		`writes [{2 5} {2 6}] {"a":{"plus":null,"value":5},"b":null,"c":{"plus":null},"d":null} errors [a.plus b c.plus d]`)
}

// A query with an error has its data all the same.
func TestQueriesWithErrors(t *testing.T) {
	wantRun(t, "{ node(id: $n) { id } size }", nil, `{"node":null,"size":8} errors [node]`)
	wantRun(t, "{ node(id: 1) { plus(by: $n) value } }", []int{3, 4}, `reads [2 2] {"node":{"plus":null,"value":4}} errors [node.plus]`)
}

func TestPaths(t *testing.T) {
	for text, path := range map[string]string{
		"{ node(id: $n) { id } }":                               "node",
		"{ a: node(id: $n) { id } }":                            "a",
		"{ a: node(id: 1) { need { id } } }":                    "a.need",
		"{ node(id: 1) { b: need { id } } }":                    "node.b",
		"{ a: node(id: 1) { _9: need { id } } }":                "a._9",
		"{ node: node(id: 1) { node: need { id } } }":           "node.node",
		"{ ... { a: node(id: 1) { ... { b: need { id } } } } }": "a.b",
		"{ ... f } fragment f on Query { node(id: 1) { ... g } } fragment g on Node { g: need { id } }": "node.g",
		"mutation { set: link(id: 1) { link: need { id } } }":                                           "set.link",
		"{ " + nameOfSize(40) + ": node(id: 1) { " + nameOfSize(39) + ": need { id } } }":               nameOfSize(40) + "." + nameOfSize(39),
	} {
		d := wantDocRead(t, text)
		r, code := impl.Execute(d, runVars(), nil)
		if r.Need == 3 {
			r, code = impl.Execute(d, runVars(), []int{0})
		}
		if !slices.Equal(r.Errors, []string{path}) || code != impl.OK {
			t.Errorf("Execute of %q has errors %q, %d, want %q", text, r.Errors, code, path)
		}
	}
	wantRun(t, "{ l: nodes { p: plus(by: $n) } }", []int{0, 1, 2, 3, 4, 5, 6, 7}, `reads [0 2 4 6 8 10 12 14] {"l":[{"p":null},{"p":null},{"p":null},{"p":null},{"p":null},{"p":null},{"p":null},{"p":null}]} errors [l.0.p l.1.p l.2.p l.3.p l.4.p l.5.p l.6.p l.7.p]`)
	wantRun(t, "{ nodes { next { next { n: need { id } } } } }", []int{0, 1, 1, 0, 0, 0, 0, 0, 0, 8, 8, 0},
		`reads [1 3 1 1 5 7 9 11 13 15 15 15] {"nodes":[{"next":null},{"next":{"next":null}},{"next":null},{"next":null},{"next":null},{"next":null},{"next":null},{"next":{"next":null}}]} errors [nodes.1.next.next.n nodes.7.next.next.n]`)
}

// As deep as a document may be: fields in 11 others.
func TestTheDeepestPath(t *testing.T) {
	text := "{ nodes { next { next { next { ... f } } } } } fragment f on Node { next { next { next { next { ... g } } } } } fragment g on Node { next { next { next { p: plus(by: $n) } } } }"
	d := wantDocRead(t, text)
	s := impl.NewStore()
	for id := range 8 {
		s = wantWritten(t, s, id+1, put(2*id+1, (id+1)%8+1))
	}
	r, log, code := impl.Atomic(s, s.Now, d, runVars())
	if code != impl.OK || len(r.Errors) != 8 || len(log) != 88 || !impl.OutOK(r.Out) {
		t.Fatal("Atomic of the deepest one", code, r.Errors, len(log))
	}
	for i, path := range r.Errors {
		if want := fmt.Sprintf("nodes.%d", i) + strings.Repeat(".next", 10) + ".p"; path != want {
			t.Errorf("path %q, want %q", path, want)
		}
	}
	want := strings.Repeat(`{"next":`, 10) + `{"p":null}` + strings.Repeat("}", 10)
	wantOutText(t, r.Out, `{"nodes":[`+strings.Join(slices.Repeat([]string{want}, 8), ",")+`]}`)
}

// What must be there and is not makes the one around it null, up to one that may be.
func TestWhatMustBeThere(t *testing.T) {
	for _, c := range []struct {
		text string
		log  []int
		want string
	}{
		{"{ node(id: 1) { need { id } } size }", []int{0}, `reads [3] {"node":null,"size":8} errors [node.need]`},
		{"{ node(id: 1) { need { need { id } } } size }", []int{3, 0}, `reads [3 5] {"node":null,"size":8} errors [node.need.need]`},
		{"{ node(id: 1) { next { need { id } } id } size }", []int{3, 0}, `reads [3 5] {"node":{"next":null,"id":1},"size":8} errors [node.next.need]`},
		{"{ node(id: 1) { next { need { need { need { id } } } } id } }", []int{3, 3, 3, 0}, `reads [3 5 5 5] {"node":{"next":null,"id":1}} errors [node.next.need.need.need]`},
		{"{ node(id: 1) { need { next { need { id } } } } }", []int{3, 3, 0}, `reads [3 5 5] {"node":{"need":{"next":null}}} errors [node.need.next.need]`},
		{"{ must(id: 1) { need { id } } size }", []int{0}, `reads [3] null errors [must.need]`},
		{"{ must(id: 1) { next { need { id } } } size }", []int{3, 0}, `reads [3 5] {"must":{"next":null},"size":8} errors [must.next.need]`},
		{"{ must(id: 1) { id } size a: must(id: -1) { id } }", nil, `null errors [a]`},
		{"{ must(id: $n) { id } }", nil, `null errors [must]`},
		// A value that may be null makes nothing else null.
		{"{ must(id: 1) { plus(by: $n) id } }", []int{1}, `reads [2] {"must":{"plus":null,"id":1}} errors [must.plus]`},
		{"{ must(id: 1) { next { id } id } }", []int{0}, `reads [3] {"must":{"next":null,"id":1}}`},
		{"{ node(id: 9) { id } must(id: 1) { id } }", nil, `{"node":null,"must":{"id":1}}`},
		// Null without an error, as only a log tells it, is null all the same.
		{"{ node(id: 1) { need { id } } }", []int{9}, `reads [3] {"node":null}`},
		{"{ must(id: 1) { a: need { need { id } } } size }", []int{2, -1}, `reads [3 3] null`},
		// Under another name, by a fragment, and asked twice.
		{"{ node(id: 1) { id ... f } } fragment f on Node { x: need { id } }", []int{0}, `reads [3] {"node":null} errors [node.x]`},
		{"{ node(id: 1) { next: need { id } id } }", []int{0}, `reads [3] {"node":null} errors [node.next]`},
		{"{ node(id: 1) { need: next { id } id } }", []int{0}, `reads [3] {"node":{"need":null,"id":1}}`},
		{"{ node(id: 1) { need { id } } node(id: 1) { value } }", []int{0, 7}, `reads [3 2] {"node":null} errors [node.need]`},
		{"{ node(id: 1) { __typename need { id } } __typename }", []int{0}, `reads [3] {"node":null,"__typename":"Query"} errors [node.need]`},
	} {
		wantRun(t, c.text, c.log, c.want)
	}
}

// The null goes no further than to an element of a list.
func TestWhatMustBeThereInLists(t *testing.T) {
	wantRun(t, "{ nodes { id need { id } } size }", []int{0, 3, 0, 8, 0, 0, 1, 0},
		`reads [1 3 5 7 9 11 13 15] {"nodes":[null,{"id":1,"need":{"id":2}},null,{"id":3,"need":{"id":7}},null,null,{"id":6,"need":{"id":0}},null],"size":8} errors [nodes.0.need nodes.2.need nodes.4.need nodes.5.need nodes.7.need]`)
	wantRun(t, "{ nodes { need { need { id } } } }", []int{1, 0, 1, 0, 1, 0, 1, 0, 1, 0, 1, 0, 1, 0, 1, 0},
		`reads [1 1 3 1 5 1 7 1 9 1 11 1 13 1 15 1] {"nodes":[null,null,null,null,null,null,null,null]} errors [nodes.0.need.need nodes.1.need.need nodes.2.need.need nodes.3.need.need nodes.4.need.need nodes.5.need.need nodes.6.need.need nodes.7.need.need]`)
}

// The other fields of an object that will be null are run all the same, those of objects around it too.
func TestFieldsBesideWhatMustBeThere(t *testing.T) {
	wantRun(t, "{ must(id: 8) { id } node(id: 1) { value plus(by: $n) } a: must(id: -1) { id } }", []int{4, 5}, `reads [2 2] null errors [must node.plus a]`)
	wantRun(t, "{ node(id: 1) { plus(by: $n) need { id } value p: plus(by: $b) n: need { need { id } } } size b: node(id: $n) { id } }", []int{1, 0, 2, 3, 4, 0},
		`reads [2 3 2 2 3 7] {"node":null,"size":8,"b":null} errors [node.plus node.need node.p node.n.need b]`)
	wantRun(t, "{ must(id: 1) { a: need { id } next { value b: need { plus(by: $n) c: need { id } } } d: need { id } } e: must(id: 8) { id } node(id: 2) { value } }", []int{0, 3, 40, 4, 1, 0, 0, 70},
		`reads [3 3 4 5 6 7 3 4] null errors [must.a must.next.b.plus must.next.b.c must.d e]`)
	wantRun(t, "{ node(id: 1) { need { id } value } }", []int{0}, "reads [3] needs 2")
}

// Errors of a run that stops are not told, nor what it wrote.
func TestRunsThatStop(t *testing.T) {
	wantRun(t, "{ node(id: $n) { id } b: node(id: 0) { value } }", nil, "needs 0")
	wantRun(t, "{ must(id: 9) { id } a: node(id: 7) { next { id } } }", nil, "needs 15")
	wantRun(t, "mutation { set(id: 1 value: 2) { id } add(id: 2 by: 1) { id } }", nil, "needs 4")
	wantRun(t, "mutation { set(id: 9 value: 2) { id } add(id: 2 by: 1) { id value next { id } } }", []int{5}, "reads [4] needs 5")
	wantRun(t, "{ size nodes { value } }", []int{1, 2, 3}, "reads [0 2 4] needs 6")
	wantRun(t, "{ a: node(id: 0) { value } b: node(id: 0) { value } }", nil, "needs 0")
	wantRun(t, "{ a: node(id: 0) { value } b: node(id: 0) { value } }", []int{1}, "reads [0] needs 0")
}

// greatRun is a document of as many selections as there may be, which reads again and again.
func greatRun(t *testing.T) impl.Doc {
	t.Helper()
	text := "{ nodes {"
	for i := range 19 {
		text += fmt.Sprintf(" n%d: next { ... f }", i)
	}
	text += " } } fragment f on Node {"
	for i := range 19 {
		text += fmt.Sprintf(" v%d: plus(by: %d)", i, i)
	}
	return wantDocRead(t, text+" }")
}

// The greatest runs are right ones: their logs, values and errors are within what there may be.
func TestTheGreatestRun(t *testing.T) {
	d := greatRun(t)
	s := impl.NewStore()
	var puts []impl.Put
	for id := range 8 {
		puts = append(puts, put(2*id, impl.MaxInt-9), put(2*id+1, 8-id))
	}
	s = wantWritten(t, s, 1, puts...)
	r, log, code := impl.Atomic(s, 1, d, nil)
	if code != impl.OK || r.Need != -1 || len(log) != 8*19*20 || len(r.Reads) != len(log) || len(r.Errors) != 8*19*9 || countOuts(r.Out) != 1+1+8+8*19*20 {
		t.Fatal("Atomic of the greatest one", code, r.Need, len(log), len(r.Reads), len(r.Errors), countOuts(r.Out))
	}
	whole, code := impl.Execute(d, nil, log)
	if runTold(whole) != runTold(r) || code != impl.OK {
		t.Error("Execute of the greatest log is not Atomic", code)
	}
	for i := 0; i < len(log); i += 97 {
		part, code := impl.Execute(d, nil, log[:i])
		if part.Need != r.Reads[i] || !slices.Equal(part.Reads, r.Reads[:i]) || code != impl.OK {
			t.Errorf("Execute by %d of the greatest log = needs %d, %d", i, part.Need, code)
		}
	}
	wantNoRun(t, "the greatest log and one more", d, nil, append(log, 0), impl.ErrMany)
	text, code := impl.AnswerOf(d, r)
	if code != impl.OK || strings.Count(text, "null") != len(r.Errors) {
		t.Error("AnswerOf the greatest one", code)
	}
	for _, field := range []string{"set(id: 7 value: 1) { value }", "add(id: 7 by: -1) { value }", "link(id: 7 to: 3) { next { id } }"} {
		text := "mutation {"
		for i := range 58 / (1 + strings.Count(field, "{")) {
			text += fmt.Sprintf(" m%d: %s", i, field)
		}
		wantGreatMutation(t, s, wantDocRead(t, text+" }"))
	}
}

func wantGreatMutation(t *testing.T, s impl.Store, d impl.Doc) {
	t.Helper()
	r, _, code := impl.Atomic(s, s.Now, d, nil)
	writes, _ := impl.WritesOf(d, r)
	if code != impl.OK || len(writes) != len(d.Defs[0].Sels) || len(r.Reads) > 1 {
		t.Error("Atomic of a great mutation", code, len(writes), r.Reads)
	}
	if next, _, code := impl.Replay(s, d, nil); code != impl.OK || next.Now != s.Now+1 {
		t.Error("Replay of a great mutation", code, next.Now)
	}
}
