package tests

import (
	"slices"
	"strings"
	"testing"

	"loop.example/g00540/impl"
)

// A part is a field of a mutation with all that a run tells of it; path is empty without an error.
// Parts that are run together share no key.
type part struct {
	text, told, path string
	reads, log       []int
	writes           []impl.Put
}

// rightParts read and write nodes 0, 4 and 5.
func rightParts() []part {
	return []part{
		{text: "a: set(id: 0 value: 1) { id }", told: `"a":{"id":0}`, writes: []impl.Put{put(0, 1)}},
		{text: "b: add(id: 4 by: 2) { value next { id } }", told: `"b":{"value":12,"next":{"id":6}}`, reads: []int{8, 9}, log: []int{10, 7}, writes: []impl.Put{put(8, 12)}},
		{text: "c: link(id: 5 to: 5) { next { next { value } } }", told: `"c":{"next":{"next":{"value":-3}}}`, reads: []int{10}, log: []int{-3}, writes: []impl.Put{put(11, 6)}},
		{text: "__typename", told: `"__typename":"Mutation"`},
	}
}

// failingParts are of nodes 1, 2 and 3. What is refused writes nothing; what is null only then, by
// what it is asked for, has written.
func failingParts() []part {
	list := []part{
		{text: "e: set(id: 1 value: 5) { plus(by: $b) }", told: `"e":{"plus":null}`, path: "e.plus", writes: []impl.Put{put(2, 5)}},
		{text: "e: set(id: 1 value: $b) { value plus(by: 1) }", told: `"e":{"value":2147483647,"plus":null}`, path: "e.plus", writes: []impl.Put{put(2, impl.MaxInt)}},
		{text: "e: set(id: 2 value: 5) { value need { id } }", told: `"e":null`, path: "e.need", reads: []int{5}, log: []int{0}, writes: []impl.Put{put(4, 5)}},
		{text: "e: link(id: 3) { need { id } }", told: `"e":null`, path: "e.need", writes: []impl.Put{put(7, 0)}},
		{text: "e: link(id: 3) { need { id } value }", told: `"e":null`, path: "e.need", reads: []int{6}, log: []int{9}, writes: []impl.Put{put(7, 0)}},
		{text: "e: link(id: 3 to: 3) { next { n: next { p: plus(by: $n) } } }", told: `"e":{"next":{"n":{"p":null}}}`, path: "e.next.n.p", reads: []int{6}, log: []int{4}, writes: []impl.Put{put(7, 4)}},
		{text: "e: link(id: 1 to: 2) { need { need { id } } }", told: `"e":null`, path: "e.need.need", reads: []int{5}, log: []int{0}, writes: []impl.Put{put(3, 3)}},
		{text: "e: link(id: 1 to: 2) { next { need { id } } id }", told: `"e":{"next":null,"id":1}`, path: "e.next.need", reads: []int{5}, log: []int{0}, writes: []impl.Put{put(3, 3)}},
		{text: "e: add(id: 1 by: $b) { id }", told: `"e":null`, path: "e", reads: []int{2}, log: []int{1}},
		{text: "e: add(id: 1 by: -2147483648) { id }", told: `"e":null`, path: "e", reads: []int{2}, log: []int{-1}},
		{text: "e: add(id: 1 by: -2) { value next { plus(by: $n) } }", told: `"e":{"value":-3,"next":{"plus":null}}`, path: "e.next.plus", reads: []int{2, 3, 4}, log: []int{-1, 3, 70}, writes: []impl.Put{put(2, -3)}},
	}
	for _, text := range []string{
		"set(id: 8 value: 1)", "set(id: 2 value: $n)", "set(id: $n value: 2)", "add(id: -1 by: 1)", "add(id: 1 by: $n)", "add(id: $n by: 1)", "add(id: 9 by: 1)",
		"link(id: 8)", "link(id: $n to: 1)", "link(id: 1 to: -1)", "link(id: 1 to: $z)",
	} {
		// What is asked of it is not run.
		list = append(list, part{text: "e: " + text + " { id value next { id } }", told: `"e":null`, path: "e"})
	}
	return list
}

// runOfParts is the document of the parts, and the run and the data's text that are asked of it.
func runOfParts(list []part) (text string, log []int, want impl.Run, data string) {
	var texts, told []string
	want.Need = -1
	for _, p := range list {
		texts = append(texts, p.text)
		told = append(told, p.told)
		log = append(log, p.log...)
		want.Reads = append(want.Reads, p.reads...)
		want.Writes = append(want.Writes, p.writes...)
		if p.path != "" {
			want.Errors = append(want.Errors, p.path)
		}
	}
	return "mutation { " + strings.Join(texts, " ") + " }", log, want, "{" + strings.Join(told, ",") + "}"
}

// wantParts holds a run of the parts, in any text that comes to them, against what is told of them:
// the run has all of itself, its answer has no data, and nothing is written, if there is an error.
func wantParts(t *testing.T, text string, list ...part) {
	t.Helper()
	plain, log, want, data := runOfParts(list)
	if text == "" {
		text = plain
	}
	d := wantDocRead(t, text)
	r, code := impl.Execute(d, runVars(), log)
	out, outCode := impl.OutText(r.Out)
	if code != impl.OK || r.Need != -1 || !slices.Equal(r.Reads, want.Reads) || !slices.Equal(r.Writes, want.Writes) || !slices.Equal(r.Errors, want.Errors) || out != data || outCode != impl.OK {
		t.Errorf("Execute of %q by %v = %s, %d, want %s with data %s", text, log, runTold(r), code, runTold(want), data)
		return
	}
	wantByLog(t, d, runVars(), log, r)
	answer, writes := `{"data":`+data+`}`, want.Writes
	if len(want.Errors) > 0 {
		answer, writes = `{"data":null,`+errorsText(want.Errors...)+`}`, nil
	}
	wantAnswer(t, d, r, answer)
	wantWrites(t, d, r, writes...)
	s := storeThatTells(t, want.Reads, log)
	atomic := holdAtomic(t, s, s.Now, d, runVars())
	if runTold(atomic) != runTold(r) {
		t.Errorf("Atomic of %q = %s, Execute of its log %s", text, runTold(atomic), runTold(r))
	}
	wantReplay(t, s, text, answer, writes...)
}

// storeThatTells has what a log tells of the keys that a run reads.
func storeThatTells(t *testing.T, keys, log []int) impl.Store {
	t.Helper()
	var puts []impl.Put
	for i, key := range keys {
		puts = append(puts, put(key, log[i]))
	}
	s, _, code := impl.WriteAll(impl.NewStore(), puts)
	if code != impl.OK {
		t.Fatal("WriteAll", brief(puts), code)
	}
	return s
}

// Promise 10, of mutations without an error: all is told and written.
func TestMutationsWithoutErrors(t *testing.T) {
	list := rightParts()
	wantParts(t, "", list...)
	for i := range list {
		wantParts(t, "", list[i])
		wantParts(t, "", slices.Concat(list[i:], list[:i])...)
	}
}

// Of a mutation with an error nothing is written and the answer has no data, wherever the error
// stands; the run tells all of itself, what it read and wrote behind the error too.
func TestMutationsWithErrors(t *testing.T) {
	for _, e := range failingParts() {
		wantParts(t, "", e)
		for at := range len(rightParts()) + 1 {
			list := slices.Insert(rightParts(), at, e)
			wantParts(t, "", list...)
			text, _, _, _ := runOfParts(list)
			wantParts(t, strings.Replace(text, e.text, "... on Mutation { "+e.text+" }", 1), list...)
			wantParts(t, strings.Replace(text, e.text, "... f", 1)+" fragment f on Mutation { "+e.text+" }", list...)
		}
	}
}

// Errors stand in the order of their fields.
func TestMutationsWithSomeErrors(t *testing.T) {
	refused := part{text: "x: set(id: $z value: 1) { id }", told: `"x":null`, path: "x"}
	late := part{text: "y: link(id: 7) { need { id } value }", told: `"y":null`, path: "y.need", reads: []int{14}, log: []int{3}, writes: []impl.Put{put(15, 0)}}
	for _, e := range failingParts() {
		wantParts(t, "", refused, e)
		wantParts(t, "", e, late)
		wantParts(t, "", slices.Concat([]part{refused}, rightParts(), []part{e, late})...)
		wantParts(t, "", slices.Concat([]part{late, e}, rightParts(), []part{refused})...)
	}
}

// A node that is null without an error, as a log may tell it, is no error: it is answered and written.
func TestMutationsWithNullAndNoError(t *testing.T) {
	wantRun(t, "mutation { set(id: 1 value: 5) { need { id } } }", []int{9}, `reads [3] writes [{2 5}] {"set":null}`)
	wantRun(t, "mutation { set(id: 1 value: 5) { next { id } } }", []int{0}, `reads [3] writes [{2 5}] {"set":{"next":null}}`)
}
