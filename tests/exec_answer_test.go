package tests

import (
	"slices"
	"strings"
	"testing"

	"loop.example/g00540/impl"
)

func wantAnswer(t *testing.T, d impl.Doc, r impl.Run, want string) {
	t.Helper()
	if text, code := impl.AnswerOf(d, r); text != want || code != impl.OK {
		t.Errorf("AnswerOf of %s = %.300q, %d, want %.300q", brief(r), text, code, want)
	}
}

func wantWrites(t *testing.T, d impl.Doc, r impl.Run, want ...impl.Put) {
	t.Helper()
	if list, code := impl.WritesOf(d, r); !slices.Equal(list, want) || code != impl.OK {
		t.Errorf("WritesOf of %s = %s, %d, want %s", brief(r), brief(list), code, brief(want))
	}
}

func wantNoEnd(t *testing.T, what string, d impl.Doc, r impl.Run, want int) {
	t.Helper()
	if text, code := impl.AnswerOf(d, r); text != "" || code != want {
		t.Errorf("AnswerOf of %s = %.200q, %d, want code %d", what, text, code, want)
	}
	if list, code := impl.WritesOf(d, r); len(list) > 0 || code != want {
		t.Errorf("WritesOf of %s = %s, %d, want code %d", what, brief(list), code, want)
	}
}

func aQuery() impl.Doc    { return docWith(field("size")) }
func aMutation() impl.Doc { return docOf(mutation("", field("size"))) }

// A run that is handed in may be any: what it tells is taken as it is, but for what an error takes away.
func TestAnswersAndWritesOfRuns(t *testing.T) {
	out := outObject("a b", outInt(1), outList(impl.Out{}, outText("Node")))
	writes := []impl.Put{put(2, 7), put(2, 8), put(1, 0)}
	plain := impl.Run{Need: -1, Out: out, Writes: writes}
	failed := impl.Run{Need: -1, Out: out, Writes: writes, Errors: []string{"a.b", "c", "d.0.e", "a.b"}}
	for _, d := range []impl.Doc{aQuery(), aMutation(), docOf(fragment("f", "T", field("a")), query("q", spread("f")))} {
		wantAnswer(t, d, plain, `{"data":{"a":1,"b":[null,"Node"]}}`)
		wantWrites(t, d, plain, writes...)
		wantWrites(t, d, failed)
		wantAnswer(t, d, impl.Run{Need: -1}, `{"data":null}`)
		wantWrites(t, d, impl.Run{Need: -1})
		wantWrites(t, d, impl.Run{Need: -1, Errors: []string{"a"}})
	}
	wantAnswer(t, aQuery(), failed, `{"data":{"a":1,"b":[null,"Node"]},"errors":["a.b","c","d.0.e","a.b"]}`)
	wantAnswer(t, aMutation(), failed, `{"data":null,"errors":["a.b","c","d.0.e","a.b"]}`)
	wantAnswer(t, docOf(fragment("f", "T", field("a")), mutation("m", spread("f"))), failed, `{"data":null,"errors":["a.b","c","d.0.e","a.b"]}`)
	for _, c := range plainOuts() {
		wantAnswer(t, aQuery(), impl.Run{Need: -1, Out: c.o}, `{"data":`+c.text+`}`)
		wantAnswer(t, aMutation(), impl.Run{Need: -1, Out: c.o}, `{"data":`+c.text+`}`)
		wantAnswer(t, aQuery(), impl.Run{Need: -1, Out: c.o, Errors: []string{"x"}}, `{"data":`+c.text+`,"errors":["x"]}`)
		wantAnswer(t, aMutation(), impl.Run{Need: -1, Out: c.o, Errors: []string{"x"}}, `{"data":null,"errors":["x"]}`)
	}
	for _, list := range rightWrites() {
		wantWrites(t, aMutation(), impl.Run{Need: -1, Writes: list}, list...)
		wantWrites(t, aQuery(), impl.Run{Need: -1, Writes: list}, list...)
		wantAnswer(t, aMutation(), impl.Run{Need: -1, Writes: list}, `{"data":null}`)
	}
	for _, path := range rightPaths() {
		wantAnswer(t, aQuery(), impl.Run{Need: -1, Errors: []string{path}}, `{"data":null,"errors":["`+path+`"]}`)
	}
}

// What was read is not looked at.
func TestReadsOfRunsThatAreHandedIn(t *testing.T) {
	for _, reads := range [][]int{nil, {}, {3, 3}, {-1, 16, hugeInt, tinyInt}, make([]int, 100000)} {
		r := impl.Run{Need: -1, Reads: reads, Writes: []impl.Put{put(4, 5)}, Out: outInt(3)}
		wantAnswer(t, aMutation(), r, `{"data":3}`)
		wantWrites(t, aMutation(), r, put(4, 5))
	}
}

// A document need only be right and have one operation: that it can be run is not asked.
func TestDocumentsOfAnswers(t *testing.T) {
	r := impl.Run{Need: -1, Out: outInt(3), Writes: []impl.Put{put(4, 5)}}
	for _, text := range []string{
		"{ nothing }", "mutation { nothing(x: true) }", "{ a: b a: c }", "{ ... none }", "{ ... f } fragment f on T { ... f }", "{ node(id: $none) { id } }", "{ size } fragment f on Other { a } fragment g on T { b }",
		"fragment p on Node {" + strings.Repeat(" ... r", 20) + " } fragment r on Node {" + strings.Repeat(" id", 21) + " } { ... p }",
	} {
		wantAnswer(t, wantDocRead(t, text), r, `{"data":3}`)
		wantWrites(t, wantDocRead(t, text), r, put(4, 5))
	}
}

// Whatever is not right is told ahead of a run that needs something.
func TestRunsThatAreNotRight(t *testing.T) {
	needs := []int{-1, 0, 3, 15, 16, -2, hugeInt, tinyInt}
	noOps := []string{"fragment f on T { a }", "{ a } { a }", "{ a } mutation { a }", "{ a } fragment f on T { a } fragment f on U { b }", "fragment f on T { a } fragment f on T { a }"}
	right := impl.Run{Out: outInt(1), Writes: []impl.Put{put(0, 1)}, Errors: []string{"a"}}
	for _, need := range needs {
		right.Need = need
		var docs []impl.Doc
		for _, text := range noOps {
			docs = append(docs, wantDocRead(t, text))
		}
		for _, d := range append(append(docs, impl.Doc{}, docWith(), docWith(fields(61)...), deepDoc(8, impl.SeField)), endlessDocs()...) {
			wantNoEnd(t, "a document that is not right", d, right, impl.ErrBad)
			wantNoEnd(t, "a document that is not right", d, impl.Run{Need: need}, impl.ErrBad)
		}
		for _, d := range []impl.Doc{aQuery(), aMutation()} {
			wantNoRightRun(t, d, right)
			if need != -1 {
				wantNoEnd(t, "a run that needs something", d, right, impl.ErrNone)
				wantNoEnd(t, "a run that needs something", d, impl.Run{Need: need, Reads: []int{3}}, impl.ErrNone)
			}
		}
	}
	wantNoEnd(t, "a zero run", aQuery(), impl.Run{}, impl.ErrNone)
}

// wantNoRightRun spoils one part of a right run after the other.
func wantNoRightRun(t *testing.T, d impl.Doc, right impl.Run) {
	t.Helper()
	for _, o := range append(wrongOuts(), endlessOuts()...) {
		r := right
		r.Out = o
		wantNoEnd(t, "data that is not right", d, r, impl.ErrBad)
		r.Errors, r.Writes = nil, nil
		wantNoEnd(t, "data that is not right alone", d, r, impl.ErrBad)
	}
	for _, list := range wrongWrites() {
		r := right
		r.Writes = list
		wantNoEnd(t, "writes that are not right", d, r, impl.ErrBad)
		r.Errors = nil
		wantNoEnd(t, "writes that are not right without errors", d, r, impl.ErrBad)
	}
	for _, path := range wrongPaths() {
		for _, list := range [][]string{{path}, {"a", path}, {path, "a"}} {
			r := right
			r.Errors = list
			wantNoEnd(t, "a path that is not right", d, r, impl.ErrBad)
		}
	}
}

// A run has any number of errors: no chapter bounds a list within it. DataText's own list is bounded.
func TestAnswersOfManyErrors(t *testing.T) {
	for _, n := range []int{impl.MaxList - 1, impl.MaxList, impl.MaxList + 1, 5000, 3 * impl.MaxList} {
		for _, paths := range [][]string{slices.Repeat([]string{"a"}, n), append(slices.Repeat([]string{"a.0.b"}, n-1), "last.0")} {
			r := impl.Run{Need: -1, Out: outInt(1), Writes: []impl.Put{put(0, 1)}, Errors: paths}
			wantAnswer(t, aQuery(), r, `{"data":1,`+errorsText(paths...)+`}`)
			wantAnswer(t, aMutation(), r, `{"data":null,`+errorsText(paths...)+`}`)
			wantWrites(t, aQuery(), r)
			wantWrites(t, aMutation(), r)
			for _, d := range []impl.Doc{aQuery(), aMutation()} {
				wantNoEndOfMany(t, d, r)
			}
			if n > impl.MaxList {
				wantNoData(t, "many paths", r.Out, impl.ErrLong, paths...)
			} else {
				wantData(t, r.Out, `{"data":1,`+errorsText(paths...)+`}`, paths...)
			}
		}
	}
}

// wantNoEndOfMany spoils a right run of many errors: by what it needs, and by one that is no path, wherever it stands.
func wantNoEndOfMany(t *testing.T, d impl.Doc, right impl.Run) {
	t.Helper()
	for _, need := range []int{2, 0, -2} {
		r := right
		r.Need = need
		wantNoEnd(t, "a run of many errors that needs something", d, r, impl.ErrNone)
		for _, at := range []int{0, len(r.Errors) / 2, len(r.Errors) - 1} {
			r.Errors = slices.Clone(right.Errors)
			r.Errors[at] = "a..b"
			r.Need = need
			wantNoEnd(t, "many paths, one of which is none, and a need", d, r, impl.ErrBad)
			r.Need = -1
			wantNoEnd(t, "many paths, one of which is none", d, r, impl.ErrBad)
		}
	}
	wantNoEnd(t, "many errors of what is no document", impl.Doc{}, right, impl.ErrBad)
}
