package tests

import (
	"cmp"
	"fmt"
	"slices"
	"strings"
	"testing"

	"loop.example/g00540/impl"
)

// wantArrival fails unless the text comes with the id of Next, and the server is that one then.
func wantArrival(t *testing.T, v impl.Server, text string, want impl.Server) impl.Server {
	t.Helper()
	x, id, code := impl.Arrive(v, text)
	if id != v.Next || code != impl.OK || !impl.ServerOK(x) {
		t.Errorf("Arrive of %.100q = id %d, %d, want %d", text, id, code, v.Next)
	}
	want.Next = v.Next + 1
	wantServer(t, "Arrive", x, want)
	wantOwnMemory(t, "Arrive", x, v, text)
	return x
}

// wantFullServer fails unless nobody comes, and the server is as it was.
func wantFullServer(t *testing.T, v impl.Server, text string) {
	t.Helper()
	x, id, code := impl.Arrive(v, text)
	if id != 0 || code != impl.ErrFull {
		t.Errorf("Arrive of %.100q = id %d, %d, want ErrFull", text, id, code)
	}
	wantServer(t, "Arrive with ErrFull", x, v)
	wantOwnMemory(t, "Arrive with ErrFull", x, v, text)
}

func withDone(v impl.Server, d impl.Done) impl.Server {
	v.Done = append(slices.Clip(v.Done), d)
	return v
}

// wantDoneAtOnce fails unless the text is done with the code as it comes.
func wantDoneAtOnce(t *testing.T, v impl.Server, text string, code int) impl.Server {
	t.Helper()
	x := wantArrival(t, v, text, withDone(v, failedOf(v.Next, len(v.Done), code)))
	wantAnswerTo(t, x, v.Next, `{"error":"`+words[code]+`"}`)
	return x
}

// wantLive fails unless the text is live as it comes, behind the others, having read nothing.
func wantLive(t *testing.T, v impl.Server, text string) impl.Server {
	t.Helper()
	q := readRequest(t, text)
	want := v
	want.Live = append(slices.Clip(v.Live), impl.Live{Id: v.Next, Since: len(v.Done), Job: impl.Job{Doc: q.Doc, Vars: q.Vars, Start: v.Store.Now}})
	x := wantArrival(t, v, text, want)
	wantNoAnswer(t, x, v.Next)
	return x
}

// wantAnswered fails unless the text is answered as it comes; it is of one that reads nothing.
func wantAnswered(t *testing.T, v impl.Server, text, answer string, puts ...impl.Put) impl.Server {
	t.Helper()
	want := v
	if len(puts) > 0 {
		want.Store = wantWritten(t, v.Store, v.Store.Now+1, puts...)
	}
	x := wantArrival(t, v, text, withDone(want, doneOf(t, v.Next, len(v.Done), want.Store.Now, len(puts) > 0, text, answer)))
	wantAnswerTo(t, x, v.Next, answer)
	return x
}

func wantAnswerTo(t *testing.T, v impl.Server, id int, want string) {
	t.Helper()
	if text, code := impl.AnswerTo(v, id); text != want || code != impl.OK {
		t.Errorf("AnswerTo %d = %.300q, %d, want %.300q", id, text, code, want)
	}
}

func wantNoAnswer(t *testing.T, v impl.Server, ids ...int) {
	t.Helper()
	for _, id := range ids {
		if text, code := impl.AnswerTo(v, id); text != "" || code != impl.ErrNone {
			t.Errorf("AnswerTo %d = %.300q, %d, want ErrNone", id, text, code)
		}
	}
}

// faultTexts are of each code that ReadRequest and RequestCode tell, but for ErrLong.
func faultTexts() map[string]int {
	texts := map[string]int{
		"": impl.ErrForm, " ": impl.ErrForm, "{": impl.ErrForm, "size": impl.ErrForm, "{ size } |": impl.ErrForm, "x | { size }": impl.ErrForm, "x=$x | { size }": impl.ErrForm, "x=1 || { size }": impl.ErrForm, "\x00": impl.ErrForm, "\xff\xfe": impl.ErrForm,
		"{a{a{a{a{a{a{a{a}}}}}}}}": impl.ErrDeep, "x=1 x=1 | {a{a{a{a{a{a{a{a}}}}}}}}": impl.ErrDeep, "{a}{a}{a}{a}{a}{a}{a}": impl.ErrMany, "{" + strings.Repeat(" size", 61) + " }": impl.ErrMany, strings.Repeat("{ ", 4001): impl.ErrMany,
		"x=1 x=1 | { size }": impl.ErrTwice, "a=1 b=1 c=1 d=1 e=1 f=1 g=1 h=1 i=1 | { size }": impl.ErrTwice, "x=1 x=1 | { nothing }": impl.ErrTwice,
		"{ size } fragment f on Node { id } fragment f on Node { id }": impl.ErrTwice, "fragment f on Node { id }": impl.ErrNone, "{ size } { size }": impl.ErrMany, "mutation { set(id: 1 value: 1) { id } } { size }": impl.ErrMany,
		"{ nothing }": impl.ErrField, "mutation { nothing }": impl.ErrField, "{ set(id: 1 value: 1) { id } }": impl.ErrField, "mutation { size }": impl.ErrField, "{ node { id } }": impl.ErrArg, "mutation { set(id: 1) { id } }": impl.ErrArg, "{ size @skip(if: 1) }": impl.ErrArg, "{ nodes }": impl.ErrLeaf, "{ size { id } }": impl.ErrLeaf,
		"{ ... f }": impl.ErrFragment, "{ ... on Node { id } }": impl.ErrFragment, "{ size } fragment f on Node { ... f }": impl.ErrCycle, "{ a: size a: __typename }": impl.ErrMerge, "{ node(id: 1) { id } node(id: 2) { id } }": impl.ErrMerge,
		"{ node(id: $x) { id } }": impl.ErrVariable, "x=true | { node(id: $x) { id } }": impl.ErrVariable, "x=1 | { size @skip(if: $x) }": impl.ErrVariable, "x=1 | mutation { set(id: $y value: 1) { id } }": impl.ErrVariable,
		"{ size } fragment f on Node { next { next { next { next { next { next { ... g } } } } } } } fragment g on Node { next { next { next { next { next { next { id } } } } } } }": impl.ErrDeep,
		"{ size } fragment p on Node {" + strings.Repeat(" ... r", 20) + " } fragment r on Node {" + strings.Repeat(" id", 20) + " }":                                                 impl.ErrMany,
	}
	for _, d := range documentParts() {
		if d.code != impl.OK {
			texts[d.text], texts["x=1 | "+d.text] = d.code, d.code
		}
	}
	return texts
}

// Done at once with such a code, with and without room among those that are live.
func TestArriveOfWhatCannotBeRun(t *testing.T) {
	came := map[int]int{}
	servers := []impl.Server{impl.NewServer(), busyServer(t), crowded(t, 3, 4), crowded(t, 4, 0), crowded(t, 4, 55), crowded(t, 0, 59), crowded(t, 1, 58)}
	for text, code := range faultTexts() {
		for _, v := range servers {
			came[code]++
			wantDoneAtOnce(t, v, text, code)
		}
	}
	for _, code := range append([]int{impl.ErrForm}, codesOfRequests[1:]...) {
		if came[code] == 0 {
			t.Errorf("code %d did not come", code)
		}
	}
	// One behind the other: each came when those ahead were done.
	v := impl.NewServer()
	for i, text := range []string{"{", "{ nothing }", "{ size } { size }"} {
		v = wantDoneAtOnce(t, v, text, []int{impl.ErrForm, impl.ErrField, impl.ErrMany}[i])
	}
}

// All codes of documents and bindings, by the texts of their requests.
func TestArriveOfRunDocs(t *testing.T) {
	came := map[int]int{}
	v := busyServer(t)
	for _, d := range runDocs(t) {
		for _, b := range varsCases() {
			text, code := impl.RequestText(request(d.doc, b.vars...))
			if code != impl.OK {
				continue
			}
			want := d.codeOf(b)
			came[want]++
			if want != impl.OK {
				wantDoneAtOnce(t, v, text, want)
			} else if d.reads > 0 {
				wantLive(t, v, text)
			}
		}
	}
	wantOften(t, came, impl.OK, impl.ErrMany, impl.ErrTwice, impl.ErrField, impl.ErrArg, impl.ErrLeaf, impl.ErrFragment, impl.ErrCycle, impl.ErrMerge, impl.ErrVariable)
}

const (
	asksValue = "x=1 | { node(id: $x) { value } }"
	asksSum   = "mutation { add(id: 1 by: 2) { value } }"
	asksSet   = "mutation { set(id: 1 value: 5) { value } }"
)

// Who needs something is live.
func TestArriveOfWhatReads(t *testing.T) {
	for _, text := range []string{asksValue, asksSum, "{ nodes { next { id } } }", "mutation { link(id: 0) { value } }", " x=1  b=null |\n{ must(id: 1) { need { id } } } # all"} {
		v := wantLive(t, impl.NewServer(), text)
		v = wantLive(t, wantLive(t, wantLive(t, v, text), asksValue), text)
		wantIds(t, v, 1, 2, 3, 4)
		wantFullServer(t, v, text)
		wantLive(t, busyServer(t), text)
		for _, n := range [][2]int{{0, 1}, {3, 0}, {3, 56}, {0, 59}, {2, 57}} {
			wantLive(t, crowded(t, n[0], n[1]), text)
		}
	}
	for _, c := range jobCases() {
		v := busyServer(t)
		v.Store = plainStoreAt(9)
		if len(c.log) > 0 {
			wantLive(t, v, askOf(t, c.text))
		}
	}
}

// askOf is the text's request with runVars.
func askOf(t *testing.T, text string) string {
	t.Helper()
	told, code := impl.RequestText(request(wantDocRead(t, text), runVars()...))
	if code != impl.OK {
		t.Fatalf("RequestText of %.100q = %d", text, code)
	}
	return told
}

// Who needs nothing is settled as it comes: at Now, or at the next hour if it writes.
func TestArriveOfWhatReadsNothing(t *testing.T) {
	for _, v := range []impl.Server{impl.NewServer(), busyServer(t), crowded(t, 3, 0), crowded(t, 3, 56), crowded(t, 0, 59)} {
		wantAnswered(t, v, "{ size }", `{"data":{"size":8}}`)
		wantAnswered(t, v, "n=null | { size must(id: $n) { id } }", `{"data":null,"errors":["must"]}`)
		wantAnswered(t, v, "{ node(id: 8) { value } }", `{"data":{"node":null}}`)
		wantAnswered(t, v, "mutation { __typename }", `{"data":{"__typename":"Mutation"}}`)
		wantAnswered(t, v, "mutation { set(id: 8 value: 5) { id } b: set(id: 1 value: 5) @skip(if: true) { id } }", `{"data":null,"errors":["set"]}`)
		wantAnswered(t, v, "mutation { set(id: 1 value: 5) { id } b: set(id: 8 value: 5) { id } }", `{"data":null,"errors":["b"]}`)
		x := wantAnswered(t, v, asksSet, `{"data":{"set":{"value":5}}}`, put(2, 5))
		if len(v.Live)+len(v.Done) < 58 {
			x = wantAnswered(t, x, asksSet, `{"data":{"set":{"value":5}}}`, put(2, 5))
			wantAnswered(t, x, "x=0 | mutation { link(id: $x) { id next { id } } a: set(id: 2 value: 1) { id } b: set(id: 2 value: 3) { value } }", `{"data":{"link":{"id":0,"next":null},"a":{"id":2},"b":{"value":3}}}`, put(1, 0), put(4, 1), put(4, 3))
		}
	}
	for _, c := range jobCases() {
		if len(c.log) == 0 {
			v := busyServer(t)
			wantAnswered(t, v, askOf(t, c.text), c.answer, c.writes...)
		}
	}
}

// At the last hour nothing more can be written.
func TestArriveAtTheLastHour(t *testing.T) {
	v := impl.Server{Store: storeAt(impl.MaxTime, plainMap()), Next: 5}
	x := wantDoneAtOnce(t, v, asksSet, impl.ErrSpent)
	x = wantAnswered(t, x, "{ size }", `{"data":{"size":8}}`)
	x = wantAnswered(t, x, "mutation { set(id: 8 value: 1) { id } }", `{"data":null,"errors":["set"]}`)
	x = wantLive(t, x, asksSum)
	x = wantDoneAtOnce(t, x, "mutation { link(id: 1) { next { id } } }", impl.ErrSpent)
	wantLive(t, x, asksValue)
	v.Store.Now--
	x = wantAnswered(t, v, asksSet, `{"data":{"set":{"value":5}}}`, put(2, 5))
	wantDoneAtOnce(t, x, asksSet, impl.ErrSpent)
}

// A gate is a server, and the codes that are told of it ahead of what the text is, and behind.
type gate struct {
	what        string
	v           impl.Server
	bad, ahead  int
	amongTheRun int
}

func gates(t *testing.T) []gate {
	t.Helper()
	last := func(v impl.Server, next int) impl.Server {
		v.Next = next
		return v
	}
	bad := func(v impl.Server) impl.Server {
		v.Store.Now--
		return v
	}
	return []gate{
		{"new", impl.NewServer(), 0, 0, 0}, {"busy", busyServer(t), 0, 0, 0}, {"4 live", crowded(t, 4, 3), 0, 0, impl.ErrFull}, {"4 live of 59", crowded(t, 4, 55), 0, 0, impl.ErrFull}, {"59 done", crowded(t, 0, 59), 0, 0, 0}, {"3 live of 59", crowded(t, 3, 56), 0, 0, 0},
		{"60 done", crowded(t, 0, 60), 0, impl.ErrFull, 0}, {"1 live of 60", crowded(t, 1, 59), 0, impl.ErrFull, 0}, {"4 live of 60", crowded(t, 4, 56), 0, impl.ErrFull, impl.ErrFull},
		{"Next 999999", last(crowded(t, 1, 1), 999999), 0, 0, 0}, {"Next 999999, 4 live", last(crowded(t, 4, 1), 999999), 0, 0, impl.ErrFull}, {"Next 1000000", last(crowded(t, 1, 1), 1000000), 0, impl.ErrFull, 0}, {"Next 1000000 alone", last(impl.NewServer(), 1000000), 0, impl.ErrFull, 0},
		{"Next 1000000, 4 live", last(crowded(t, 4, 2), 1000000), 0, impl.ErrFull, impl.ErrFull}, {"Next 1000000, 60 done", last(crowded(t, 0, 60), 1000000), 0, impl.ErrFull, 0},
		{"wrong", bad(busyServer(t)), impl.ErrBad, 0, 0}, {"wrong, 60 in all", bad(crowded(t, 4, 56)), impl.ErrBad, impl.ErrFull, impl.ErrFull}, {"wrong, Next 1000000", last(bad(crowded(t, 0, 1)), 1000000), impl.ErrBad, impl.ErrFull, 0}, {"61 in all", crowded(t, 4, 57), impl.ErrBad, impl.ErrFull, impl.ErrFull},
		{"5 live", crowded(t, 5, 0), impl.ErrBad, 0, impl.ErrFull}, {"Next 1000001", last(crowded(t, 1, 1), 1000001), impl.ErrBad, impl.ErrFull, 0}, {"Next 0", impl.Server{Store: impl.NewStore()}, impl.ErrBad, 0, 0}, {"nothing", impl.Server{}, impl.ErrBad, 0, 0},
	}
}

// A text that is too long, then a server that is not right, then no room in all, then a text that
// cannot be run, then no room among those that are live.
func TestWhichCodeOfArriveComesFirst(t *testing.T) {
	texts := map[string]int{asksValue: 0, asksSum: 0, asksSet: 0, "{ size }": 0, filled("\t{size}", impl.MaxText): 0, filled("\t{", impl.MaxText): impl.ErrForm}
	for _, text := range []string{"", "{", "{a{a{a{a{a{a{a{a}}}}}}}}", "{a}{a}{a}{a}{a}{a}{a}", "x=1 x=1 | { size }", "{ nothing }", "{ size } { size }", "{ node(id: $x) { id } }", "fragment f on Node { id }"} {
		texts[text] = faultTexts()[text]
	}
	came := map[int]int{}
	for _, g := range gates(t) {
		for text, fault := range texts {
			want := cmp.Or(g.bad, g.ahead)
			if want == impl.OK && fault == impl.OK {
				want = g.amongTheRun
			}
			came[want]++
			x, id, code := impl.Arrive(g.v, text)
			if code != want || (id == 0) != (want != impl.OK) || isZeroServer(x) != (want == impl.ErrBad) {
				t.Errorf("Arrive of %.60q at a server: %s = %s, %d, %d, want code %d", text, g.what, brief(x), id, code, want)
			}
			switch {
			case want == impl.ErrFull:
				wantFullServer(t, g.v, text)
			case want == impl.OK && fault != impl.OK:
				wantDoneAtOnce(t, g.v, text, fault)
			}
			for _, long := range []string{filled(strings.ReplaceAll(text, "\t", " ")+"\t", impl.MaxText+1), strings.Repeat("{", impl.MaxText+1), text + strings.Repeat(" ", 10*impl.MaxText)} {
				if x, id, code := impl.Arrive(g.v, long); !isZeroServer(x) || id != 0 || code != impl.ErrLong {
					t.Errorf("Arrive of %d bytes at a server: %s = %s, %d, %d", len(long), g.what, brief(x), id, code)
				}
			}
		}
	}
	wantOften(t, came, impl.OK, impl.ErrBad, impl.ErrFull)
}

func TestArriveOfMaxText(t *testing.T) {
	v := busyServer(t)
	for _, text := range []string{"\t{size}", "{size}\t", "{\tsize}", "{size}#\t", "x=1\t|{size}", "x=1|\t{size}"} {
		for _, size := range []int{impl.MaxText - 1, impl.MaxText} {
			wantAnswered(t, v, filled(text, size), `{"data":{"size":8}}`)
		}
	}
	wantLive(t, v, filled(asksValue+"\t", impl.MaxText))
	wantDoneAtOnce(t, v, strings.Repeat("{", impl.MaxText), impl.ErrMany)
	for _, sign := range []string{"|", " ", "x", "x=1 ", "\x00", "#"} {
		wantDoneAtOnce(t, v, strings.Repeat(sign, impl.MaxText/len(sign)), impl.ErrForm)
	}
}

// Ids are given up to the last one.
func TestTheLastIds(t *testing.T) {
	v := impl.Server{Store: plainStore(), Next: 999997}
	v = wantLive(t, v, asksValue)
	v = wantDoneAtOnce(t, v, "{", impl.ErrForm)
	v = wantAnswered(t, v, "{ size }", `{"data":{"size":8}}`)
	wantIds(t, v, 999997)
	wantAnswerTo(t, v, 999999, `{"data":{"size":8}}`)
	for _, text := range []string{"{", "{ size }", asksValue, ""} {
		wantFullServer(t, v, text)
	}
	v = wantStepped(t, v, 999997)
	wantAnswerTo(t, v, 999997, `{"data":{"node":{"value":10}}}`)
	wantFullServer(t, v, "{ size }")
}

// A server is filled by all sorts of texts, and is full then.
func TestArriveTillItIsFull(t *testing.T) {
	v := impl.NewServer()
	for i := range 60 {
		switch {
		case i%15 == 3 && i < 40 || i == 59:
			v = wantLive(t, v, asksValue)
		case i%3 == 0:
			v = wantDoneAtOnce(t, v, "{ nothing }", impl.ErrField)
		case i%3 == 1:
			v = wantAnswered(t, v, "{ size }", `{"data":{"size":8}}`)
		default:
			v = wantAnswered(t, v, asksSet, `{"data":{"set":{"value":5}}}`, put(2, 5))
		}
	}
	wantIds(t, v, 4, 19, 34, 60)
	for _, text := range []string{"{", "{ size }", asksValue, asksSet, ""} {
		wantFullServer(t, v, text)
	}
	// Who is done still stands among all.
	for _, id := range []int{19, 60, 4} {
		v = wantStepped(t, v, id)
		wantFullServer(t, v, "{ size }")
	}
	v = wantCancelled(t, v, 34)
	wantFullServer(t, v, "{")
	if len(v.Done) != 60 || v.Next != 61 {
		t.Error("a full server", fmt.Sprint(len(v.Done), v.Next))
	}
}
