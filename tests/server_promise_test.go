package tests

import (
	"math/rand"
	"slices"
	"testing"

	"loop.example/g00540/impl"
)

// A move is a call of a server: an arrival of a text, a step or a cancelling of an id, or a tick.
type move struct {
	kind byte
	id   int
	text string
}

// moved is the server behind the call. A step or a cancelling of nobody leaves it as it was.
func moved(t *testing.T, v impl.Server, m move) impl.Server {
	t.Helper()
	code := impl.OK
	switch m.kind {
	case 'a':
		v, _, code = impl.Arrive(v, m.text)
	case 's':
		v, code = impl.StepOne(v, m.id)
	case 'c':
		v, code = impl.CancelOne(v, m.id)
	case 't':
		v, _, code = impl.Tick(v)
	}
	if code != impl.OK && code != impl.ErrNone {
		t.Fatalf("%c %d %q = %d", m.kind, m.id, m.text, code)
	}
	return v
}

// randomMoves are of no more than so many that are live at once; all come to their end. Each is
// handed on with the server ahead of it.
func randomMoves(t *testing.T, random *rand.Rand, room int, also func(v impl.Server, m move)) []move {
	t.Helper()
	var list []move
	v := impl.NewServer()
	do := func(m move) {
		also(v, m)
		list = append(list, m)
		v = moved(t, v, m)
		if len(list) > 5000 {
			t.Fatalf("not all come to their end:\n%s", serverTold(v))
		}
	}
	for v.Next < 16 {
		switch n := random.Intn(16); {
		case len(v.Live) == 0 || n < 5 && len(v.Live) < room:
			do(move{kind: 'a', text: randomAsk(t, random)})
		case n == 5:
			do(move{kind: 'c', id: pick(random, v.Live...).Id})
		case n == 6:
			do(move{kind: 't'})
		default:
			do(move{kind: 's', id: pick(random, v.Live...).Id})
		}
	}
	for len(v.Live) > 0 {
		do(move{kind: 's', id: pick(random, v.Live...).Id})
	}
	return list
}

// Whoever is done has an answer, the same one ever after; whoever is live has none; nobody is lost.
func TestWhoIsDoneHasAnAnswer(t *testing.T) {
	random := rand.New(rand.NewSource(132))
	codes := map[int]int{}
	for range 60 {
		v, ahead := impl.NewServer(), impl.NewServer()
		for _, m := range randomMoves(t, random, 4, func(impl.Server, move) {}) {
			v = moved(t, v, m)
			kept := v
			kept.Done = v.Done[:len(ahead.Done)]
			kept.Live, kept.Store, kept.Next = ahead.Live, ahead.Store, ahead.Next
			wantServer(t, "what was done ahead", kept, ahead)
			ahead = v
		}
		if len(v.Live) > 0 || len(v.Done) != v.Next-1 {
			t.Fatalf("not all are done:\n%s", serverTold(v))
		}
		for _, d := range v.Done {
			codes[d.Code]++
			wantAnswerTo(t, v, d.Id, d.Text)
			if d.Text == "" {
				t.Error("an answer is empty")
			}
		}
	}
	wantOften(t, codes, impl.OK, impl.ErrCancelled)
}

// unnoticed is the server as if the one of that id had been done with a fault as it came, so many of
// those that are done standing ahead of it: only its own answer, the places of those that were done
// while it was live, and how many these were told to be, are others.
func unnoticed(t *testing.T, v impl.Server, id int) impl.Server {
	t.Helper()
	at := slices.IndexFunc(v.Done, func(d impl.Done) bool { return d.Id == id })
	if at < 0 || v.Done[at].Code != impl.ErrCancelled {
		t.Fatalf("%d is not cancelled:\n%s", id, serverTold(v))
	}
	gone := v.Done[at]
	since := func(n, other int) int {
		switch {
		case n > at && other > id:
			return n
		case other > id:
			// It came behind the one that was cancelled, and ahead of its end.
			return n + 1
		}
		return n
	}
	x := tidyServer(v)
	x.Done = slices.Delete(x.Done, at, at+1)
	for i, d := range x.Done {
		x.Done[i].Since = since(d.Since, d.Id)
	}
	for i, l := range x.Live {
		x.Live[i].Since = since(l.Since, l.Id)
	}
	x.Done = slices.Insert(x.Done, gone.Since, failedOf(id, gone.Since, impl.ErrForm))
	return x
}

// Who is cancelled leaves no other trace: all is as if a fault had come in its place.
func TestWhoIsCancelledLeavesNoTrace(t *testing.T) {
	random := rand.New(rand.NewSource(133))
	came := 0
	for range 100 {
		steps := map[int]int{}
		list := randomMoves(t, random, 3, func(v impl.Server, m move) {
			if m.kind == 's' {
				steps[m.id]++
			}
		})
		at := slices.IndexFunc(list, func(m move) bool { return m.kind == 'c' && steps[m.id] > 1 })
		if at < 0 {
			continue
		}
		came++
		// Ticks hang on who is live, so how much is forgotten may be another thing till the last one.
		list = append(list, move{kind: 't'})
		id := list[at].id
		with, without := impl.NewServer(), impl.NewServer()
		for i, m := range list {
			with = moved(t, with, m)
			if m.kind == 'a' && without.Next == id {
				m.text = "{"
			}
			without = moved(t, without, m)
			if i < at {
				continue
			}
			want := unnoticed(t, with, id)
			wantSameAt(t, without.Store, want.Store, true)
			if i < len(list)-1 {
				want.Store = without.Store
			}
			wantServer(t, "a server where one was cancelled", without, want)
		}
	}
	if came < 30 {
		t.Error("what is random is of no use", came)
	}
}

// A reader is one that only reads: what there was when it came.
type reader struct {
	steps int
	start int
	text  string
}

// readerOf is of a text that can be run; it says whether the text only reads, and reads something.
func readerOf(s impl.Store, text string) (reader, bool) {
	q, code := impl.ReadRequest(text)
	if code != impl.OK {
		return reader{}, false
	}
	run, log, code := impl.Atomic(s, s.Now, q.Doc, q.Vars)
	puts, _ := impl.WritesOf(q.Doc, run)
	answer, _ := impl.AnswerOf(q.Doc, run)
	return reader{len(log), s.Now, answer}, code == impl.OK && len(log) > 0 && len(puts) == 0
}

// Who only reads is done at its last step, with what was there when it came, whatever others do.
func TestWhoOnlyReads(t *testing.T) {
	random := rand.New(rand.NewSource(134))
	late, ended := 0, 0
	for range 80 {
		readers := map[int]*reader{}
		list := randomMoves(t, random, 4, func(v impl.Server, m move) {
			if r, reads := readerOf(v.Store, m.text); m.kind == 'a' && reads {
				readers[v.Next] = &r
			}
		})
		v := impl.NewServer()
		for _, m := range list {
			ahead := v
			v = moved(t, v, m)
			r := readers[m.id]
			if r == nil || m.kind == 'c' {
				delete(readers, m.id)
				continue
			}
			r.steps--
			if ids, _ := impl.LiveIds(v); slices.Contains(ids, m.id) != (r.steps > 0) {
				t.Fatalf("one that only reads has %d steps more:\n%s", r.steps, serverTold(v))
			}
			if r.steps > 0 {
				if l := v.Live[liveAt(t, v, m.id)]; l.Tries != 0 || l.Job.Start != r.start {
					t.Errorf("one that only reads began anew:\n%s", serverTold(v))
				}
				continue
			}
			ended++
			if d := v.Done[len(v.Done)-1]; d.Id != m.id || d.Code != impl.OK || d.Ts != r.start || d.Wrote || d.Text != r.text {
				t.Errorf("one that only reads is done by %.200q at %d, want %.200q at %d", d.Text, d.Ts, r.text, r.start)
			}
			wantStore(t, "a store that is only read", v.Store, ahead.Store)
			if v.Store.Now > r.start {
				late++
			}
			delete(readers, m.id)
		}
		if len(readers) > 0 {
			t.Error("some that only read are not done", len(readers))
		}
	}
	if late < 50 || ended < 100 {
		t.Error("what is random is of no use", late, ended)
	}
}

// The steps of three, in every order there is: each is told what one that runs alone is told.
func TestEveryOrderOfSteps(t *testing.T) {
	const reads = "{ a: node(id: 1) { value } b: node(id: 2) { value } }"
	first := wantLive(t, wantLive(t, wantLive(t, impl.NewServer(), reads), "mutation { add(id: 1 by: 1) { value } }"), "mutation { add(id: 1 by: 2) { value } add2: add(id: 2 by: 2) { value } }")
	orders := 0
	everyOrder([]int{1, 1, 2, 3, 3}, func(order []int) {
		orders++
		v := first
		for _, id := range order {
			v = moved(t, v, move{kind: 's', id: id})
		}
		wantAnswerTo(t, v, 1, `{"data":{"a":{"value":0},"b":{"value":0}}}`)
		// Who ends first of the two that write is not refused; the other one begins anew.
		one, two, hour := `{"data":{"add":{"value":1}}}`, `{"data":{"add":{"value":3},"add2":{"value":2}}}`, 2
		if slices.Max(placesOf(order, 3)) < slices.Index(order, 2) {
			one, two, hour = `{"data":{"add":{"value":3}}}`, `{"data":{"add":{"value":2},"add2":{"value":2}}}`, 1
		}
		for range 9 {
			if len(v.Live) > 0 {
				v = moved(t, v, move{kind: 's', id: v.Live[0].Id})
			}
		}
		wantAnswerTo(t, v, 2, one)
		wantAnswerTo(t, v, 3, two)
		wantStore(t, "the store at the end", wantTicked(t, v, 2, 1).Store, storeAt(2, map[int][]impl.Version{2: {{Ts: 2, Value: 3}}, 4: {{Ts: hour, Value: 2}}}))
	})
	if orders != 120 {
		t.Error("what is asked is of no use", orders)
	}
}

func placesOf(list []int, n int) (places []int) {
	for i, m := range list {
		if m == n {
			places = append(places, i)
		}
	}
	return places
}
