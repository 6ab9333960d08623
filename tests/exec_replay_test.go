package tests

import (
	"slices"
	"testing"

	"loop.example/g00540/impl"
)

// wantAtomic fails unless the document runs so at the hour, by a log of what the store tells then.
func wantAtomic(t *testing.T, s impl.Store, ts int, text string, want string) {
	t.Helper()
	d := wantDocRead(t, text)
	r, log, code := impl.Atomic(s, ts, d, runVars())
	if runTold(r) != want || code != impl.OK {
		t.Errorf("Atomic of %q at %d = %s, %d, want %s", text, ts, runTold(r), code, want)
		return
	}
	holdAtomic(t, s, ts, d, runVars())
	if len(log) != len(r.Reads) {
		t.Errorf("Atomic of %q tells a log of %d", text, len(log))
	}
}

// holdAtomic holds Atomic against the runs of its log: they are one.
func holdAtomic(t *testing.T, s impl.Store, ts int, d impl.Doc, vars []impl.Binding) impl.Run {
	t.Helper()
	r, log, code := impl.Atomic(s, ts, d, vars)
	if code != impl.OK || r.Need != -1 || len(log) != len(r.Reads) {
		t.Fatalf("Atomic at %d = %s, a log of %d, %d", ts, runTold(r), len(log), code)
	}
	for i, key := range r.Reads {
		if n, code := impl.ReadAt(s, key, ts); log[i] != n || code != impl.OK {
			t.Errorf("Atomic at %d reads %d of key %d, which tells %d, %d", ts, log[i], key, n, code)
		}
	}
	whole, code := impl.Execute(d, vars, log)
	if runTold(whole) != runTold(r) || code != impl.OK {
		t.Errorf("Execute of Atomic's log = %s, %d, want %s", runTold(whole), code, runTold(r))
	}
	wantByLog(t, d, vars, log, r)
	return r
}

// At hours of now, of before, and of nothing yet: what plainStore tells then.
func TestAtomicByHours(t *testing.T) {
	s := plainStore()
	for ts := range 10 {
		for _, text := range []string{"{ nodes { value next { value } plus(by: 1) } }", "{ nodes { need { id } } size }", "mutation { add(id: 2 by: 5) { value next { id } } link(id: 0 to: $y) { next { value } } }"} {
			holdAtomic(t, s, ts, wantDocRead(t, text), runVars())
		}
	}
	const one, two, links = "{ node(id: 0) { value } }", "{ node(id: 2) { value plus(by: 1) next { id value } } }", "{ node(id: 0) { next { id value } } }"
	for ts, want := range []string{"0", "0", "20", "30", "30", "30", "30", "70", "70", "70"} {
		wantAtomic(t, s, ts, one, `reads [0] {"node":{"value":`+want+`}}`)
	}
	wantAtomic(t, s, 0, two, `reads [4 4 5] {"node":{"value":0,"plus":1,"next":null}}`)
	wantAtomic(t, s, 3, two, `reads [4 4 5] {"node":{"value":30,"plus":31,"next":null}}`)
	wantAtomic(t, s, 4, two, `reads [4 4 5 0] {"node":{"value":40,"plus":41,"next":{"id":0,"value":30}}}`)
	wantAtomic(t, s, 5, two, `reads [4 4 5] {"node":{"value":50,"plus":51,"next":null}}`)
	wantAtomic(t, s, 8, links, `reads [1] {"node":{"next":null}}`)
	wantAtomic(t, s, 9, links, `reads [1 14] {"node":{"next":{"id":7,"value":2147483647}}}`)
	wantAtomic(t, s, 9, "{ node(id: 7) { plus(by: 1) } }", `reads [14] {"node":{"plus":null}} errors [node.plus]`)
	wantAtomic(t, s, 5, "{ node(id: 7) { plus(by: -1) } }", `reads [14] {"node":{"plus":null}} errors [node.plus]`)
	wantAtomic(t, s, 2, "{ node(id: 7) { plus(by: -1) } }", `reads [14] {"node":{"plus":-1}}`)
	wantAtomic(t, s, 9, "mutation { add(id: 2 by: 1) { value } b: add(id: 2 by: 1) { value } }", `reads [4] writes [{4 91} {4 92}] {"add":{"value":91},"b":{"value":92}}`)
	wantAtomic(t, s, 1, "mutation { add(id: 2 by: 1) { value } b: add(id: 2 by: 1) { value } }", `reads [4] writes [{4 11} {4 12}] {"add":{"value":11},"b":{"value":12}}`)
}

// What is forgotten is not seen from its hour on; an elder hour tells what is left of it.
func TestAtomicBehindForgotten(t *testing.T) {
	d := wantDocRead(t, "{ nodes { value next { id value } } }")
	s := plainStore()
	for low := range 10 {
		rest, _, code := impl.Forget(s, low)
		if code != impl.OK {
			t.Fatal("Forget", code)
		}
		for ts := range 10 {
			r, there := holdAtomic(t, rest, ts, d, nil), holdAtomic(t, s, ts, d, nil)
			if ts >= low && runTold(r) != runTold(there) {
				t.Errorf("Atomic at %d, %d forgotten = %s, want %s", ts, low, runTold(r), runTold(there))
			}
		}
	}
	rest, _, _ := impl.Forget(s, 5)
	wantAtomic(t, rest, 5, "{ node(id: 2) { value } }", `reads [4] {"node":{"value":50}}`)
	wantAtomic(t, rest, 4, "{ node(id: 2) { value } }", `reads [4] {"node":{"value":0}}`)
}

// holdReplay holds Replay against its parts: Atomic of Now, WriteAll of WritesOf, AnswerOf.
func holdReplay(t *testing.T, s impl.Store, d impl.Doc, vars []impl.Binding) (impl.Store, string) {
	t.Helper()
	next, text, code := impl.Replay(s, d, vars)
	r := holdAtomic(t, s, s.Now, d, vars)
	writes, writesCode := impl.WritesOf(d, r)
	want, _, wantCode := impl.WriteAll(s, writes)
	answer, answerCode := impl.AnswerOf(d, r)
	if writesCode != impl.OK || answerCode != impl.OK || code != wantCode {
		t.Errorf("Replay has code %d, its parts %d, %d, %d", code, writesCode, wantCode, answerCode)
	}
	wantStore(t, "Replay", next, want)
	if code != impl.OK {
		answer = ""
	}
	if text != answer {
		t.Errorf("Replay answers %.300q, want %.300q", text, answer)
	}
	return next, text
}

func wantReplay(t *testing.T, s impl.Store, text, want string, puts ...impl.Put) impl.Store {
	t.Helper()
	next, answer := holdReplay(t, s, wantDocRead(t, text), runVars())
	if answer != want {
		t.Errorf("Replay of %q = %s, want %s", text, answer, want)
	}
	after, _, _ := impl.WriteAll(s, puts)
	wantStore(t, "Replay of "+text, next, after)
	return next
}

// What one leaves the next one finds.
func TestReplay(t *testing.T) {
	s := impl.NewStore()
	s = wantReplay(t, s, "{ nodes { id } }", `{"data":{"nodes":[{"id":0},{"id":1},{"id":2},{"id":3},{"id":4},{"id":5},{"id":6},{"id":7}]}}`)
	s = wantReplay(t, s, "mutation { set(id: 1 value: 10) { value } link(id: 1 to: 2) { next { value } } }", `{"data":{"set":{"value":10},"link":{"next":{"value":0}}}}`, put(2, 10), put(3, 3))
	s = wantReplay(t, s, "mutation { add(id: 1 by: $x) { value next { id } } b: add(id: 1 by: 1) { value } }", `{"data":{"add":{"value":11,"next":{"id":2}},"b":{"value":12}}}`, put(2, 12))
	s = wantReplay(t, s, "{ must(id: 1) { value need { id } } }", `{"data":{"must":{"value":12,"need":{"id":2}}}}`)
	s = wantReplay(t, s, "{ must(id: 2) { value need { id } } }", `{"data":null,"errors":["must.need"]}`)
	s = wantReplay(t, s, "mutation { set(id: 2 value: 5) { value } add(id: 1 by: $b) { id } }", `{"data":null,"errors":["add"]}`)
	s = wantReplay(t, s, "mutation { set(id: 2 value: 5) { need { id } } }", `{"data":null,"errors":["set.need"]}`)
	s = wantReplay(t, s, "mutation { set(id: 1 value: 5) @skip(if: $t) { id } __typename }", `{"data":{"__typename":"Mutation"}}`)
	s = wantReplay(t, s, "mutation { link(id: 1) { next { id } } set(id: 1 value: 12) { value } }", `{"data":{"link":{"next":null},"set":{"value":12}}}`, put(3, 0), put(2, 12))
	s = wantReplay(t, s, "{ node(id: 1) { value next { id } } b: node(id: 8) { id } }", `{"data":{"node":{"value":12,"next":null},"b":null}}`)
	if s.Now != 3 {
		t.Error("hours of three that wrote", s.Now)
	}
	wantAtomic(t, s, 1, "{ node(id: 1) { value next { id } } }", `reads [2 3] {"node":{"value":10,"next":{"id":2}}}`)
	wantAtomic(t, s, 2, "{ node(id: 1) { value next { id } } }", `reads [2 3] {"node":{"value":12,"next":{"id":2}}}`)
}

// At the last hour nothing can be run, though it would write nothing; an hour ahead of it one more is written.
func TestReplayAtTheLastHour(t *testing.T) {
	for _, text := range []string{"{ size }", "{ nodes { value } }", "{ must(id: 9) { id } }", "mutation { set(id: 1 value: 1) { id } }", "mutation { set(id: 9 value: 1) { id } }", "mutation { __typename }"} {
		d := wantDocRead(t, text)
		full := storeAt(impl.MaxTime, plainMap())
		next, answer, code := impl.Replay(full, d, nil)
		wantStore(t, "Replay of "+text, next, full)
		if answer != "" || code != impl.ErrFull {
			t.Errorf("Replay of %q at the last hour = %q, %d", text, answer, code)
		}
		near := storeAt(impl.MaxTime-1, plainMap())
		next, answer, code = impl.Replay(near, d, nil)
		if answer == "" || code != impl.OK || next.Now < near.Now {
			t.Errorf("Replay of %q ahead of the last hour = %q, %d", text, answer, code)
		}
	}
	d := wantDocRead(t, "mutation { set(id: 1 value: 1) { id } }")
	next, _, code := impl.Replay(storeAt(impl.MaxTime-1, plainMap()), d, nil)
	if next.Now != impl.MaxTime || code != impl.OK {
		t.Error("Replay of a mutation ahead of the last hour", next.Now, code)
	}
	// A run at the last hour is one as at any other: only to write it is too late.
	r, log, code := impl.Atomic(next, impl.MaxTime, d, nil)
	if writes, _ := impl.WritesOf(d, r); code != impl.OK || len(log) != 0 || !slices.Equal(writes, []impl.Put{put(2, 1)}) {
		t.Error("Atomic at the last hour", runTold(r), code)
	}
}
