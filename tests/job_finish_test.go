package tests

import (
	"slices"
	"testing"

	"loop.example/g00540/impl"
)

// wantFinished finishes, and fails unless the hour and the text are these, and the store as the puts leave it.
func wantFinished(t *testing.T, s impl.Store, j impl.Job, hour int, answer string, puts ...impl.Put) impl.Store {
	t.Helper()
	next, ts, text, code := impl.FinishJob(s, j)
	if ts != hour || text != answer || code != impl.OK {
		t.Errorf("FinishJob at Now %d = %d, %.300q, %d, want %d, %.300q", s.Now, ts, text, code, hour, answer)
	}
	want := s
	if len(puts) > 0 {
		want = wantWritten(t, s, s.Now+1, puts...)
	}
	wantStore(t, "FinishJob", next, want)
	wantOwnMemory(t, "FinishJob", next, s, j)
	return next
}

// wantNotFinished fails unless FinishJob answers the code, hour 0, no text, and the store as it was in memory of its own.
func wantNotFinished(t *testing.T, s impl.Store, j impl.Job, want int) {
	t.Helper()
	same, ts, text, code := impl.FinishJob(s, j)
	if ts != 0 || text != "" || code != want {
		t.Errorf("FinishJob at Now %d, of Start %d, by %s = %d, %.300q, %d, want code %d", s.Now, j.Start, brief(j.Log), ts, text, code, want)
	}
	wantStore(t, "FinishJob with a code", same, s)
	wantOwnMemory(t, "FinishJob with a code", same, s, j)
}

// wantEnd finishes the case's job, and fails unless it is refused if it writes and something that it
// read was written since, or no hour is left.
func (c jobCase) wantEnd(t *testing.T, s impl.Store, since ...int) int {
	t.Helper()
	clash := slices.ContainsFunc(c.keys, func(key int) bool { return slices.Contains(since, key) })
	switch {
	case len(c.writes) == 0:
		wantFinished(t, s, c.ended(t), c.start, c.answer)
	case clash:
		wantNotFinished(t, s, c.ended(t), impl.ErrConflict)
		return impl.ErrConflict
	case s.Now == impl.MaxTime:
		wantNotFinished(t, s, c.ended(t), impl.ErrFull)
		return impl.ErrFull
	default:
		wantFinished(t, s, c.ended(t), s.Now+1, c.answer, c.writes...)
	}
	return impl.OK
}

// plainStoreAt is plainStore as it was at an hour.
func plainStoreAt(hour int) impl.Store {
	s := plainStore()
	s.Now = hour
	for key, list := range s.Chains {
		s.Chains[key] = slices.DeleteFunc(list, func(v impl.Version) bool { return v.Ts > hour })
	}
	return s
}

// With nothing written since; with each key written by itself, whether it tells another thing then
// or not; with another one written ahead of it, and behind it.
func TestFinishJob(t *testing.T) {
	came := map[int]int{}
	for _, c := range jobCases() {
		s := plainStoreAt(c.start)
		if c.wantEnd(t, s) != impl.OK {
			t.Errorf("%q is refused alone", c.text)
		}
		for key := range 16 {
			told, _ := impl.ReadAt(s, key, s.Now)
			for _, value := range []int{told, (told + 1) & 7} {
				one := wantWritten(t, s, s.Now+1, put(key, value))
				came[c.wantEnd(t, one, key)]++
				other := (key + 3) % 16
				came[c.wantEnd(t, wantWritten(t, one, s.Now+2, put(other, 1)), key, other)]++
				came[c.wantEnd(t, wantWritten(t, one, s.Now+2, put(key, told)), key)]++
				rest, _, _ := impl.Forget(one, c.start)
				came[c.wantEnd(t, rest, key)]++
			}
		}
	}
	wantOften(t, came, impl.OK, impl.ErrConflict)
}

// At each hour from the start on, and at the last one.
func TestFinishJobLate(t *testing.T) {
	came := map[int]int{}
	for _, c := range jobCases() {
		for now := c.start; now <= 9; now++ {
			since, _ := impl.KeysSince(plainStoreAt(now), c.start)
			came[c.wantEnd(t, plainStoreAt(now), since...)]++
		}
		for _, s := range storesAfter(t, c.start) {
			since, _ := impl.KeysSince(s, c.start)
			came[c.wantEnd(t, s, since...)]++
		}
		for _, now := range []int{impl.MaxTime, impl.MaxTime - 1} {
			quiet := plainStoreAt(c.start)
			quiet.Now = now
			came[c.wantEnd(t, quiet)]++
			// A conflict is told ahead of the full store.
			for _, key := range c.keys {
				if last := wantWritten(t, plainStoreAt(c.start), c.start+1, put(key, 1)); len(c.writes) > 0 {
					last.Now = now
					wantNotFinished(t, last, c.ended(t), impl.ErrConflict)
				}
			}
		}
	}
	if came[impl.OK] < 100 || came[impl.ErrConflict] < 10 || came[impl.ErrFull] < 10 {
		t.Error("what is asked is of no use", came)
	}
}

// That something is needed is told ahead of what was written since, and of the full store.
func TestFinishJobTooEarly(t *testing.T) {
	for _, c := range jobCases() {
		for came := range c.log {
			for _, s := range append(storesAfter(t, c.start), plainStoreAt(c.start)) {
				wantUnfinished(t, s, c.job(t, came))
			}
		}
	}
}

// The words of the document, by hand: what the store, the hour, the text and the code are.
func TestFinishJobByHand(t *testing.T) {
	s := wantWritten(t, impl.NewStore(), 1, put(2, 10), put(3, 3), put(4, 20))
	look := wantNewJob(t, s, wantDocRead(t, "{ node(id: 1) { value next { value } } }"), nil)
	look = wantStep(t, s, wantStep(t, s, wantStep(t, s, look, false, 10), false, 10, 3), true, 10, 3, 20)
	add := wantStep(t, s, wantNewJob(t, s, wantDocRead(t, "mutation { add(id: 1 by: 2) { value } b: add(id: 1 by: 3) { value } }"), nil), true, 10)
	blind := wantNewJob(t, s, wantDocRead(t, "mutation { set(id: 1 value: 7) { value } }"), nil)
	fails := wantStep(t, s, wantNewJob(t, s, wantDocRead(t, "mutation { set(id: 1 value: 7) { id } add(id: 2 by: 2147483647) { id } }"), nil), true, 20)

	const looked, added, set, failed = `{"data":{"node":{"value":10,"next":{"value":20}}}}`, `{"data":{"add":{"value":12},"b":{"value":15}}}`, `{"data":{"set":{"value":7}}}`, `{"data":null,"errors":["add"]}`
	first := wantFinished(t, s, add, 2, added, put(2, 15))
	wantValue(t, first, 2, 1, 10)
	wantValue(t, first, 2, 2, 15)
	// The second one of two that read and write one thing is refused, and so is the same one again.
	wantNotFinished(t, first, add, impl.ErrConflict)
	// Who only reads is not, nor who failed; both tell what was there when they began.
	wantFinished(t, first, look, 1, looked)
	wantFinished(t, first, fails, 1, failed)
	// Nor who read nothing; it is written behind what was written since.
	second := wantFinished(t, first, blind, 3, set, put(2, 7))
	wantValue(t, second, 2, 2, 15)
	wantValue(t, second, 2, 3, 7)
	// Something else was written.
	other := wantWritten(t, s, 2, put(4, 1), put(3, 0))
	wantFinished(t, other, add, 3, added, put(2, 15))
	wantFinished(t, other, look, 1, looked)
	wantFinished(t, other, fails, 1, failed)
	// Begun anew, it reads what is there now.
	again := wantStep(t, second, wantRestarted(t, second, add), true, 7)
	wantFinished(t, second, again, 4, `{"data":{"add":{"value":9},"b":{"value":12}}}`, put(2, 12))
	// At the last hour nothing more can be written; what only reads is told all the same.
	full := wantWritten(t, s, 2, put(0, 1))
	full.Now = impl.MaxTime
	wantNotFinished(t, full, add, impl.ErrFull)
	wantNotFinished(t, full, blind, impl.ErrFull)
	wantFinished(t, full, look, 1, looked)
	wantFinished(t, full, fails, 1, failed)
	wantFinished(t, full, wantStep(t, full, wantNewJob(t, full, wantDocRead(t, "{ node(id: 0) { value } }"), nil), true, 1), impl.MaxTime, `{"data":{"node":{"value":1}}}`)
}

// A key that is read twice is one thing that was read: by others that write, once and often.
func TestFinishJobOfKeysThatAreReadTwice(t *testing.T) {
	s := plainStore()
	text := "mutation { link(id: 3) { value a: value b: value c: plus(by: 1) next { id } } link2: link(id: 4) { a: value } l: link(id: 3) { d: value } set(id: 1 value: 1) { next { id } n: next { id } } }"
	j := impl.Job{Doc: wantDocRead(t, text), Start: 9, Log: make([]int, 8)}
	r, _ := impl.Execute(j.Doc, nil, j.Log)
	if !slices.Equal(r.Reads, []int{6, 6, 6, 6, 8, 6, 3, 3}) {
		t.Fatal("what is asked is of no use", r.Reads)
	}
	const answer = `{"data":{"link":{"value":0,"a":0,"b":0,"c":1,"next":null},"link2":{"a":0},"l":{"d":0},"set":{"next":null,"n":null}}}`
	wantFinished(t, s, j, 10, answer, put(7, 0), put(9, 0), put(7, 0), put(2, 1))
	for key := range 16 {
		later := wantWritten(t, wantWritten(t, s, 10, put(key, 1)), 11, put(key, 2))
		if slices.Contains([]int{3, 6, 8}, key) {
			wantNotFinished(t, later, j, impl.ErrConflict)
		} else {
			wantFinished(t, later, j, 12, answer, put(7, 0), put(9, 0), put(7, 0), put(2, 1))
		}
	}
}

// What it wrote itself it does not read: that others wrote it since is no matter.
func TestFinishJobOfWhatItWroteItself(t *testing.T) {
	s := plainStore()
	j := wantNewJob(t, s, wantDocRead(t, "mutation { set(id: 2 value: 5) { value } add(id: 2 by: 1) { value plus(by: 1) } }"), nil)
	wantNeed(t, s, j, -1)
	later := wantWritten(t, s, 10, put(4, 77))
	wantFinished(t, later, j, 11, `{"data":{"set":{"value":5},"add":{"value":6,"plus":7}}}`, put(4, 5), put(4, 6))
	// Read ahead of being written, it was read.
	j = wantStep(t, s, wantNewJob(t, s, wantDocRead(t, "mutation { add(id: 2 by: 1) { value } set(id: 2 value: 5) { value } }"), nil), true, 90)
	wantFinished(t, s, j, 10, `{"data":{"add":{"value":91},"set":{"value":5}}}`, put(4, 91), put(4, 5))
	wantNotFinished(t, later, j, impl.ErrConflict)
}

// Errors make a mutation one that only reads, wherever they stand: it is never refused, and its hour is its start.
func TestFinishJobOfMutationsWithErrors(t *testing.T) {
	for _, e := range failingParts() {
		for at := range len(rightParts()) + 1 {
			text, log, want, _ := runOfParts(slices.Insert(rightParts(), at, e))
			s := storeThatTells(t, want.Reads, log)
			j := impl.Job{Doc: wantDocRead(t, text), Vars: runVars(), Start: 1, Log: log}
			answer := `{"data":null,` + errorsText(e.path) + `}`
			wantFinished(t, s, j, 1, answer)
			later := wantWritten(t, s, 2, manyPuts(16)...)
			wantFinished(t, later, j, 1, answer)
			later.Now = impl.MaxTime
			wantFinished(t, later, j, 1, answer)
		}
	}
	text, log, want, data := runOfParts(rightParts())
	s := storeThatTells(t, want.Reads, log)
	j := impl.Job{Doc: wantDocRead(t, text), Vars: runVars(), Start: 1, Log: log}
	wantFinished(t, s, j, 2, `{"data":`+data+`}`, want.Writes...)
	wantNotFinished(t, wantWritten(t, s, 2, manyPuts(16)...), j, impl.ErrConflict)
}
