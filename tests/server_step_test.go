package tests

import (
	"fmt"
	"slices"
	"testing"

	"loop.example/g00540/impl"
)

func wantIds(t *testing.T, v impl.Server, want ...int) {
	t.Helper()
	if ids, code := impl.LiveIds(v); !slices.Equal(ids, want) || code != impl.OK {
		t.Errorf("LiveIds = %v, %d, want %v", ids, code, want)
	}
}

func liveAt(t *testing.T, v impl.Server, id int) int {
	t.Helper()
	at := slices.IndexFunc(v.Live, func(l impl.Live) bool { return l.Id == id })
	if at < 0 {
		t.Fatalf("nobody of id %d is live:\n%s", id, serverTold(v))
	}
	return at
}

// without is the server with the one at a place gone from those that are live.
func without(v impl.Server, at int) impl.Server {
	v.Live = slices.Delete(slices.Clone(v.Live), at, at+1)
	return v
}

// withLive is the server with another one at the place.
func withLive(v impl.Server, at int, l impl.Live) impl.Server {
	v.Live = slices.Clone(v.Live)
	v.Live[at] = l
	return v
}

// settled is how a live one is settled, told again by the calls of chapter 11.
func settled(t *testing.T, v impl.Server, at int) impl.Server {
	t.Helper()
	l := v.Live[at]
	for {
		next, ts, text, code := impl.FinishJob(v.Store, l.Job)
		switch code {
		case impl.ErrNone:
			return withLive(v, at, l)
		case impl.OK:
			r, _ := impl.Execute(l.Job.Doc, l.Job.Vars, l.Job.Log)
			puts, _ := impl.WritesOf(l.Job.Doc, r)
			v.Store = next
			return withDone(without(v, at), impl.Done{Id: l.Id, Since: l.Since, Ts: ts, Wrote: len(puts) > 0, Request: request(l.Job.Doc, l.Job.Vars...), Text: text})
		case impl.ErrConflict:
			if l.Tries++; l.Tries < 3 {
				l.Job, _ = impl.Restart(v.Store, l.Job)
				continue
			}
		}
		return withDone(without(v, at), failedOf(l.Id, l.Since, impl.ErrSpent))
	}
}

// wantStepped fails unless the one that is live reads what it needs, and is settled; and nobody else changes.
func wantStepped(t *testing.T, v impl.Server, id int) impl.Server {
	t.Helper()
	at := liveAt(t, v, id)
	l := v.Live[at]
	l.Job, _, _ = impl.StepJob(v.Store, l.Job)
	want := settled(t, withLive(v, at, l), at)
	x, code := impl.StepOne(v, id)
	if code != impl.OK || !impl.ServerOK(x) {
		t.Errorf("StepOne %d = %d, or it is not right", id, code)
	}
	wantServer(t, "StepOne", x, want)
	wantOwnMemory(t, "StepOne", x, v)
	return x
}

// wantCancelled fails unless the one that is live is done with ErrCancelled, and nothing else changes.
func wantCancelled(t *testing.T, v impl.Server, id int) impl.Server {
	t.Helper()
	at := liveAt(t, v, id)
	want := withDone(without(v, at), failedOf(id, v.Live[at].Since, impl.ErrCancelled))
	x, code := impl.CancelOne(v, id)
	if code != impl.OK || !impl.ServerOK(x) {
		t.Errorf("CancelOne %d = %d, or it is not right", id, code)
	}
	wantServer(t, "CancelOne", x, want)
	wantOwnMemory(t, "CancelOne", x, v)
	wantAnswerTo(t, x, id, `{"error":"cancelled"}`)
	wantNobody(t, x, id)
	return x
}

// wantNobody fails unless none of the ids is live: no call takes it, and the server is as it was.
func wantNobody(t *testing.T, v impl.Server, ids ...int) {
	t.Helper()
	for _, id := range ids {
		x, code := impl.StepOne(v, id)
		y, also := impl.CancelOne(v, id)
		if code != impl.ErrNone || also != impl.ErrNone {
			t.Errorf("StepOne %d, CancelOne = %d, %d, want ErrNone", id, code, also)
		}
		wantServer(t, "StepOne of nobody", x, v)
		wantServer(t, "CancelOne of nobody", y, v)
		wantOwnMemory(t, "StepOne of nobody", x, v, y)
		wantOwnMemory(t, "CancelOne of nobody", y, v, x)
	}
}

// caseServer has the case's job, as far as it came, between two others, on the store.
func (c jobCase) server(t *testing.T, s impl.Store, tries, came int) impl.Server {
	t.Helper()
	l := impl.Live{Id: 5, Tries: tries, Since: 2, Job: c.job(t, came)}
	return impl.Server{
		Store: s,
		Live:  []impl.Live{liveOf(t, s, 8, 1, 0, "{ nodes { value } }", 0, 5), l, liveOf(t, s, 6, 0, 3, asksSum, s.Now, 0)},
		Done:  []impl.Done{failedOf(3, 0, impl.ErrForm), failedOf(1, 1, impl.ErrTwice), doneOf(t, 4, 1, 0, false, "{ size }", `{"data":{"size":8}}`)},
		Next:  11,
	}
}

// wantCaseDone fails unless, at its last step, the case's job is done as it says, at the hour, and
// the others stand as they stood.
func (c jobCase) wantCaseDone(t *testing.T, v impl.Server, hour int) {
	t.Helper()
	x := wantStepped(t, v, 5)
	want := withDone(without(v, 1), impl.Done{Id: 5, Since: 2, Ts: hour, Wrote: len(c.writes) > 0, Request: request(wantDocRead(t, c.text), runVars()...), Text: c.answer})
	if len(c.writes) > 0 {
		want.Store = wantWritten(t, v.Store, hour, c.writes...)
	}
	wantServer(t, "a server when one is done", x, want)
	wantIds(t, x, 8, 6)
	wantAnswerTo(t, x, 5, c.answer)
	wantNobody(t, x, 5)
}

// Who needs one thing more, in each store that tells what it read: with nothing written since; with
// each key written.
func TestTheLastStep(t *testing.T) {
	came := map[string]int{}
	for _, c := range jobCases() {
		if len(c.log) == 0 {
			continue
		}
		quiet := plainStoreAt(c.start)
		for tries := range 3 {
			c.wantCaseDone(t, c.server(t, quiet, tries, len(c.log)-1), c.start+min(len(c.writes), 1))
			for key := range 16 {
				s := wantWritten(t, quiet, c.start+1, put(key, 1))
				v := c.server(t, s, tries, len(c.log)-1)
				switch clash := len(c.writes) > 0 && slices.Contains(c.keys, key); {
				case !clash && len(c.writes) == 0:
					came["read"]++
					c.wantCaseDone(t, v, c.start)
				case !clash:
					came["wrote"]++
					c.wantCaseDone(t, v, s.Now+1)
				case tries < 2:
					came["again"]++
					again := v.Live[1]
					again.Tries, again.Job.Start, again.Job.Log = tries+1, s.Now, nil
					wantServer(t, "a server when one is refused", wantStepped(t, v, 5), withLive(v, 1, again))
				default:
					came["spent"]++
					wantServer(t, "a server when one is spent", wantStepped(t, v, 5), withDone(without(v, 1), failedOf(5, 2, impl.ErrSpent)))
				}
			}
		}
	}
	for _, word := range []string{"read", "wrote", "again", "spent"} {
		if came[word] < 5 {
			t.Error("what is asked is of no use", came)
		}
	}
}

// Steps ahead of the last one read one thing, and leave all else.
func TestStepsAheadOfTheLastOne(t *testing.T) {
	for _, c := range jobCases() {
		for came := 0; came+1 < len(c.log); came++ {
			for _, s := range storesAfter(t, c.start) {
				v := c.server(t, s, 1, came)
				l := v.Live[1]
				l.Job.Log = c.log[:came+1]
				x := wantStepped(t, v, 5)
				wantServer(t, "a server behind a step", x, withLive(v, 1, l))
				wantNoAnswer(t, x, 5, 8, 6)
			}
		}
	}
}

// Who is refused has read something, so it needs something when it begins anew, whatever was written:
// the same thing as when it came.
func TestWhoIsRefusedNeedsSomething(t *testing.T) {
	for _, c := range jobCases() {
		if len(c.log) == 0 {
			continue
		}
		for _, s := range storesAfter(t, c.start) {
			if key, code := impl.NeedOf(s, wantRestarted(t, s, c.ended(t))); key != c.keys[0] || code != impl.OK {
				t.Errorf("%q begun anew needs %d, %d, want %d", c.text, key, code, c.keys[0])
			}
		}
	}
}

// At the last hour who writes is spent, whatever its tries; who was refused begins anew there first.
func TestStepsAtTheLastHour(t *testing.T) {
	for _, c := range jobCases() {
		if len(c.log) == 0 {
			continue
		}
		for tries := range 3 {
			s := plainStoreAt(c.start)
			s.Now = impl.MaxTime
			v := c.server(t, s, tries, len(c.log)-1)
			if len(c.writes) == 0 {
				c.wantCaseDone(t, v, c.start)
				continue
			}
			wantServer(t, "a server at the last hour", wantStepped(t, v, 5), withDone(without(v, 1), failedOf(5, 2, impl.ErrSpent)))
			s = wantWritten(t, plainStoreAt(c.start), c.start+1, put(c.keys[0], 1))
			s.Now = impl.MaxTime
			v = c.server(t, s, tries, len(c.log)-1)
			if tries == 2 {
				wantServer(t, "a server at the last hour", wantStepped(t, v, 5), withDone(without(v, 1), failedOf(5, 2, impl.ErrSpent)))
				continue
			}
			x := wantStepped(t, v, 5)
			if at := liveAt(t, x, 5); x.Live[at].Tries != tries+1 || x.Live[at].Job.Start != impl.MaxTime || len(x.Done) != 3 {
				t.Errorf("%q refused at the last hour:\n%s", c.text, serverTold(x))
			}
			for range 50 {
				if ids, _ := impl.LiveIds(x); slices.Contains(ids, 5) {
					x = wantStepped(t, x, 5)
				}
			}
			if last := x.Done[len(x.Done)-1]; last.Id != 5 || last.Ts == 0 && last.Code != impl.ErrSpent {
				t.Errorf("%q at its end:\n%s", c.text, serverTold(x))
			}
		}
	}
}

// One that is refused once, twice and three times, by hand.
func TestThreeTries(t *testing.T) {
	for refused := range 4 {
		v := wantLive(t, impl.NewServer(), asksValue)
		v = wantLive(t, v, "mutation { add(id: 1 by: 1) { value next { id } } }")
		for i := range refused {
			v = wantStepped(t, v, 2)
			v = wantAnswered(t, v, asksSet, `{"data":{"set":{"value":5}}}`, put(2, 5))
			v = wantStepped(t, v, 2)
			if i == 2 {
				break
			}
			want := impl.Live{Id: 2, Tries: i + 1, Job: impl.Job{Doc: readRequest(t, "mutation { add(id: 1 by: 1) { value next { id } } }").Doc, Start: i + 1}}
			wantServer(t, "one that begins anew", v, withLive(v, 1, want))
		}
		if refused < 3 {
			wantIds(t, v, 1, 2)
			v = wantStepped(t, wantStepped(t, v, 2), 2)
		}
		wantIds(t, v, 1)
		d := v.Done[refused]
		answer, hour := `{"data":{"add":{"value":6,"next":null}}}`, refused+1
		switch refused {
		case 0:
			answer = `{"data":{"add":{"value":1,"next":null}}}`
		case 3:
			answer, hour = `{"error":"spent"}`, 0
		}
		if d.Id != 2 || d.Since != 0 || d.Ts != hour || d.Wrote != (refused < 3) || (d.Code == impl.ErrSpent) != (refused == 3) || isZeroRequest(d.Request) != (refused == 3) || v.Store.Now != min(refused+1, 3) {
			t.Errorf("refused %d times:\n%s", refused, serverTold(v))
		}
		wantAnswerTo(t, v, 2, answer)
		// Who only reads is told what was there when it came.
		v = wantStepped(t, v, 1)
		wantAnswerTo(t, v, 1, `{"data":{"node":{"value":0}}}`)
	}
}

// Two that read and write one thing: the second one to end is refused, whoever came first.
func TestTwoOfOneThing(t *testing.T) {
	for _, order := range [][]int{{1, 2}, {2, 1}} {
		v := wantLive(t, wantLive(t, impl.NewServer(), asksSum), asksSum)
		v = wantStepped(t, v, order[0])
		v = wantStepped(t, v, order[1])
		wantIds(t, v, order[1])
		v = wantStepped(t, v, order[1])
		wantAnswerTo(t, v, order[0], `{"data":{"add":{"value":2}}}`)
		wantAnswerTo(t, v, order[1], `{"data":{"add":{"value":4}}}`)
		want := impl.Server{Store: wantWritten(t, wantWritten(t, impl.NewStore(), 1, put(2, 2)), 2, put(2, 4)), Next: 3,
			Done: []impl.Done{doneOf(t, order[0], 0, 1, true, asksSum, `{"data":{"add":{"value":2}}}`), doneOf(t, order[1], 0, 2, true, asksSum, `{"data":{"add":{"value":4}}}`)}}
		wantServer(t, "two of one thing", v, want)
	}
}

// Of ids that are live, that are done, that never were.
func TestWhoIsThere(t *testing.T) {
	for _, v := range []impl.Server{impl.NewServer(), busyServer(t), crowded(t, 4, 56), crowded(t, 0, 60)} {
		live, _ := impl.LiveIds(v)
		for _, id := range []int{0, 1, 2, 3, 4, 7, 8, 12, 18, 19, 20, 21, 59, 60, 61, 1000000, -1, -12, hugeInt, tinyInt} {
			if slices.Contains(live, id) {
				wantStepped(t, v, id)
				wantCancelled(t, v, id)
			} else {
				wantNobody(t, v, id)
			}
		}
		for _, id := range live {
			x := wantCancelled(t, v, id)
			for _, other := range live {
				if other != id {
					wantStepped(t, x, other)
					wantCancelled(t, x, other)
				}
			}
		}
	}
}

// Wherever it came to, whatever its tries, in a server that is full, at the last hour too.
func TestCancelOne(t *testing.T) {
	for _, c := range jobCases() {
		for came := range c.log {
			for i, s := range storesAfter(t, c.start) {
				v := c.server(t, s, i%3, came)
				wantServer(t, "a server when one is cancelled", wantCancelled(t, v, 5), withDone(without(v, 1), impl.Done{Id: 5, Code: 17, Since: 2, Text: `{"error":"cancelled"}`}))
			}
		}
	}
	v := crowded(t, 4, 56)
	for i, id := range []int{58, 60, 57, 59} {
		v = wantCancelled(t, v, id)
		if len(v.Live) != 3-i || len(v.Done) != 57+i || v.Next != 61 {
			t.Error("a full server when some are cancelled", fmt.Sprint(len(v.Live), len(v.Done), v.Next))
		}
	}
	wantFullServer(t, v, "{ size }")
}
