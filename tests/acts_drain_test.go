package tests

import (
	"fmt"
	"math/rand"
	"slices"
	"testing"

	"loop.example/g00540/impl"
)

// drainTold is DrainAll told again: one step of each that is live, as they stand, round by round.
func drainTold(t *testing.T, v impl.Server) (impl.Server, int) {
	t.Helper()
	steps := 0
	for len(v.Live) > 0 {
		ids, _ := impl.LiveIds(v)
		for _, id := range ids {
			next, code := impl.StepOne(v, id)
			if code != impl.OK {
				t.Fatalf("StepOne %d = %d:\n%s", id, code, serverTold(v))
			}
			v, steps = next, steps+1
		}
		if steps > 5000 {
			t.Fatalf("not all come to their end:\n%s", serverTold(v))
		}
	}
	return v, steps
}

// wantDrained fails unless all come to their end by rounds of steps, and nobody is left to be stepped.
func wantDrained(t *testing.T, what string, v impl.Server) (impl.Server, int) {
	t.Helper()
	want, wantSteps := drainTold(t, v)
	z, n, code := impl.DrainAll(v)
	if n != wantSteps || code != impl.OK || len(z.Live) > 0 || !impl.ServerOK(z) {
		t.Errorf("DrainAll of %s = %d steps, %d, want %d; live are %d", what, n, code, wantSteps, len(z.Live))
	}
	wantServer(t, "DrainAll of "+what, z, want)
	wantOwnMemory(t, "DrainAll", z, v)
	again, n, code := impl.DrainAll(z)
	if n != 0 || code != impl.OK {
		t.Errorf("DrainAll behind DrainAll = %d steps, %d", n, code)
	}
	wantServer(t, "DrainAll behind DrainAll", again, z)
	return z, wantSteps
}

// wantEnds fails unless the server is drained in so many steps, and they are done in that order, with the codes.
func wantEnds(t *testing.T, what string, v impl.Server, want int, ends ...[2]int) impl.Server {
	t.Helper()
	z, n := wantDrained(t, what, v)
	var got [][2]int
	for _, d := range z.Done[len(v.Done):] {
		got = append(got, [2]int{d.Id, d.Code})
	}
	if n != want || !slices.Equal(got, ends) {
		t.Errorf("DrainAll of %s: %d steps, ends %v, want %d, %v", what, n, got, want, ends)
	}
	return z
}

func ended(id int) [2]int { return [2]int{id, impl.OK} }

func spent(id int) [2]int { return [2]int{id, impl.ErrSpent} }

func TestDrainAllOfNobody(t *testing.T) {
	for _, v := range []impl.Server{impl.NewServer(), crowded(t, 0, 3), crowded(t, 0, 60), {Store: storeAt(impl.MaxTime, plainMap()), Next: 1000000}} {
		z := wantEnds(t, "nobody", v, 0)
		wantServer(t, "DrainAll of nobody", z, v)
	}
}

const (
	readsOne   = "{ node(id: 1) { value } }"
	readsThree = "{ a: node(id: 1) { value } b: node(id: 2) { value } c: node(id: 3) { value } }"
	readsAll   = "{ nodes { value } }"
	addsOne    = "mutation { add(id: 1 by: 1) { value } }"
	addsTwo    = "mutation { a: add(id: 1 by: 1) { value } b: add(id: 2 by: 1) { value } }"
	addsOther  = "mutation { a: add(id: 5 by: 1) { value } b: add(id: 6 by: 1) { value } }"
)

// One that reads, one that writes, wherever they came to, whatever their tries.
func TestDrainAllOfOne(t *testing.T) {
	for text, reads := range map[string]int{readsOne: 1, readsThree: 3, readsAll: 8, addsOne: 1, addsTwo: 2} {
		for came := range reads {
			for tries := range 3 {
				v := impl.Server{Store: plainStore(), Live: []impl.Live{liveOf(t, plainStore(), 7, tries, 0, text, 9, came)}, Next: 8}
				wantEnds(t, text, v, reads-came, ended(7))
			}
		}
	}
	v := played(t, impl.NewServer(), []string{addsTwo})
	z := wantEnds(t, "one that writes", v, 2, ended(1))
	wantServer(t, "one that writes", z, impl.Server{Store: storeAt(1, map[int][]impl.Version{2: {{Ts: 1, Value: 1}}, 4: {{Ts: 1, Value: 1}}}),
		Done: []impl.Done{doneOf(t, 1, 0, 1, true, addsTwo, `{"data":{"a":{"value":1},"b":{"value":1}}}`)}, Next: 2})
}

// Of four that read: who reads least is done first, and of one round who stands first.
func TestDrainAllOfThoseThatRead(t *testing.T) {
	for _, c := range []struct {
		texts []string
		steps int
		order []int
	}{
		{[]string{readsOne, readsOne, readsOne, readsOne}, 4, []int{1, 2, 3, 4}},
		{[]string{readsThree, readsOne, readsAll, readsOne}, 13, []int{2, 4, 1, 3}},
		{[]string{readsAll, readsThree, readsOne}, 12, []int{3, 2, 1}},
		{[]string{readsAll, readsAll, readsThree, readsThree}, 22, []int{3, 4, 1, 2}},
		{[]string{readsAll, readsOne}, 9, []int{2, 1}},
		{[]string{readsOne, readsAll}, 9, []int{1, 2}},
	} {
		var ends [][2]int
		for _, id := range c.order {
			ends = append(ends, ended(id))
		}
		v := played(t, impl.NewServer(), c.texts)
		wantEnds(t, fmt.Sprint(c.texts), v, c.steps, ends...)
		// As they stand, not by their ids.
		slices.Reverse(v.Live)
		wantDrained(t, "those that stand the other way round", v)
	}
	// Who read something already is done sooner.
	v := played(t, impl.NewServer(), []string{readsThree, readsAll, readsThree, readsAll}, 2, 2, 2, 2, 2, 2, 2, 1)
	wantEnds(t, "those that read already", v, 2+1+3+8, ended(2), ended(1), ended(3), ended(4))
	v = played(t, impl.NewServer(), []string{readsOne, readsThree})
	slices.Reverse(v.Live)
	v.Live[0].Job.Log = []int{0, 0}
	wantEnds(t, "those of one round, the other way round", v, 2, ended(2), ended(1))
}

// Of those that read and write one thing the first one of each round is done; who is refused three times is spent.
func TestDrainAllOfThoseThatMeet(t *testing.T) {
	for n, steps := range []int{0, 1, 3, 6, 9} {
		var ends [][2]int
		for id := 1; id <= n; id++ {
			ends = append(ends, [][2]int{{}, ended(id), ended(id), ended(id), spent(id)}[id])
		}
		v := played(t, impl.NewServer(), slices.Repeat([]string{addsOne}, n))
		z := wantEnds(t, "those that add to one thing", v, steps, ends...)
		if z.Store.Now != min(n, 3) {
			t.Error("Now", z.Store.Now, n)
		}
	}
	// Those whose tries are spent nearly.
	v := played(t, impl.NewServer(), slices.Repeat([]string{addsOne}, 4))
	v.Live[1].Tries, v.Live[2].Tries = 2, 1
	z := wantEnds(t, "those that tried already", v, 4+2+1, ended(1), spent(2), ended(3), ended(4))
	wantAnswerTo(t, z, 4, `{"data":{"add":{"value":3}}}`)
	// One of two reads, one of one read: the shorter one is done first, and the longer one begins anew.
	v = played(t, impl.NewServer(), []string{addsTwo, addsOne})
	wantEnds(t, "a long one and a short one", v, 2+2+1, ended(2), ended(1))
	v = played(t, impl.NewServer(), []string{addsTwo, addsOther, readsAll, addsOne}, 2)
	z = wantEnds(t, "four", v, 2+2+1+8+1, ended(2), ended(4), ended(1), ended(3))
	wantAnswerTo(t, z, 3, `{"data":{"nodes":[{"value":0},{"value":0},{"value":0},{"value":0},{"value":0},{"value":0},{"value":0},{"value":0}]}}`)
	wantAnswerTo(t, z, 1, `{"data":{"a":{"value":2},"b":{"value":1}}}`)
}

// Who is refused because of one that was done ahead of the drain.
func TestDrainAllOfThoseThatAreLate(t *testing.T) {
	v := played(t, impl.NewServer(), []string{addsTwo, readsOne, asksSet}, 1)
	z := wantEnds(t, "those that are late", v, 1+2+1, ended(2), ended(1))
	wantAnswerTo(t, z, 1, `{"data":{"a":{"value":6},"b":{"value":1}}}`)
	wantAnswerTo(t, z, 2, `{"data":{"node":{"value":0}}}`)
	v.Live[0].Tries = 2
	wantEnds(t, "those that are late at their last try", v, 2, spent(1), ended(2))
}

// At the last hour who writes is spent, once it read all it needs.
func TestDrainAllAtTheLastHour(t *testing.T) {
	v := impl.Server{Store: storeAt(impl.MaxTime, plainMap()), Next: 1}
	v = played(t, v, []string{addsOne, readsThree, addsTwo, readsOne})
	z := wantEnds(t, "the last hour", v, 1+3+2+1, spent(1), ended(4), spent(3), ended(2))
	wantStore(t, "the store at the last hour", z.Store, v.Store)
	// The hour ahead of it: one is written, then no other one.
	v.Store.Now--
	for i := range v.Live {
		v.Live[i].Job.Start--
	}
	z = wantEnds(t, "the hour ahead of the last one", v, 1+3+2+2+1, ended(1), ended(4), ended(2), spent(3))
	if z.Store.Now != impl.MaxTime {
		t.Error("Now", z.Store.Now)
	}
}

// Whatever is live, on each store there may be.
func TestDrainAllOfServers(t *testing.T) {
	right, live := 0, 0
	for i, v := range serversForCalls(t) {
		if impl.ServerOK(v) {
			right++
			live += len(v.Live)
			wantDrained(t, fmt.Sprint("the server ", i), v)
			continue
		}
		if z, n, code := impl.DrainAll(v); !isZeroServer(z) || n != 0 || code != impl.ErrBad {
			t.Errorf("DrainAll of a server that is not right = %s, %d, %d:\n%s", brief(z), n, code, serverTold(v))
		}
	}
	if right < 50 || live < 100 {
		t.Error("servers are of no use", right, live)
	}
}

// A told server that is drained, and in how many steps.
func (m *toldServer) drain() int {
	steps := 0
	for len(m.live) > 0 && steps < 5000 {
		for _, g := range slices.Clone(m.live) {
			m.step(g.id)
			steps++
		}
	}
	return steps
}

// Of all sorts, held against the chapter told again, too; behind it others come.
func TestRandomDrains(t *testing.T) {
	random := rand.New(rand.NewSource(15))
	came := map[string]int{}
	for range 40 {
		p := &both{t: t, v: impl.NewServer(), m: newToldServer(), came: came}
		for range 6 {
			for range 1 + random.Intn(20) {
				switch n := random.Intn(12); {
				case n < 3 || len(p.m.live) == 0:
					p.arrive(pick(random, randomAsk(t, random), randomAsk(t, random), addsOne, addsTwo))
				case n == 3:
					p.tick()
				default:
					p.step(pick(random, p.m.live...).id)
				}
			}
			live, done := p.v.Live, len(p.v.Done)
			steps := p.m.drain()
			z, n := wantDrained(t, "a random server", p.v)
			p.v = z
			p.same("DrainAll")
			if n != steps {
				t.Errorf("DrainAll takes %d steps, want %d", n, steps)
			}
			came["steps"] += n
			for i, d := range z.Done[done:] {
				came["drained "+words[d.Code]]++
				if d.Id != live[i].Id {
					came["another order"]++
				}
			}
		}
	}
	for _, word := range []string{"steps", "drained ok", "drained spent", "another order"} {
		if came[word] < 10 {
			t.Error("what is random is of no use", came)
		}
	}
}

// Four of the greatest that read are soon done, and one that writes and is done ahead of them.
func TestTheGreatestDrain(t *testing.T) {
	links := "mutation {"
	for id := range 8 {
		links += fmt.Sprintf(" l%d: link(id: %d to: %d) { id }", id, id, 7-id)
	}
	great, _ := impl.PrintDoc(greatRun(t))
	v := played(t, impl.NewServer(), []string{links + " }", great, great, addsTwo, great}, 2, 2, 5)
	z, n, code := impl.DrainAll(v)
	if n != 3040-2+3040+2+3040-1 || code != impl.OK || len(z.Live) > 0 {
		t.Fatalf("DrainAll of great ones = %d steps, %d, live are %d", n, code, len(z.Live))
	}
	var ids []int
	for _, d := range z.Done {
		ids = append(ids, d.Id)
	}
	if !slices.Equal(ids, []int{1, 4, 2, 5, 3}) {
		t.Error("great ones are done in the order", ids)
	}
	run, _, _ := impl.Atomic(v.Store, 1, v.Live[0].Job.Doc, nil)
	want, _ := impl.AnswerOf(v.Live[0].Job.Doc, run)
	for _, d := range z.Done[2:] {
		if d.Ts != 1 || d.Wrote || d.Text != want {
			t.Errorf("a great one is done at %d, Wrote %v, %.100q", d.Ts, d.Wrote, d.Text)
		}
	}
	wantSerial(t, "great ones", z, true)
}
