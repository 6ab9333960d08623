package tests

import (
	"fmt"
	"math/rand"
	"slices"
	"testing"

	"loop.example/g00540/impl"
)

// randomActs are of all sorts, some of nobody that is there; so often, of sixteen, one comes.
func randomActs(t *testing.T, random *rand.Rand, n, often int) (list []impl.Act) {
	t.Helper()
	v := impl.NewServer()
	for range n {
		ids := []int{0, v.Next - 1, v.Next}
		for _, l := range v.Live {
			ids = append(ids, l.Id, l.Id, l.Id, l.Id)
		}
		a := steps(pick(random, ids...))
		switch k := random.Intn(16); {
		case k < often || k < 12 && len(v.Live) == 0:
			a = comes(pick(random, randomAsk(t, random), randomAsk(t, random), addsOne, addsTwo))
		case k == 14:
			a = cancels(pick(random, ids...))
		case k == 15:
			a = ticks()
		}
		list = append(list, a)
		v, _ = actByCalls(v, a)
	}
	return list
}

// wantNoneBehindThoseItCameBehind fails unless, in the order of Witness, who was done when another one came stands ahead of it.
func wantNoneBehindThoseItCameBehind(t *testing.T, v impl.Server, ahead map[int][]int) {
	t.Helper()
	order, code := impl.Witness(v.Done)
	if code != impl.OK {
		t.Fatal("Witness", code)
	}
	stands := map[int]int{}
	for i, at := range order {
		stands[v.Done[at].Id] = i + 1
	}
	for id, others := range ahead {
		for _, other := range others {
			if stands[id] > 0 && stands[other] > stands[id] {
				t.Errorf("%d was done when %d came, and stands behind it:\n%s", other, id, serverTold(v))
			}
		}
	}
}

func doneIds(v impl.Server) []int { return idsOf(impl.Server{Done: v.Done}) }

// wantAllEnded fails unless nobody is live, and each that came has one answer.
func wantAllEnded(t *testing.T, v impl.Server) {
	t.Helper()
	ids := doneIds(v)
	slices.Sort(ids)
	want := placesUpTo(v.Next)[1:]
	if len(v.Live) > 0 || !slices.Equal(ids, want) {
		t.Errorf("done are %v, want %v:\n%s", ids, want, serverTold(v))
	}
	for _, d := range v.Done {
		wantAnswerTo(t, v, d.Id, d.Text)
	}
}

// Promise 15: at every moment, and when all have come to their end from there.
func TestWhateverComesIsSerial(t *testing.T) {
	random := rand.New(rand.NewSource(152))
	came := map[string]int{}
	for range 14 {
		v, ahead := impl.NewServer(), map[int][]int{}
		acts := randomActs(t, random, 110, 3+random.Intn(6))
		for i, a := range acts {
			if a.Kind == impl.AcArrive {
				ahead[v.Next] = doneIds(v)
			}
			next, code := impl.ActDo(v, a)
			came[actKinds[a.Kind]+" "+words[code]]++
			v = next
			wantSerial(t, "a server", v, true)
			if i%8 > 0 {
				continue
			}
			wantSerialOrder(t, v)
			wantNoneBehindThoseItCameBehind(t, v, ahead)
			z, n := wantDrained(t, "a server", v)
			wantAllEnded(t, z)
			wantSerialOrder(t, z)
			wantNoneBehindThoseItCameBehind(t, z, ahead)
			came["steps"] += n
		}
		run, _, code := impl.ActsRun(acts)
		if code != impl.OK || !impl.SameServer(run, v) {
			t.Errorf("ActsRun is another one than ActDo of one by one, %d", code)
		}
		for _, d := range v.Done {
			came["done "+words[d.Code]]++
		}
	}
	for _, word := range []string{"arrive ok", "arrive full", "step ok", "step none", "cancel ok", "cancel none", "tick ok", "steps", "done ok", "done cancelled", "done field", "done spent"} {
		if came[word] < 5 {
			t.Errorf("%q came %d times only: %v", word, came[word], came)
		}
	}
}

// In every order of some steps there is, with and without ticks between, drained at each moment.
func TestEveryOrderComesToItsEnd(t *testing.T) {
	for _, c := range meetings() {
		ends, seen := map[string]int{}, map[string]bool{}
		everyOrder(c.ids, func(order []int) {
			var acts []impl.Act
			for _, text := range c.texts {
				acts = append(acts, comes(text))
			}
			for i, id := range order {
				if id < 0 {
					acts = append(acts, cancels(-id))
				} else {
					acts = append(acts, steps(id))
				}
				if i%2 == 1 {
					acts = append(acts, ticks())
				}
			}
			for n := len(c.texts); n <= len(acts); n++ {
				way := fmt.Sprint(acts[len(c.texts):n])
				if seen[way] {
					continue
				}
				seen[way] = true
				v, _, code := impl.ActsRun(acts[:n])
				z, _, drained := impl.DrainAll(v)
				if code != impl.OK || drained != impl.OK {
					t.Fatal("ActsRun, DrainAll", code, drained)
				}
				wantAllEnded(t, z)
				wantSerialOrder(t, z)
				ends[brief(doneIds(z))]++
			}
		})
		if len(ends) < 2 {
			t.Errorf("%q come to one order alone: %v", c.texts, ends)
		}
	}
}

// Ticks change neither how many steps there are nor what anybody is told.
func TestTicksAndDrains(t *testing.T) {
	random := rand.New(rand.NewSource(153))
	gone := 0
	for range 12 {
		with, without := impl.NewServer(), impl.NewServer()
		for _, a := range randomActs(t, random, 100, 5) {
			with, _ = impl.ActDo(with, a)
			if a.Kind != impl.AcTick {
				without, _ = impl.ActDo(without, a)
			}
		}
		y, n, _ := impl.DrainAll(with)
		z, steps, _ := impl.DrainAll(without)
		if n != steps {
			t.Errorf("with ticks %d steps, without %d", n, steps)
		}
		gone += countVersions(z.Store) - countVersions(y.Store)
		wantSameAt(t, y.Store, z.Store, true)
		y.Store = z.Store
		wantSame(t, "with ticks and without", y, z, true)
	}
	if gone < 10 {
		t.Error("what is random is of no use", gone)
	}
}
