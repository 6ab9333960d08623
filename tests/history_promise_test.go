package tests

import (
	"fmt"
	"math/rand"
	"slices"
	"testing"

	"loop.example/g00540/impl"
)

// runAlone runs those at the places one by one on a new store; it says whether all have their answers,
// and what is there at the end tells what the server's store does.
func runAlone(t *testing.T, v impl.Server, places []int) bool {
	t.Helper()
	s := impl.NewStore()
	for _, at := range places {
		d := v.Done[at]
		next, text, code := impl.Replay(s, d.Request.Doc, d.Request.Vars)
		if code != impl.OK {
			t.Fatalf("Replay = %d", code)
		}
		if text != d.Text {
			return false
		}
		s = next
	}
	same, _ := impl.SameAt(s, v.Store)
	return same
}

// wantSerialOrder fails unless Witness is an order in which all that were committed may have been run
// one by one, and that keeps who was done ahead.
func wantSerialOrder(t *testing.T, v impl.Server) historyTold {
	t.Helper()
	told := holdHistory(t, serverTold(v), v.Done)
	order, _ := impl.Witness(v.Done)
	if !slices.Equal(slices.Sorted(slices.Values(order)), told.committed) {
		t.Errorf("Witness = %v are not those that were committed, %v", order, told.committed)
	}
	if !runAlone(t, v, order) {
		t.Errorf("in the order %v one by one they are not what they were:\n%s", order, serverTold(v))
	}
	if !told.kept {
		t.Errorf("who was done ahead stands behind:\n%s", serverTold(v))
	}
	wantSerial(t, "a server", v, true)
	// Who wrote has an hour of its own, in the order in which they were done; who read has one that was.
	var hours []int
	for _, d := range v.Done {
		if d.Wrote {
			hours = append(hours, d.Ts-1)
		} else if d.Ts > len(hours) {
			t.Errorf("one read what nobody wrote yet:\n%s", serverTold(v))
		}
	}
	if !slices.Equal(hours, placesUpTo(v.Store.Now)) {
		t.Errorf("those that wrote did so at %v, each an hour sooner, till %d", hours, v.Store.Now)
	}
	return told
}

// Promise 14: whatever comes, in whatever order it is stepped and cancelled, at each moment.
func TestThereIsASerialOrder(t *testing.T) {
	random := rand.New(rand.NewSource(143))
	came := map[string]int{}
	for range 50 {
		v := impl.NewServer()
		list := randomMoves(t, random, 4, func(impl.Server, move) {})
		for _, m := range list {
			v = moved(t, v, m)
			if m.kind != 's' || len(v.Live) == 0 {
				wantSerialOrder(t, v)
			} else {
				wantSerial(t, "a server", v, true)
			}
		}
		told := wantSerialOrder(t, v)
		if !slices.Equal(told.order, told.committed) {
			came["another order than they were done in"]++
		}
		if !runAlone(t, v, told.committed) {
			came["not in the order they were done in"]++
		}
		for _, d := range v.Done {
			came[words[d.Code]]++
		}
	}
	for _, word := range []string{"another order than they were done in", "not in the order they were done in", "ok", "cancelled", "field"} {
		if came[word] < 5 || came["spent"] == 0 {
			t.Errorf("%q came %d times only: %v", word, came[word], came)
		}
	}
}

// A meeting is what comes together, and whose steps are taken in every order; who is not done then is
// stepped to the end as it stands. An id below 0 is cancelled.
type meeting struct {
	texts []string
	ids   []int
}

func meetings() []meeting {
	const (
		readTwo   = "{ a: node(id: 1) { value } b: node(id: 2) { value } }"
		addOne    = "mutation { add(id: 1 by: 1) { value } }"
		addBoth   = "mutation { a: add(id: 1 by: 2) { value } b: add(id: 2 by: 2) { value } }"
		addBack   = "mutation { b: add(id: 2 by: 5) { value } a: add(id: 1 by: 5) { value } }"
		readLink  = "{ node(id: 1) { next { value } value } }"
		linkOn    = "mutation { link(id: 1 to: 2) { value next { value } } }"
		setAlone  = "mutation { set(id: 1 value: 7) { id } }"
		mayFail   = "mutation { add(id: 1 by: 2147483647) { value } }"
		readOther = "{ node(id: 5) { value plus(by: 1) next { id } } }"
	)
	return []meeting{
		{[]string{readTwo, addOne, addBoth}, []int{1, 1, 2, 3, 3}},
		{[]string{addBoth, addBack, readTwo}, []int{1, 1, 2, 2, 3}},
		{[]string{addBoth, addBack, addOne}, []int{1, 1, 2, 2, 3}},
		{[]string{readLink, linkOn, addOne}, []int{1, 1, 2, 2, 3}},
		{[]string{setAlone, readLink, mayFail, addOne}, []int{2, 2, 3, 4}},
		{[]string{mayFail, addOne, mayFail}, []int{1, 2, 3}},
		{[]string{addBoth, addOne, readTwo}, []int{1, 1, 2, 3, -1}},
		{[]string{addBoth, addBack, addOne, readOther}, []int{-4, 2, 2, 1, 3}},
		{[]string{addOne, addOne, addOne, addOne}, []int{1, 2, 3, 4}},
	}
}

// In every order of some steps there is: all is as if they had been run one by one.
func TestEveryOrderIsSerial(t *testing.T) {
	for _, c := range meetings() {
		first := played(t, impl.NewServer(), c.texts)
		ends := map[string]int{}
		everyOrder(c.ids, func(order []int) {
			v := played(t, first, nil, order...)
			for range 40 {
				if len(v.Live) > 0 {
					v = moved(t, v, move{kind: 's', id: v.Live[0].Id})
				}
			}
			if len(v.Live) > 0 {
				t.Fatalf("some are not done:\n%s", serverTold(v))
			}
			told := wantSerialOrder(t, v)
			text := ""
			for _, at := range told.order {
				text += fmt.Sprint(v.Done[at].Id, " ")
			}
			ends[text]++
		})
		if len(ends) < 2 {
			t.Errorf("%q come to one order alone: %v", c.texts, ends)
		}
	}
}

// Who is refused at each try counts for nothing: those by whom it was refused stand as if it had not come.
func TestSerialOrderBesideOneThatIsSpent(t *testing.T) {
	const slow, quick = "mutation { add(id: 1 by: 100) { value } b: add(id: 2 by: 100) { value } }", "mutation { add(id: 1 by: 1) { value } }"
	v := played(t, impl.NewServer(), []string{slow})
	for _, id := range []int{2, 3, 4} {
		v = played(t, v, []string{quick}, 1, id, 1)
	}
	told := wantSerialOrder(t, v)
	if !slices.Equal(told.order, []int{0, 1, 2}) || len(v.Done) != 4 || v.Done[3].Code != impl.ErrSpent {
		t.Errorf("nobody is spent:\n%s", serverTold(v))
	}
	wantAnswerTo(t, v, 4, `{"data":{"add":{"value":3}}}`)
}

// One by one from the first to the last: nobody is refused, and the order is the one they came in.
func TestThoseThatCameOneByOne(t *testing.T) {
	random := rand.New(rand.NewSource(144))
	for range 20 {
		v := impl.NewServer()
		for range 30 {
			v = moved(t, v, move{kind: 'a', text: randomAsk(t, random)})
			for range 3000 {
				if len(v.Live) > 0 {
					v = moved(t, v, move{kind: 's', id: v.Live[0].Id})
				}
			}
		}
		told := wantSerialOrder(t, v)
		if !slices.Equal(told.order, told.committed) || slices.ContainsFunc(v.Done, func(d impl.Done) bool { return d.Code == impl.ErrSpent }) {
			t.Errorf("those that came one by one are in another order:\n%s", serverTold(v))
		}
	}
}
