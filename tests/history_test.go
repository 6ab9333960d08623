package tests

import (
	"fmt"
	"slices"
	"strings"
	"testing"

	"loop.example/g00540/impl"
)

// read and wrote are done without a code at the hour; since so many were done.
func read(ts, since int) impl.Done { return impl.Done{Ts: ts, Since: since} }

func wrote(ts, since int) impl.Done { return impl.Done{Ts: ts, Since: since, Wrote: true} }

// coded is done with a code, at an hour that says nothing.
func coded(ts, since int) impl.Done {
	return impl.Done{Code: impl.ErrField, Ts: ts, Since: since, Wrote: ts%2 == 0}
}

// A historyTold is chapter 14's sentences of a list told again.
type historyTold struct {
	committed, order []int
	kept             bool
}

// aheadTold says whether the one at place p stands ahead of the one at place q.
func aheadTold(list []impl.Done, p, q int) bool {
	if list[p].Ts != list[q].Ts {
		return list[p].Ts < list[q].Ts
	}
	if list[p].Wrote != list[q].Wrote {
		return list[p].Wrote
	}
	return p < q
}

// tellHistory counts who stands ahead of whom: nothing is sorted.
func tellHistory(list []impl.Done) historyTold {
	x := historyTold{kept: true}
	for p, d := range list {
		if d.Code == 0 {
			x.committed = append(x.committed, p)
		}
	}
	x.order = make([]int, len(x.committed))
	for _, p := range x.committed {
		ahead := 0
		for _, q := range x.committed {
			if p != q && aheadTold(list, q, p) {
				ahead++
			}
			if q < list[p].Since && aheadTold(list, p, q) {
				x.kept = false
			}
		}
		x.order[ahead] = p
	}
	return x
}

// wantHistoryTold fails unless the calls of a list answer so.
func wantHistoryTold(t *testing.T, what string, list []impl.Done, want historyTold) {
	t.Helper()
	if got, code := impl.CommittedOf(list); !slices.Equal(got, want.committed) || code != impl.OK {
		t.Errorf("CommittedOf of %s = %v, %d, want %v", what, got, code, want.committed)
	}
	if got, code := impl.Witness(list); !slices.Equal(got, want.order) || code != impl.OK {
		t.Errorf("Witness of %s = %v, %d, want %v", what, got, code, want.order)
	}
	if got, code := impl.RealTime(list); got != want.kept || code != impl.OK {
		t.Errorf("RealTime of %s = %v, %d, want %v", what, got, code, want.kept)
	}
}

// holdHistory holds the calls of a list that is right against the sentences.
func holdHistory(t *testing.T, what string, list []impl.Done) historyTold {
	t.Helper()
	want := tellHistory(list)
	wantHistoryTold(t, what, list, want)
	return want
}

// wantNoHistory fails unless the calls of a list answer the code, and nothing else.
func wantNoHistory(t *testing.T, what string, list []impl.Done, want int) {
	t.Helper()
	if got, code := impl.CommittedOf(list); len(got) > 0 || code != want {
		t.Errorf("CommittedOf of %s = %v, %d, want code %d", what, got, code, want)
	}
	if got, code := impl.Witness(list); len(got) > 0 || code != want {
		t.Errorf("Witness of %s = %v, %d, want code %d", what, got, code, want)
	}
	if got, code := impl.RealTime(list); got || code != want {
		t.Errorf("RealTime of %s = %v, %d, want code %d", what, got, code, want)
	}
}

// manyDone are of all sorts.
func manyDone(n int) []impl.Done {
	list := make([]impl.Done, n)
	for i := range list {
		list[i] = impl.Done{Ts: i * 7 % 5, Since: i / 2, Wrote: i%3 == 0}
		if i%4 == 1 {
			list[i].Code = 1 + i%19
		}
	}
	return list
}

// The first place, one in the middle and the last one, of lists of all lengths.
func eachEnd(look func(list []impl.Done, at int)) {
	for _, n := range []int{1, 2, 3, 20, 59, 60} {
		for _, at := range []int{0, n / 2, n - 1} {
			look(manyDone(n), at)
			look(make([]impl.Done, n), at)
		}
	}
}

func TestCodesInHistories(t *testing.T) {
	eachEnd(func(list []impl.Done, at int) {
		for code := range 20 {
			list[at].Code = code
			holdHistory(t, fmt.Sprint("code ", code, " at ", at), list)
		}
		for _, code := range []int{-1, 20, -2, 21, 40, 256, 1 << 32, hugeInt, tinyInt} {
			list[at].Code = code
			wantNoHistory(t, fmt.Sprint("code ", code, " at ", at), list, impl.ErrBad)
		}
	})
}

// Hours are bounded whether there is a code or none.
func TestHoursInHistories(t *testing.T) {
	eachEnd(func(list []impl.Done, at int) {
		for _, code := range []int{impl.OK, impl.ErrBad, impl.ErrTwice} {
			list[at].Code = code
			for _, ts := range []int{0, 1, 2, 99999, impl.MaxTime} {
				list[at].Ts = ts
				holdHistory(t, fmt.Sprint("hour ", ts, " at ", at), list)
			}
			for _, ts := range []int{-1, impl.MaxTime + 1, -2, 1 << 32, hugeInt, tinyInt} {
				list[at].Ts = ts
				wantNoHistory(t, fmt.Sprint("hour ", ts, " at ", at), list, impl.ErrBad)
			}
		}
	})
}

// How many were done is bounded by the place, whether there is a code or none.
func TestSinceInHistories(t *testing.T) {
	eachEnd(func(list []impl.Done, at int) {
		for _, code := range []int{impl.OK, impl.ErrBad, impl.ErrTwice} {
			list[at].Code = code
			for since := range at + 1 {
				list[at].Since = since
				holdHistory(t, fmt.Sprint("since ", since, " at ", at), list)
			}
			for _, since := range []int{-1, at + 1, -2, at + 2, 61, 1 << 32, hugeInt, tinyInt} {
				list[at].Since = since
				wantNoHistory(t, fmt.Sprint("since ", since, " at ", at), list, impl.ErrBad)
			}
		}
	})
}

func TestLengthsOfHistories(t *testing.T) {
	wantHistoryTold(t, "none", nil, historyTold{kept: true})
	wantHistoryTold(t, "none", []impl.Done{}, historyTold{kept: true})
	for n := range impl.MaxDone + 1 {
		holdHistory(t, fmt.Sprint(n), manyDone(n))
		holdHistory(t, fmt.Sprint(n), make([]impl.Done, n))
	}
	for n, want := range map[int]int{61: impl.ErrBad, 62: impl.ErrBad, 120: impl.ErrBad, impl.MaxList - 1: impl.ErrBad, impl.MaxList: impl.ErrBad, impl.MaxList + 1: impl.ErrLong, impl.MaxList + 2: impl.ErrLong, 100000: impl.ErrLong} {
		for _, list := range [][]impl.Done{make([]impl.Done, n), manyDone(n), slices.Repeat([]impl.Done{coded(3, 0)}, n)} {
			wantNoHistory(t, fmt.Sprint(n), list, want)
			// What else is not right is told no sooner.
			list[0].Code = 20
			wantNoHistory(t, fmt.Sprint(n), list, want)
			list[n-1].Ts = -1
			wantNoHistory(t, fmt.Sprint(n), list, want)
		}
	}
}

// Of those that are done nothing else is asked: not what a server asks of them.
func TestWhatIsNotAskedInHistories(t *testing.T) {
	for _, n := range []int{1, 5, 60} {
		want := tellHistory(manyDone(n))
		for _, d := range endlessDocs() {
			list := manyDone(n)
			for i := range list {
				list[i].Request = request(d, manyBindings(9)...)
			}
			wantHistoryTold(t, "endless requests", list, want)
		}
		for i, ids := range [][]int{{0}, {-1}, {7}, {hugeInt, tinyInt}, {60, 59, 58}} {
			list := manyDone(n)
			for k := range list {
				list[k].Id, list[k].Text = ids[k%len(ids)], strings.Repeat("x", i*400000)
			}
			wantHistoryTold(t, fmt.Sprint("ids ", ids), list, want)
		}
	}
	// With a code the hour, what is written and the request say nothing.
	wantHistoryTold(t, "those with a code", []impl.Done{{Code: 3, Ts: 9, Wrote: true, Request: request(docWith(field("size")))}, {Code: 17, Ts: impl.MaxTime, Text: "x"}}, historyTold{kept: true})
	// Of a server, what is done can be asked so.
	holdHistory(t, "a busy server", busyServer(t).Done)
	holdHistory(t, "a crowded server", crowded(t, 0, 60).Done)
}

func TestCommittedOf(t *testing.T) {
	for _, c := range []struct {
		list []impl.Done
		want []int
	}{
		{[]impl.Done{read(0, 0)}, []int{0}},
		{[]impl.Done{coded(0, 0)}, nil},
		{[]impl.Done{coded(0, 0), coded(1, 0), coded(2, 1)}, nil},
		{[]impl.Done{read(5, 0), wrote(4, 0), read(3, 1), wrote(2, 0)}, []int{0, 1, 2, 3}},
		{[]impl.Done{coded(0, 0), read(5, 0), coded(9, 2), coded(9, 0), wrote(1, 0), coded(4, 0)}, []int{1, 4}},
		{[]impl.Done{read(7, 0), coded(0, 0), read(5, 0)}, []int{0, 2}},
	} {
		if got, code := impl.CommittedOf(c.list); !slices.Equal(got, c.want) || code != impl.OK {
			t.Errorf("CommittedOf of %s = %v, %d, want %v", brief(c.list), got, code, c.want)
		}
	}
	for code := 1; code < 20; code++ {
		list := manyDone(60)
		for i := range list {
			list[i].Code = code
		}
		wantHistoryTold(t, "all with a code", list, historyTold{kept: true})
		list[59].Code = impl.OK
		wantHistoryTold(t, "one without a code", list, historyTold{[]int{59}, []int{59}, true})
	}
}

// Hours that are alike: who wrote first, then as they stand.
func TestWitness(t *testing.T) {
	for _, c := range []struct {
		list []impl.Done
		want []int
	}{
		// One hour alone.
		{[]impl.Done{read(4, 0), read(4, 0), read(4, 0)}, []int{0, 1, 2}},
		{[]impl.Done{wrote(4, 0), wrote(4, 0), wrote(4, 0)}, []int{0, 1, 2}},
		{[]impl.Done{wrote(4, 0), read(4, 0)}, []int{0, 1}},
		{[]impl.Done{read(4, 0), wrote(4, 0)}, []int{1, 0}},
		{[]impl.Done{read(4, 0), wrote(4, 0), read(4, 0)}, []int{1, 0, 2}},
		{[]impl.Done{read(4, 0), read(4, 0), wrote(4, 0)}, []int{2, 0, 1}},
		{[]impl.Done{read(4, 0), wrote(4, 0), read(4, 0), wrote(4, 0), read(4, 0)}, []int{1, 3, 0, 2, 4}},
		{[]impl.Done{read(0, 0), read(0, 0), wrote(0, 0)}, []int{2, 0, 1}},
		// Hours that rise, that fall, and both.
		{[]impl.Done{read(0, 0), wrote(1, 0), read(2, 0)}, []int{0, 1, 2}},
		{[]impl.Done{wrote(2, 0), read(1, 0), read(0, 0)}, []int{2, 1, 0}},
		{[]impl.Done{wrote(2, 0), read(1, 0), wrote(1, 0), read(2, 0), read(0, 0), read(1, 0)}, []int{4, 2, 1, 5, 0, 3}},
		// Who wrote later stands behind who read ahead of it.
		{[]impl.Done{wrote(3, 0), read(2, 0), wrote(4, 0), read(3, 0)}, []int{1, 0, 3, 2}},
		{[]impl.Done{read(impl.MaxTime, 0), read(9, 0), wrote(impl.MaxTime, 0), read(10, 0), read(100, 0)}, []int{1, 3, 4, 2, 0}},
		// Codes between.
		{[]impl.Done{coded(4, 0), read(4, 0), coded(4, 0), wrote(4, 0), coded(4, 0), read(4, 0), coded(4, 0)}, []int{3, 1, 5}},
		{[]impl.Done{coded(1, 0), read(4, 0), coded(2, 0), read(3, 0), coded(3, 0)}, []int{3, 1}},
		{[]impl.Done{coded(0, 0), coded(1, 0)}, nil},
	} {
		if got, code := impl.Witness(c.list); !slices.Equal(got, c.want) || code != impl.OK {
			t.Errorf("Witness of %s = %v, %d, want %v", brief(c.list), got, code, c.want)
		}
		holdHistory(t, brief(c.list), c.list)
	}
}

// What stands alike keeps its order, however many there are.
func TestWitnessOfManyAlike(t *testing.T) {
	for _, hours := range []int{1, 2, 3, 7} {
		for _, writers := range []int{1, 2, 3, 61} {
			list := make([]impl.Done, 60)
			var want []int
			for i := range list {
				list[i] = impl.Done{Ts: (60 - i) % hours, Wrote: i%writers == 0}
			}
			for ts := range hours {
				for _, some := range []bool{true, false} {
					for i, d := range list {
						if d.Ts == ts && d.Wrote == some {
							want = append(want, i)
						}
					}
				}
			}
			if got, code := impl.Witness(list); !slices.Equal(got, want) || code != impl.OK {
				t.Errorf("Witness of %d hours, each %dth wrote = %v, %d, want %v", hours, writers, got, code, want)
			}
		}
	}
}

func TestRealTime(t *testing.T) {
	for _, c := range []struct {
		list []impl.Done
		want bool
	}{
		{[]impl.Done{read(1, 0)}, true},
		{[]impl.Done{read(1, 0), read(1, 1)}, true},
		{[]impl.Done{read(1, 0), read(2, 1)}, true},
		{[]impl.Done{read(2, 0), read(1, 1)}, false},
		{[]impl.Done{read(2, 0), read(1, 0)}, true},
		{[]impl.Done{wrote(1, 0), read(1, 1)}, true},
		{[]impl.Done{read(1, 0), wrote(1, 1)}, false},
		{[]impl.Done{read(1, 0), wrote(1, 0)}, true},
		{[]impl.Done{read(1, 0), wrote(2, 1)}, true},
		// By one alone: the last place below Since, and the first one that is not.
		{[]impl.Done{read(1, 0), read(3, 0), read(1, 0), read(2, 1)}, true},
		{[]impl.Done{read(1, 0), read(3, 0), read(1, 0), read(2, 2)}, false},
		{[]impl.Done{read(3, 0), read(1, 0), read(1, 0), read(2, 0)}, true},
		{[]impl.Done{read(3, 0), read(1, 0), read(1, 0), read(2, 1)}, false},
		{[]impl.Done{read(1, 0), read(1, 0), read(3, 0), read(2, 2)}, true},
		{[]impl.Done{read(1, 0), read(1, 0), read(3, 0), read(2, 3)}, false},
		// By one in the middle of Witness, and by its first one.
		{[]impl.Done{read(5, 0), read(7, 0), read(6, 1), read(8, 3)}, true},
		{[]impl.Done{read(5, 0), read(7, 0), read(6, 2), read(8, 3)}, false},
		{[]impl.Done{read(5, 0), read(7, 0), read(6, 0), read(4, 0)}, true},
		{[]impl.Done{read(5, 0), read(7, 0), read(6, 0), read(4, 1)}, false},
		// Those that have a code count for nothing, ahead and behind.
		{[]impl.Done{coded(9, 0), read(1, 1)}, true},
		{[]impl.Done{read(9, 0), coded(1, 1)}, true},
		{[]impl.Done{coded(9, 0), coded(1, 1)}, true},
		{[]impl.Done{read(1, 0), coded(9, 0), read(2, 2)}, true},
		{[]impl.Done{read(9, 0), coded(1, 0), read(2, 1)}, false},
		{[]impl.Done{coded(1, 0), read(9, 0), read(2, 1)}, true},
		{[]impl.Done{coded(1, 0), read(9, 0), read(2, 2)}, false},
		{[]impl.Done{coded(9, 0), read(5, 1), coded(0, 1), read(4, 1), coded(0, 4)}, true},
		{[]impl.Done{coded(9, 0), read(5, 1), coded(0, 1), read(4, 2), coded(0, 4)}, false},
	} {
		if got, code := impl.RealTime(c.list); got != c.want || code != impl.OK {
			t.Errorf("RealTime of %s = %v, %d, want %v", brief(c.list), got, code, c.want)
		}
		holdHistory(t, brief(c.list), c.list)
	}
}

// Hours that rise keep who was done ahead, whatever Since is; of hours that fall each Since counts.
func TestRealTimeOfMany(t *testing.T) {
	for _, n := range []int{2, 3, 59, 60} {
		up, down := make([]impl.Done, n), make([]impl.Done, n)
		for i := range n {
			up[i], down[i] = read(i, i), read(n-i, 0)
		}
		wantHistoryTold(t, "hours that rise", up, historyTold{placesUpTo(n), placesUpTo(n), true})
		wantHistoryTold(t, "hours that fall", down, historyTold{placesUpTo(n), reversed(placesUpTo(n)), true})
		for at := 1; at < n; at++ {
			for _, since := range []int{1, (at + 1) / 2, at} {
				some := slices.Clone(down)
				some[at].Since = since
				wantHistoryTold(t, "hours that fall, one Since", some, historyTold{placesUpTo(n), reversed(placesUpTo(n)), false})
				some[at].Code = impl.ErrCancelled
				if kept, code := impl.RealTime(some); !kept || code != impl.OK {
					t.Errorf("RealTime by one that is cancelled = %v, %d", kept, code)
				}
			}
		}
	}
}

func placesUpTo(n int) (places []int) {
	for i := range n {
		places = append(places, i)
	}
	return places
}
