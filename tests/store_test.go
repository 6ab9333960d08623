package tests

import (
	"math"
	"reflect"
	"slices"
	"testing"

	"loop.example/g00540/impl"
)

const (
	leastInt = -impl.MaxInt - 1
	hugeInt  = math.MaxInt
	tinyInt  = math.MinInt
)

func put(key, value int) impl.Put { return impl.Put{Key: key, Value: value} }

// chain has a version at each of the hours; its value is ten times the hour.
func chain(hours ...int) (list []impl.Version) {
	for _, ts := range hours {
		list = append(list, impl.Version{Ts: ts, Value: 10 * ts})
	}
	return list
}

// storeAt has the chains under their keys, and no versions under others.
func storeAt(now int, chains map[int][]impl.Version) impl.Store {
	s := impl.Store{Chains: make([][]impl.Version, 16), Now: now}
	for key, list := range chains {
		s.Chains[key] = list
	}
	return s
}

func storeWith(now, key int, list ...impl.Version) impl.Store {
	return storeAt(now, map[int][]impl.Version{key: list})
}

// plainStore has hours without a version, at both ends and between, and a version at Now.
func plainStore() impl.Store {
	return storeAt(9, map[int][]impl.Version{
		0:  chain(2, 3, 7),
		1:  {{Ts: 9, Value: 8}},
		2:  chain(1),
		4:  chain(1, 2, 3, 4, 5, 6, 7, 8, 9),
		5:  {{Ts: 4, Value: 1}, {Ts: 5, Value: 0}},
		14: {{Ts: 3, Value: leastInt}, {Ts: 6, Value: impl.MaxInt}},
		15: {{Ts: 1, Value: 0}, {Ts: 8, Value: 0}},
	})
}

// fullChain has a version at each hour from 1 on.
func fullChain(hours int) (list []impl.Version) {
	for ts := range hours {
		list = append(list, impl.Version{Ts: ts + 1, Value: ts % 9})
	}
	return list
}

func rightStores() []impl.Store {
	list := []impl.Store{
		impl.NewStore(), plainStore(), storeAt(1, nil), storeAt(impl.MaxTime, nil), storeAt(impl.MaxTime-1, map[int][]impl.Version{15: fullChain(impl.MaxTime - 1)}),
		{Chains: slices.Repeat([][]impl.Version{{}}, 16)}, {Chains: slices.Repeat([][]impl.Version{fullChain(5)}, 16), Now: 5},
	}
	for key := range 16 {
		least, most := leastInt, impl.MaxInt
		if key%2 == 1 {
			least, most = 0, 8
		}
		list = append(list,
			storeWith(2, key, impl.Version{Ts: 1, Value: least}, impl.Version{Ts: 2, Value: most}),
			storeWith(1, key, impl.Version{Ts: 1, Value: most}),
			storeWith(impl.MaxTime, key, impl.Version{Ts: 1, Value: 0}, impl.Version{Ts: impl.MaxTime, Value: least}))
		for value := range 9 {
			list = append(list, storeWith(7, key, impl.Version{Ts: 7, Value: value}))
		}
	}
	return list
}

func wrongStores() []impl.Store {
	list := []impl.Store{
		{}, {Now: 1}, {Chains: [][]impl.Version{}}, {Chains: make([][]impl.Version, 1)}, {Chains: make([][]impl.Version, 15)}, {Chains: make([][]impl.Version, 17)}, {Chains: make([][]impl.Version, 5000)},
		storeAt(-1, nil), storeAt(tinyInt, nil), storeAt(impl.MaxTime+1, nil), storeAt(hugeInt, nil), storeAt(impl.MaxTime+1, map[int][]impl.Version{15: fullChain(impl.MaxTime + 1)}),
		{Chains: plainStore().Chains, Now: 8}, {Chains: plainStore().Chains, Now: 0}, {Chains: plainStore().Chains, Now: -9}, {Chains: plainStore().Chains[:15], Now: 9}, {Chains: append(plainStore().Chains, nil), Now: 9},
	}
	for key := range 16 {
		for _, hours := range [][]int{
			{0}, {-1}, {tinyInt}, {7}, {8}, {hugeInt}, {0, 1}, {-1, 1}, {-2, -1}, {1, 7}, {6, 7}, {7, 8}, {1, 1}, {6, 6}, {2, 1}, {6, 1}, {1, 2, 2}, {1, 3, 2}, {1, 1, 2}, {2, 1, 3}, {1, 2, 3, 4, 5, 6, 6}, {1, 2, 3, 4, 5, 6, 7}, {2, 4, 3, 6},
		} {
			list = append(list, storeAt(6, map[int][]impl.Version{key: versionsAt(hours)}))
		}
		for _, value := range wrongPuts(key) {
			bad := impl.Version{Ts: 2, Value: value}
			list = append(list, storeWith(2, key, bad), storeWith(3, key, impl.Version{Ts: 1}, bad, impl.Version{Ts: 3}), storeWith(9, key, bad, impl.Version{Ts: 3}))
		}
	}
	return list
}

// versionsAt have a value that is right under each key.
func versionsAt(hours []int) (list []impl.Version) {
	for i, ts := range hours {
		list = append(list, impl.Version{Ts: ts, Value: i % 9})
	}
	return list
}

// wrongPuts are the values that a key cannot have.
func wrongPuts(key int) []int {
	if key%2 == 0 {
		return []int{leastInt - 1, impl.MaxInt + 1, tinyInt, hugeInt}
	}
	return []int{-1, 9, 10, leastInt, impl.MaxInt, tinyInt, hugeInt}
}

func TestNewStore(t *testing.T) {
	s := impl.NewStore()
	if len(s.Chains) != 16 || s.Now != 0 || !impl.StoreOK(s) {
		t.Errorf("NewStore = %v", s)
	}
	for key, list := range s.Chains {
		if len(list) != 0 {
			t.Errorf("NewStore has versions under %d", key)
		}
	}
	other := impl.NewStore()
	wantOwnMemory(t, "NewStore", s, other)
	s.Chains[3] = chain(1)
	if len(impl.NewStore().Chains[3]) != 0 || len(other.Chains[3]) != 0 {
		t.Error("NewStore hangs on what was made of an earlier one")
	}
}

func TestStoreOK(t *testing.T) {
	for _, s := range rightStores() {
		if !impl.StoreOK(s) {
			t.Errorf("StoreOK(%.300v) = false", s)
		}
	}
	for _, s := range wrongStores() {
		if impl.StoreOK(s) {
			t.Errorf("StoreOK(%.300v) = true", s)
		}
	}
}

// wantValue fails unless the key tells the value at the hour.
func wantValue(t *testing.T, s impl.Store, key, ts, want int) {
	t.Helper()
	if got, code := impl.ReadAt(s, key, ts); got != want || code != impl.OK {
		t.Errorf("ReadAt of %.300v, key %d at %d = %d, %d, want %d", s, key, ts, got, code, want)
	}
}

// plainValues are what plainStore tells, from hour 0 to hour 9.
func plainValues() map[int][]int {
	return map[int][]int{
		0:  {0, 0, 20, 30, 30, 30, 30, 70, 70, 70},
		1:  {0, 0, 0, 0, 0, 0, 0, 0, 0, 8},
		2:  {0, 10, 10, 10, 10, 10, 10, 10, 10, 10},
		3:  make([]int, 10),
		4:  {0, 10, 20, 30, 40, 50, 60, 70, 80, 90},
		5:  {0, 0, 0, 0, 1, 0, 0, 0, 0, 0},
		13: make([]int, 10),
		14: {0, 0, 0, leastInt, leastInt, leastInt, impl.MaxInt, impl.MaxInt, impl.MaxInt, impl.MaxInt},
		15: make([]int, 10),
	}
}

func TestReadAt(t *testing.T) {
	for key, values := range plainValues() {
		for ts, want := range values {
			wantValue(t, plainStore(), key, ts, want)
		}
	}
	for key := range 16 {
		wantValue(t, impl.NewStore(), key, 0, 0)
		for _, ts := range []int{0, 1, impl.MaxTime} {
			wantValue(t, storeAt(impl.MaxTime, nil), key, ts, 0)
		}
		// The hour of a version, the one ahead of it, the one behind it.
		for _, hour := range []int{1, 2, 50000, impl.MaxTime - 1, impl.MaxTime} {
			s := storeWith(impl.MaxTime, key, impl.Version{Ts: hour, Value: 5})
			wantValue(t, s, key, 0, 0)
			wantValue(t, s, key, hour-1, 0)
			wantValue(t, s, key, hour, 5)
			wantValue(t, s, key, min(hour+1, impl.MaxTime), 5)
			wantValue(t, s, key, impl.MaxTime, 5)
			wantValue(t, s, (key+1)%16, hour, 0)
		}
	}
	long := storeAt(impl.MaxTime, map[int][]impl.Version{7: fullChain(impl.MaxTime)})
	for _, ts := range []int{1, 2, 9, 10, 4096, 65537, impl.MaxTime - 1, impl.MaxTime} {
		wantValue(t, long, 7, ts, (ts-1)%9)
	}
	wantValue(t, long, 7, 0, 0)
}

// wantWritten writes the list, and fails unless the store is right then, and the hour is that.
func wantWritten(t *testing.T, s impl.Store, want int, list ...impl.Put) impl.Store {
	t.Helper()
	next, ts, code := impl.WriteAll(s, list)
	if ts != want || code != impl.OK || next.Now != want || !impl.StoreOK(next) {
		t.Fatalf("WriteAll of %.200v = Now %d, %d, %d, want %d", list, next.Now, ts, code, want)
	}
	return next
}

// wantStore fails unless the stores are alike, version by version.
func wantStore(t *testing.T, what string, got, want impl.Store) {
	t.Helper()
	if got.Now != want.Now || !slices.EqualFunc(got.Chains, want.Chains, slices.Equal[[]impl.Version]) {
		t.Errorf("%s = %.500v, want %.500v", what, got, want)
	}
}

func TestWriteAll(t *testing.T) {
	for _, s := range []impl.Store{impl.NewStore(), plainStore(), storeAt(impl.MaxTime-1, nil)} {
		hour := s.Now + 1
		with := func(chains map[int][]impl.Version) impl.Store {
			want := storeAt(hour, nil)
			for key, list := range s.Chains {
				want.Chains[key] = slices.Concat(list, chains[key])
			}
			return want
		}
		for _, list := range [][]impl.Put{nil, {}, make([]impl.Put, 0, 3)} {
			wantStore(t, "WriteAll of nothing", wantWritten(t, s, s.Now, list...), s)
		}
		for key := range 16 {
			got := wantWritten(t, s, hour, put(key, 6))
			wantStore(t, "WriteAll of one", got, with(map[int][]impl.Version{key: {{Ts: hour, Value: 6}}}))
			// What is written is a version, though it tells what was told ahead.
			got = wantWritten(t, s, hour, put(key, 0))
			wantStore(t, "WriteAll of 0", got, with(map[int][]impl.Version{key: {{Ts: hour}}}))
		}
		more := []impl.Put{put(15, 8), put(0, leastInt), put(3, 0), put(2, impl.MaxInt), put(1, 1)}
		wantStore(t, "WriteAll of more", wantWritten(t, s, hour, more...), with(map[int][]impl.Version{
			0: {{Ts: hour, Value: leastInt}}, 1: {{Ts: hour, Value: 1}}, 2: {{Ts: hour, Value: impl.MaxInt}}, 3: {{Ts: hour}}, 15: {{Ts: hour, Value: 8}},
		}))
		again := []impl.Put{put(4, 1), put(5, 7), put(4, 2), put(6, -1), put(5, 0), put(4, -3), put(8, 1), put(8, 1)}
		wantStore(t, "WriteAll of keys that come twice", wantWritten(t, s, hour, again...), with(map[int][]impl.Version{
			4: {{Ts: hour, Value: -3}}, 5: {{Ts: hour}}, 6: {{Ts: hour, Value: -1}}, 8: {{Ts: hour, Value: 1}},
		}))
	}
}

// manyPuts go round the keys; of each key the last value is of the last one.
func manyPuts(n int) (list []impl.Put) {
	for i := range n {
		list = append(list, put(i%16, i/16%9))
	}
	return list
}

func TestWriteAllOfMany(t *testing.T) {
	list := manyPuts(impl.MaxFields)
	got := wantWritten(t, impl.NewStore(), 1, list...)
	for key, versions := range got.Chains {
		if want := []impl.Version{{Ts: 1, Value: list[384+key].Value}}; !slices.Equal(versions, want) {
			t.Errorf("WriteAll of 400, key %d = %v, want %v", key, versions, want)
		}
	}
	wantWritten(t, impl.NewStore(), 1, manyPuts(impl.MaxFields-1)...)
	for _, n := range []int{401, 402, 1000, impl.MaxList - 1, impl.MaxList} {
		wantNotWritten(t, impl.NewStore(), manyPuts(n), impl.ErrRange)
		wantNotWritten(t, impl.NewStore(), make([]impl.Put, n), impl.ErrRange)
	}
}

// What elder hours tell stays, whatever is written; the new hour tells it.
func TestElderHoursStay(t *testing.T) {
	s := plainStore()
	values := plainValues()
	for hour := 10; hour < 30; hour++ {
		key := []int{0, 1, 2, 3, 4, 5, 13, 14, 15}[hour%9]
		s = wantWritten(t, s, hour, put(key, hour%9), put(key, 8-hour%9))
		for other := range values {
			last := values[other][hour-1]
			if other == key {
				last = 8 - hour%9
			}
			values[other] = append(values[other], last)
		}
		for other, list := range values {
			for ts, want := range list {
				wantValue(t, s, other, ts, want)
			}
		}
	}
}

func wantChanged(t *testing.T, s impl.Store, key, ts int, want bool) {
	t.Helper()
	if got, code := impl.ChangedSince(s, key, ts); got != want || code != impl.OK {
		t.Errorf("ChangedSince of %.300v, key %d, %d = %v, %d, want %v", s, key, ts, got, code, want)
	}
}

func TestChangedSince(t *testing.T) {
	// The last hour that something is behind, which is the one ahead of the last version.
	last := map[int]int{0: 6, 1: 8, 2: 0, 4: 8, 5: 4, 14: 5, 15: 7}
	for key := range 16 {
		until, there := last[key]
		for ts := range 10 {
			wantChanged(t, plainStore(), key, ts, there && ts <= until)
		}
		wantChanged(t, impl.NewStore(), key, 0, false)
		for _, hour := range []int{1, 2, 50000, impl.MaxTime} {
			s := storeWith(impl.MaxTime, key, impl.Version{Ts: hour, Value: 0})
			wantChanged(t, s, key, 0, true)
			wantChanged(t, s, key, hour-1, true)
			wantChanged(t, s, key, hour, false)
			wantChanged(t, s, key, min(hour+1, impl.MaxTime), false)
			wantChanged(t, s, (key+15)%16, 0, false)
		}
	}
}

func wantKeys(t *testing.T, s impl.Store, ts int, want ...int) {
	t.Helper()
	if got, code := impl.KeysSince(s, ts); !slices.Equal(got, want) || code != impl.OK {
		t.Errorf("KeysSince of %.300v, %d = %v, %d, want %v", s, ts, got, code, want)
	}
}

func TestKeysSince(t *testing.T) {
	for ts, want := range [][]int{
		{0, 1, 2, 4, 5, 14, 15}, {0, 1, 4, 5, 14, 15}, {0, 1, 4, 5, 14, 15}, {0, 1, 4, 5, 14, 15}, {0, 1, 4, 5, 14, 15}, {0, 1, 4, 14, 15}, {0, 1, 4, 15}, {1, 4, 15}, {1, 4}, {},
	} {
		wantKeys(t, plainStore(), ts, want...)
	}
	wantKeys(t, impl.NewStore(), 0)
	all := storeAt(3, nil)
	var keys []int
	for key := range all.Chains {
		all.Chains[key] = []impl.Version{{Ts: 2}}
		keys = append(keys, key)
		wantKeys(t, storeWith(3, key, impl.Version{Ts: 2}), 1, key)
		wantKeys(t, storeWith(3, key, impl.Version{Ts: 2}), 2)
	}
	for ts, want := range [][]int{keys, keys, nil, nil} {
		wantKeys(t, all, ts, want...)
	}
}

// wantForgotten forgets, and fails unless so many went and the store is right then.
func wantForgotten(t *testing.T, s impl.Store, low, want int) impl.Store {
	t.Helper()
	rest, n, code := impl.Forget(s, low)
	if n != want || code != impl.OK || !impl.StoreOK(rest) {
		t.Fatalf("Forget of %.300v at %d = %.300v, %d, %d, want %d", s, low, rest, n, code, want)
	}
	return rest
}

func TestForget(t *testing.T) {
	// Key 0 has hours 2, 3, 7; key 4 all of 1 to 9; key 5 hours 4, 5; key 14 hours 3, 6; key 15 hours 1, 8.
	gone := []map[int]int{
		{}, {}, {4: 1}, {0: 1, 4: 2}, {0: 1, 4: 3}, {0: 1, 4: 4, 5: 1}, {0: 1, 4: 5, 5: 1, 14: 1}, {0: 2, 4: 6, 5: 1, 14: 1}, {0: 2, 4: 7, 5: 1, 14: 1, 15: 1}, {0: 2, 4: 8, 5: 1, 14: 1, 15: 1},
	}
	for low, by := range gone {
		want := plainStore()
		total := 0
		for key, n := range by {
			want.Chains[key] = want.Chains[key][n:]
			total += n
		}
		rest := wantForgotten(t, plainStore(), low, total)
		wantStore(t, "Forget", rest, want)
		wantSameFrom(t, plainStore(), rest, low)
		wantFewUpTo(t, rest, low)
		// What went does not go again.
		wantStore(t, "Forget again", wantForgotten(t, rest, low, 0), want)
	}
}

// wantSameFrom fails unless all keys tell the same in both stores from the hour on.
func wantSameFrom(t *testing.T, s, rest impl.Store, low int) {
	t.Helper()
	for key := range 16 {
		for ts := low; ts <= s.Now; ts++ {
			want, _ := impl.ReadAt(s, key, ts)
			wantValue(t, rest, key, ts, want)
		}
	}
	if same, code := impl.SameAt(s, rest); !same || code != impl.OK {
		t.Errorf("SameAt of what is left = %v, %d", same, code)
	}
}

// wantFewUpTo fails if a chain has more than one version that is not behind low.
func wantFewUpTo(t *testing.T, s impl.Store, low int) {
	t.Helper()
	for key, list := range s.Chains {
		if len(list) > 1 && list[1].Ts <= low {
			t.Errorf("key %d has %v, low is %d", key, list, low)
		}
	}
}

func TestForgetAtTheEnds(t *testing.T) {
	for key := range 16 {
		s := storeAt(impl.MaxTime, map[int][]impl.Version{key: {{Ts: 1, Value: 1}, {Ts: 5, Value: 2}, {Ts: impl.MaxTime, Value: 3}}})
		for low, want := range map[int]int{0: 0, 1: 0, 2: 0, 4: 0, 5: 1, 6: 1, impl.MaxTime - 1: 1, impl.MaxTime: 2} {
			rest := wantForgotten(t, s, low, want)
			if !slices.Equal(rest.Chains[key], s.Chains[key][want:]) || rest.Now != s.Now {
				t.Errorf("Forget at %d = %v", low, rest)
			}
		}
		// A lone version stays, however old it is.
		lone := storeWith(impl.MaxTime, key, impl.Version{Ts: 1, Value: 4})
		wantStore(t, "Forget of a lone version", wantForgotten(t, lone, impl.MaxTime, 0), lone)
	}
	wantStore(t, "Forget of nothing", wantForgotten(t, impl.NewStore(), 0, 0), impl.NewStore())
	long := storeAt(impl.MaxTime, map[int][]impl.Version{0: fullChain(impl.MaxTime), 15: fullChain(impl.MaxTime)})
	rest := wantForgotten(t, long, 60000, 2*59999)
	if n, code := impl.SizeOf(rest); n != 2*40001 || code != impl.OK {
		t.Error("SizeOf of what is left", n, code)
	}
}

func TestSizeOf(t *testing.T) {
	long := storeAt(impl.MaxTime, map[int][]impl.Version{0: fullChain(impl.MaxTime), 9: fullChain(3)})
	all := storeAt(5, nil)
	for key := range all.Chains {
		all.Chains[key] = fullChain(5)
	}
	for _, c := range []struct {
		s    impl.Store
		want int
	}{{impl.NewStore(), 0}, {storeAt(impl.MaxTime, nil), 0}, {plainStore(), 20}, {storeAt(4, map[int][]impl.Version{15: versionsAt([]int{1, 4})}), 2}, {all, 80}, {long, impl.MaxTime + 3}} {
		if got, code := impl.SizeOf(c.s); got != c.want || code != impl.OK {
			t.Errorf("SizeOf of %.300v = %d, %d, want %d", c.s, got, code, c.want)
		}
	}
}

func wantSameAt(t *testing.T, a, b impl.Store, want bool) {
	t.Helper()
	for _, pair := range [][2]impl.Store{{a, b}, {b, a}} {
		if got, code := impl.SameAt(pair[0], pair[1]); got != want || code != impl.OK {
			t.Errorf("SameAt of %.200v and %.200v = %v, %d, want %v", pair[0], pair[1], got, code, want)
		}
	}
}

func TestSameAt(t *testing.T) {
	for _, s := range rightStores() {
		wantSameAt(t, s, s, true)
	}
	wantSameAt(t, impl.NewStore(), storeAt(impl.MaxTime, nil), true)
	for key := range 16 {
		one := storeWith(5, key, impl.Version{Ts: 1, Value: 3}, impl.Version{Ts: 4, Value: 7})
		for _, other := range []impl.Store{
			storeWith(4, key, impl.Version{Ts: 4, Value: 7}), storeWith(1, key, impl.Version{Ts: 1, Value: 7}), storeWith(9, key, impl.Version{Ts: 1, Value: 2}, impl.Version{Ts: 4, Value: 7}), storeWith(9, key, impl.Version{Ts: 1, Value: 3}, impl.Version{Ts: 9, Value: 7}),
		} {
			wantSameAt(t, one, other, true)
		}
		for _, other := range []impl.Store{
			impl.NewStore(), storeWith(5, key, impl.Version{Ts: 1, Value: 3}), storeWith(5, key, impl.Version{Ts: 1, Value: 3}, impl.Version{Ts: 4, Value: 8}), storeWith(5, key, impl.Version{Ts: 1, Value: 7}, impl.Version{Ts: 4, Value: 3}),
			storeWith(6, key, impl.Version{Ts: 4, Value: 7}, impl.Version{Ts: 6, Value: 0}), storeWith(5, (key+2)%16, impl.Version{Ts: 4, Value: 7}),
		} {
			wantSameAt(t, one, other, false)
		}
		// 0 that was written is told as 0 that was not.
		wantSameAt(t, storeWith(3, key, impl.Version{Ts: 1, Value: 3}, impl.Version{Ts: 3, Value: 0}), impl.NewStore(), true)
		wantSameAt(t, plainStore(), wantWritten(t, plainStore(), 10, put(key, 5)), false)
	}
}

// An empty list and nil are the same.
func TestEmptyChains(t *testing.T) {
	empty := impl.Store{Chains: slices.Repeat([][]impl.Version{{}}, 16)}
	wantSameAt(t, empty, impl.NewStore(), true)
	got, want := answersOfStore(empty, 0, 0, nil), answersOfStore(impl.NewStore(), 0, 0, []impl.Put{})
	if !reflect.DeepEqual(tidyAnswers(got), tidyAnswers(want)) {
		t.Errorf("calls of empty chains = %v, want %v", got, want)
	}
}
