package tests

import (
	"fmt"
	"slices"
	"testing"

	"loop.example/g00540/impl"
)

// brief is the beginning of what a value is told as, for stores and lists that are long.
func brief(value any) string { return fmt.Sprintf("%.300s", fmt.Sprint(value)) }

func txn(start int, reads []int, writes ...impl.Put) impl.Txn {
	return impl.Txn{Start: start, Reads: reads, Writes: writes}
}

func allKeys() (keys []int) {
	for key := range 16 {
		keys = append(keys, key)
	}
	return keys
}

func reversed(list []int) []int {
	out := slices.Clone(list)
	slices.Reverse(out)
	return out
}

// rightReads are keys in any order, once each.
func rightReads() [][]int {
	lists := [][]int{nil, {}, {0}, {15}, {0, 15}, {15, 0}, {5, 2, 9}, {7, 6, 5, 4}, allKeys(), reversed(allKeys())}
	for key := range 16 {
		lists = append(lists, []int{key})
	}
	return lists
}

func wrongReads() [][]int {
	lists := [][]int{
		{-1}, {16}, {17}, {-16}, {1 << 32}, {tinyInt}, {hugeInt}, {0, 16}, {16, 0}, {-1, 0}, {3, -1, 4}, {3, 16, 4},
		{1, 2, 1}, {1, 1, 2}, {2, 1, 1}, {-1, -1}, {16, 16}, append(allKeys(), 16), append(allKeys(), 0), append(allKeys(), 15), slices.Repeat([]int{3}, 5000), slices.Repeat(allKeys(), 500),
	}
	for key := range 16 {
		lists = append(lists, []int{key, key})
	}
	return lists
}

func rightWrites() [][]impl.Put {
	lists := listsOfPuts()
	for key := range 16 {
		least, most := leastInt, impl.MaxInt
		if key%2 == 1 {
			least, most = 0, 8
		}
		lists = append(lists, []impl.Put{put(key, least)}, []impl.Put{put(key, most)}, []impl.Put{put(key, most), put(key, least), put(key, most)})
	}
	return append(lists, manyPuts(399), make([]impl.Put, 400), slices.Repeat([]impl.Put{put(15, 8)}, 400))
}

// putsOutOfRange have a key that is none, or a value that its key cannot have.
func putsOutOfRange() (list []impl.Put) {
	for _, key := range []int{-1, -2, -16, 16, 17, 18, 1 << 33, tinyInt, hugeInt} {
		list = append(list, put(key, 0), put(key, 1))
	}
	for key := range 16 {
		for _, value := range wrongPuts(key) {
			list = append(list, put(key, value))
		}
	}
	return list
}

func wrongWrites() [][]impl.Put {
	lists := [][]impl.Put{manyPuts(401), make([]impl.Put, 401), manyPuts(402), manyPuts(impl.MaxList), manyPuts(impl.MaxList + 1), manyPuts(20000)}
	for _, p := range putsOutOfRange() {
		lists = append(lists, []impl.Put{p}, []impl.Put{put(2, 1), p}, []impl.Put{p, put(2, 1)}, append(manyPuts(399), p))
	}
	return lists
}

func wrongStarts(now int) []int {
	return []int{-1, -2, tinyInt, now + 1, now + 2, 1<<32 + now, hugeInt}
}

// rightTxns have each right part beside plain ones.
func rightTxns(now int) (list []impl.Txn) {
	for _, start := range []int{0, min(1, now), now / 2, max(now-1, 0), now} {
		list = append(list, txn(start, nil), txn(start, []int{3, 1}, put(1, 8), put(0, -5)))
	}
	for _, reads := range rightReads() {
		list = append(list, txn(now, reads), txn(0, reads, put(4, 4)))
	}
	for _, writes := range rightWrites() {
		list = append(list, txn(now, nil, writes...), txn(0, []int{9, 4}, writes...))
	}
	return list
}

// wrongTxns have one part that is not right beside right ones.
func wrongTxns(now int) (list []impl.Txn) {
	for _, start := range wrongStarts(now) {
		list = append(list, txn(start, nil), txn(start, []int{1}), txn(start, nil, put(1, 1)), txn(start, []int{3, 1}, put(1, 8), put(0, -5)))
	}
	for _, reads := range wrongReads() {
		list = append(list, txn(now, reads), txn(0, reads, put(4, 4)))
	}
	for _, writes := range wrongWrites() {
		list = append(list, txn(now, nil, writes...), txn(0, []int{9, 4}, writes...))
	}
	return list
}

func storesForTxns() []impl.Store {
	return []impl.Store{impl.NewStore(), storeAt(1, nil), plainStore(), storeAt(impl.MaxTime, plainMap()), storeAt(impl.MaxTime-1, plainMap())}
}

func TestTxnOK(t *testing.T) {
	for _, s := range storesForTxns() {
		for _, x := range rightTxns(s.Now) {
			if !impl.TxnOK(s, x) {
				t.Errorf("TxnOK at Now %d of %s = false", s.Now, brief(x))
			}
		}
		for _, x := range wrongTxns(s.Now) {
			if impl.TxnOK(s, x) {
				t.Errorf("TxnOK at Now %d of %s = true", s.Now, brief(x))
			}
		}
	}
	for _, s := range wrongStores() {
		for _, x := range []impl.Txn{{}, txn(0, []int{1}, put(0, 1)), txn(s.Now, nil), txn(max(s.Now, 0), []int{2})} {
			if impl.TxnOK(s, x) {
				t.Errorf("TxnOK of %s in %s = true", brief(x), brief(s))
			}
		}
	}
	// A start is held against the store's Now, not against its versions.
	for ts := range 12 {
		if got := impl.TxnOK(plainStore(), txn(ts, nil)); got != (ts <= 9) {
			t.Errorf("TxnOK at start %d of Now 9 = %v", ts, got)
		}
	}
}

// wantTxn fails unless the transactions are alike, an empty list being nil.
func wantTxn(t *testing.T, what string, got, want impl.Txn) {
	t.Helper()
	if got.Start != want.Start || !slices.Equal(got.Reads, want.Reads) || !slices.Equal(got.Writes, want.Writes) {
		t.Errorf("%s = %s, want %s", what, brief(got), brief(want))
	}
}

func wantBegun(t *testing.T, s impl.Store) impl.Txn {
	t.Helper()
	x, code := impl.Begin(s)
	if code != impl.OK || !impl.TxnOK(s, x) {
		t.Fatalf("Begin at Now %d = %v, %d", s.Now, x, code)
	}
	wantTxn(t, "Begin", x, txn(s.Now, nil))
	return x
}

func TestBegin(t *testing.T) {
	for _, s := range rightStores() {
		wantBegun(t, s)
	}
	for _, s := range wrongStores() {
		if x, code := impl.Begin(s); x.Start != 0 || len(x.Reads)+len(x.Writes) > 0 || code != impl.ErrBad {
			t.Errorf("Begin of %s = %v, %d", brief(s), x, code)
		}
	}
}

// wantTxnRead reads, and fails unless the value is that and these keys are read then.
func wantTxnRead(t *testing.T, s impl.Store, x impl.Txn, key, want int, reads ...int) impl.Txn {
	t.Helper()
	y, value, code := impl.ReadTxn(s, x, key)
	if value != want || code != impl.OK || !impl.TxnOK(s, y) {
		t.Errorf("ReadTxn of %s, key %d = %s, %d, %d, want %d", brief(x), key, brief(y), value, code, want)
	}
	wantTxn(t, "ReadTxn", y, txn(x.Start, reads, x.Writes...))
	return y
}

// wantTxnWritten writes, and fails unless the Put is behind those that were there.
func wantTxnWritten(t *testing.T, s impl.Store, x impl.Txn, p impl.Put) impl.Txn {
	t.Helper()
	y, code := impl.WriteTxn(s, x, p)
	if code != impl.OK || !impl.TxnOK(s, y) {
		t.Fatalf("WriteTxn of %s, %v = %s, %d", brief(x), p, brief(y), code)
	}
	wantTxn(t, "WriteTxn", y, txn(x.Start, x.Reads, slices.Concat(x.Writes, []impl.Put{p})...))
	return y
}

func TestReadTxnAtItsStart(t *testing.T) {
	s := plainStore()
	// Others write all keys behind every start.
	later := wantWritten(t, s, 10, manyPuts(16)...)
	later = wantWritten(t, later, 11, manyPuts(400)...)
	for key, values := range plainValues() {
		for start, want := range values {
			for _, in := range []impl.Store{s, later} {
				wantTxnRead(t, in, txn(start, nil), key, want, key)
				wantTxnRead(t, in, txn(start, []int{12, 7}), key, want, 12, 7, key)
				// What it wrote to other keys is not told of this one.
				wantTxnRead(t, in, txn(start, nil, put((key+1)%16, 3), put((key+15)%16, 4)), key, want, key)
			}
		}
	}
	for key := range 16 {
		wantTxnRead(t, impl.NewStore(), impl.Txn{}, key, 0, key)
		// A version ahead of the start, at it, behind it.
		for start, want := range map[int]int{3: 0, 4: 5, 5: 5, 6: 6, 7: 6, impl.MaxTime: 6} {
			in := storeWith(impl.MaxTime, key, impl.Version{Ts: 4, Value: 5}, impl.Version{Ts: 6, Value: 6})
			wantTxnRead(t, in, txn(start, nil), key, want, key)
		}
	}
}

func TestReadTxnOfWhatItWrote(t *testing.T) {
	s := plainStore()
	for key := range 16 {
		other := (key + 2) % 16
		told, _ := impl.ReadAt(s, key, 9)
		for _, c := range []struct {
			writes []impl.Put
			want   int
		}{
			{[]impl.Put{put(key, 5)}, 5},
			{[]impl.Put{put(key, 0)}, 0},
			{[]impl.Put{put(key, 5), put(key, 7)}, 7},
			{[]impl.Put{put(key, 7), put(key, 5)}, 5},
			{[]impl.Put{put(key, 7), put(key, 7), put(key, 0)}, 0},
			{[]impl.Put{put(other, 1), put(key, 6), put(other, 2)}, 6},
			{[]impl.Put{put(key, 6), put(other, 1), put(key, 3), put(other, 2)}, 3},
			{append(manyPuts(399), put(key, 8)), 8},
		} {
			for _, start := range []int{0, 5, 9} {
				// The key is not kept, whether others were read or none.
				wantTxnRead(t, s, txn(start, nil, c.writes...), key, c.want)
				wantTxnRead(t, s, txn(start, []int{other}, c.writes...), key, c.want, other)
			}
		}
		// Read ahead of writing, it stays read, and what was written is told.
		x := wantTxnRead(t, s, wantBegun(t, s), key, told, key)
		x = wantTxnWritten(t, s, x, put(key, 4))
		x = wantTxnRead(t, s, x, key, 4, key)
		x = wantTxnWritten(t, s, x, put(key, 1))
		wantTxnRead(t, s, x, key, 1, key)
	}
}

func TestReadTxnKeepsKeysOnce(t *testing.T) {
	s := plainStore()
	x := wantBegun(t, s)
	x = wantTxnRead(t, s, x, 5, 0, 5)
	x = wantTxnRead(t, s, x, 5, 0, 5)
	x = wantTxnRead(t, s, x, 2, 10, 5, 2)
	x = wantTxnRead(t, s, x, 4, 90, 5, 2, 4)
	x = wantTxnRead(t, s, x, 2, 10, 5, 2, 4)
	x = wantTxnRead(t, s, x, 5, 0, 5, 2, 4)
	x = wantTxnWritten(t, s, x, put(0, 6))
	x = wantTxnRead(t, s, x, 0, 6, 5, 2, 4)
	wantTxnRead(t, s, x, 1, 8, 5, 2, 4, 1)
	all := wantBegun(t, s)
	for round := range 2 {
		for key := range 16 {
			want, _ := impl.ReadAt(s, key, 9)
			reads := allKeys()[:key+1]
			if round == 1 {
				reads = allKeys()
			}
			all = wantTxnRead(t, s, all, key, want, reads...)
		}
	}
}

func TestWriteTxn(t *testing.T) {
	s := plainStore()
	x := txn(4, []int{9, 3})
	for _, p := range []impl.Put{put(15, 8), put(0, leastInt), put(3, 0), put(0, impl.MaxInt), put(0, impl.MaxInt), put(2, -1), put(15, 0)} {
		x = wantTxnWritten(t, s, x, p)
	}
	wantTxn(t, "WriteTxn", x, txn(4, []int{9, 3}, put(15, 8), put(0, leastInt), put(3, 0), put(0, impl.MaxInt), put(0, impl.MaxInt), put(2, -1), put(15, 0)))
	for _, list := range rightWrites() {
		y := txn(9, nil)
		for _, p := range list {
			y = wantTxnWritten(t, s, y, p)
		}
		wantTxn(t, "WriteTxn", y, txn(9, nil, list...))
	}
	// Writing asks nothing of what was written since, nor of the hours that are left.
	wantTxnWritten(t, storeAt(impl.MaxTime, plainMap()), txn(0, allKeys()), put(4, 1))
}

// wantMany fails unless WriteTxn answers ErrMany and the transaction as it was, in memory of its own.
func wantMany(t *testing.T, s impl.Store, x impl.Txn, p impl.Put) {
	t.Helper()
	got, code := impl.WriteTxn(s, x, p)
	if code != impl.ErrMany {
		t.Errorf("WriteTxn of %d Puts, %v = %d", len(x.Writes), p, code)
	}
	wantTxn(t, "WriteTxn of many", got, x)
	wantOwnMemory(t, "WriteTxn of many", got, x)
}

func TestWriteTxnOfMany(t *testing.T) {
	for _, s := range storesForTxns() {
		for _, reads := range [][]int{nil, {7, 3}, allKeys()} {
			x := wantTxnWritten(t, s, txn(s.Now, reads, manyPuts(398)...), put(1, 8))
			x = wantTxnWritten(t, s, x, put(0, 7))
			for _, p := range []impl.Put{put(0, 0), put(0, 7), put(15, 8), put(14, leastInt)} {
				wantMany(t, s, x, p)
				wantMany(t, s, txn(0, reads, make([]impl.Put, 400)...), p)
			}
			// A Put that is out of range is told ahead.
			for _, p := range putsOutOfRange() {
				wantNoTxnWritten(t, s, x, p, impl.ErrRange)
			}
		}
	}
}
