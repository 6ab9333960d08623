package tests

import (
	"slices"
	"testing"

	"loop.example/g00540/impl"
)

func wantConflicts(t *testing.T, s impl.Store, x impl.Txn, want bool) {
	t.Helper()
	if got, code := impl.Conflicts(s, x); got != want || code != impl.OK {
		t.Errorf("Conflicts at Now %d of %s = %v, %d, want %v", s.Now, brief(x), got, code, want)
	}
}

// wantCommitted commits, and fails unless the store is as WriteAll leaves it, at the next hour.
func wantCommitted(t *testing.T, s impl.Store, x impl.Txn) impl.Store {
	t.Helper()
	next, ts, code := impl.Commit(s, x)
	if ts != s.Now+1 || code != impl.OK || !impl.StoreOK(next) {
		t.Fatalf("Commit at Now %d of %s = %d, %d", s.Now, brief(x), ts, code)
	}
	wantStore(t, "Commit", next, wantWritten(t, s, s.Now+1, x.Writes...))
	return next
}

// wantReadOnly commits one that writes nothing, and fails unless the store is as it was and the hour its start.
func wantReadOnly(t *testing.T, s impl.Store, x impl.Txn) {
	t.Helper()
	same, ts, code := impl.Commit(s, x)
	if ts != x.Start || code != impl.OK {
		t.Errorf("Commit at Now %d of %s = %d, %d", s.Now, brief(x), ts, code)
	}
	wantStore(t, "Commit of nothing", same, s)
	wantOwnMemory(t, "Commit of nothing", same, s, x)
}

// wantRefused fails unless Commit answers the code, hour 0 and the store as it was, in memory of its own.
func wantRefused(t *testing.T, s impl.Store, x impl.Txn, want int) {
	t.Helper()
	same, ts, code := impl.Commit(s, x)
	if ts != 0 || code != want {
		t.Errorf("Commit at Now %d of %s = %d, %d, want code %d", s.Now, brief(x), ts, code, want)
	}
	wantStore(t, "Commit that is refused", same, s)
	wantOwnMemory(t, "Commit that is refused", same, s, x)
}

func TestConflicts(t *testing.T) {
	s := plainStore()
	// The last hour that something of the key is behind.
	last := map[int]int{0: 6, 1: 8, 2: 0, 4: 8, 5: 4, 14: 5, 15: 7}
	for key := range 16 {
		until, there := last[key]
		// Two keys that nobody ever wrote.
		quiet, other := 6+key%2, 12+key%2
		if key == quiet || key == other {
			quiet, other = 8, 9
		}
		for start := range 10 {
			clash := there && start <= until
			for _, p := range []impl.Put{put(key, 1), put((key+1)%16, 1), put(3, 0)} {
				for _, reads := range [][]int{{key}, {key, quiet}, {quiet, key}, {quiet, key, other}} {
					wantConflicts(t, s, txn(start, reads, p), clash)
					wantConflicts(t, s, txn(start, reads, p, p), clash)
				}
				// What it only wrote is no matter.
				wantConflicts(t, s, txn(start, nil, put(key, 1), p), false)
				wantConflicts(t, s, txn(start, []int{quiet, other}, put(key, 1), p), false)
			}
			wantConflicts(t, s, txn(start, []int{key}), false)
			wantConflicts(t, s, txn(start, []int{quiet, key, other}), false)
		}
	}
}

// Written at the start, at the hour behind it, at Now; what is told need not be another thing.
func TestConflictsAtTheEnds(t *testing.T) {
	for key := range 16 {
		for _, hour := range []int{1, 2, 50000, impl.MaxTime} {
			in := storeWith(impl.MaxTime, key, impl.Version{Ts: hour})
			wantConflicts(t, in, txn(hour, []int{key}, put(key, 1)), false)
			wantConflicts(t, in, txn(hour-1, []int{key}, put(key, 1)), true)
			wantConflicts(t, in, txn(hour-1, reversed(allKeys()), put((key+1)%16, 1)), true)
			wantConflicts(t, in, txn(0, []int{key}, put(key, 0)), true)
			wantConflicts(t, in, txn(0, []int{(key + 1) % 16}, put(key, 0)), false)
			wantConflicts(t, in, txn(0, nil, put(key, 0)), false)
			wantConflicts(t, in, txn(0, []int{key}), false)
			wantConflicts(t, in, txn(hour-1, allKeys()), false)
		}
	}
}

// Who writes nothing is never refused, whatever was written since, and though no hour is left.
func TestCommitOfNothing(t *testing.T) {
	for _, s := range append(storesForTxns(), storeAt(impl.MaxTime, map[int][]impl.Version{3: fullChain(impl.MaxTime)})) {
		for _, start := range []int{0, s.Now / 2, max(s.Now-1, 0), s.Now} {
			for _, reads := range rightReads() {
				x := txn(start, reads)
				wantConflicts(t, s, x, false)
				wantReadOnly(t, s, x)
			}
			wantReadOnly(t, s, impl.Txn{Start: start, Reads: []int{}, Writes: []impl.Put{}})
		}
	}
	s := impl.NewStore()
	x := wantTxnRead(t, s, wantBegun(t, s), 4, 0, 4)
	for hour := 1; hour < 20; hour++ {
		s = wantWritten(t, s, hour, put(4, hour), put(5, 1))
		x = wantTxnRead(t, s, x, 4, 0, 4)
		wantReadOnly(t, s, x)
	}
	wantTxnRead(t, s, x, 5, 0, 4, 5)
}

func TestCommit(t *testing.T) {
	for _, s := range []impl.Store{impl.NewStore(), plainStore(), storeAt(impl.MaxTime-1, plainMap())} {
		for _, writes := range rightWrites() {
			for _, x := range []impl.Txn{txn(s.Now, nil, writes...), txn(0, nil, writes...), txn(s.Now, allKeys(), writes...), txn(0, []int{3, 7}, writes...)} {
				if len(writes) == 0 {
					wantReadOnly(t, s, x)
					continue
				}
				next := wantCommitted(t, s, x)
				for key := range 16 {
					wantHistory(t, s, next, key, writes)
				}
			}
		}
	}
}

// wantHistory fails unless the key tells the last Put of it at the new hour, and at elder ones what it told.
func wantHistory(t *testing.T, s, next impl.Store, key int, writes []impl.Put) {
	t.Helper()
	for _, ts := range []int{0, 1, 3, 5, 8, s.Now - 1, s.Now} {
		if 0 <= ts && ts <= s.Now {
			want, _ := impl.ReadAt(s, key, ts)
			wantValue(t, next, key, ts, want)
		}
	}
	want, _ := impl.ReadAt(s, key, s.Now)
	for _, p := range writes {
		if p.Key == key {
			want = p.Value
		}
	}
	wantValue(t, next, key, s.Now+1, want)
}

func TestCommitOfAKeyThatIsWrittenTwice(t *testing.T) {
	s := plainStore()
	x := wantBegun(t, s)
	for _, p := range []impl.Put{put(4, 1), put(5, 7), put(4, 2), put(5, 0), put(4, -3), put(8, 1), put(8, 1)} {
		x = wantTxnWritten(t, s, x, p)
	}
	next := wantCommitted(t, s, x)
	for key, want := range map[int]int{4: -3, 5: 0, 8: 1} {
		n := len(next.Chains[key])
		if n != len(s.Chains[key])+1 || next.Chains[key][n-1] != (impl.Version{Ts: 10, Value: want}) {
			t.Errorf("Commit, key %d = %v", key, next.Chains[key])
		}
	}
	wantValue(t, next, 4, 9, 90)
	wantValue(t, next, 4, 10, -3)
}

// Of two that read and write one thing at once the second one is refused; begun anew it is not.
func TestSecondOfTwo(t *testing.T) {
	for key := range 16 {
		s := plainStore()
		was, _ := impl.ReadAt(s, key, 9)
		a, b := wantBegun(t, s), wantBegun(t, s)
		a, b = wantTxnRead(t, s, a, key, was, key), wantTxnRead(t, s, b, key, was, key)
		a, b = wantTxnWritten(t, s, a, put(key, 3)), wantTxnWritten(t, s, b, put(key, 4))
		for _, pair := range [][2]impl.Txn{{a, b}, {b, a}} {
			first, second := pair[0], pair[1]
			wantConflicts(t, s, first, false)
			wantConflicts(t, s, second, false)
			next := wantCommitted(t, s, first)
			wantConflicts(t, next, second, true)
			wantRefused(t, next, second, impl.ErrConflict)
			// Nor may the first one come again.
			wantRefused(t, next, first, impl.ErrConflict)
			again := wantTxnRead(t, next, wantBegun(t, next), key, first.Writes[0].Value, key)
			wantCommitted(t, next, wantTxnWritten(t, next, again, second.Writes[0]))
		}
	}
}

// Each reads what the other writes, and neither writes what it read.
func TestTwoThatCross(t *testing.T) {
	s := plainStore()
	a := wantTxnWritten(t, s, wantTxnRead(t, s, wantBegun(t, s), 0, 70, 0), put(2, 1))
	b := wantTxnWritten(t, s, wantTxnRead(t, s, wantBegun(t, s), 2, 10, 2), put(0, 1))
	wantRefused(t, wantCommitted(t, s, a), b, impl.ErrConflict)
	wantRefused(t, wantCommitted(t, s, b), a, impl.ErrConflict)
	// Who reads what the other one writes may go first, not second.
	c := wantTxnWritten(t, s, wantBegun(t, s), put(0, 5))
	wantRefused(t, wantCommitted(t, s, c), a, impl.ErrConflict)
	wantCommitted(t, wantCommitted(t, s, a), c)
	// Two that write one key and read it not are both let be; the second one's is told.
	d := wantTxnRead(t, s, wantTxnWritten(t, s, wantBegun(t, s), put(0, 6)), 0, 6)
	last := wantCommitted(t, wantCommitted(t, s, c), d)
	for ts, want := range map[int]int{9: 70, 10: 5, 11: 6} {
		wantValue(t, last, 0, ts, want)
	}
}

func TestCommitOfAFullStore(t *testing.T) {
	for _, s := range []impl.Store{storeAt(impl.MaxTime, nil), storeAt(impl.MaxTime, plainMap()), storeAt(impl.MaxTime, map[int][]impl.Version{0: fullChain(impl.MaxTime)})} {
		for _, writes := range rightWrites() {
			if len(writes) == 0 {
				wantReadOnly(t, s, txn(0, allKeys()))
				continue
			}
			wantRefused(t, s, txn(impl.MaxTime, nil, writes...), impl.ErrFull)
			wantRefused(t, s, txn(impl.MaxTime, allKeys(), writes...), impl.ErrFull)
			wantRefused(t, s, txn(0, nil, writes...), impl.ErrFull)
		}
	}
	// The hour ahead is the last one that can be written behind.
	s := storeAt(impl.MaxTime-1, plainMap())
	x := txn(impl.MaxTime-1, []int{4}, put(4, 1))
	full := wantCommitted(t, s, x)
	wantValue(t, full, 4, impl.MaxTime, 1)
	// A conflict is told ahead of the full store.
	wantRefused(t, full, x, impl.ErrConflict)
	wantRefused(t, full, txn(impl.MaxTime-1, []int{5}, put(4, 1)), impl.ErrFull)
	wantReadOnly(t, full, txn(impl.MaxTime-1, []int{4}))
}

// opsOf are reads and writes of the keys 4 and 5, all lists of at most so many.
func opsOf(size int) (lists [][]int) {
	lists = [][]int{nil}
	for from := 0; size > 0; size-- {
		end := len(lists)
		for _, list := range lists[from:end] {
			for op := range 4 {
				lists = append(lists, append(slices.Clone(list), op))
			}
		}
		from = end
	}
	return lists
}

// Two at once, whatever they do: the second one is refused if it writes and read, ahead of writing it, what the first one wrote.
func TestAllPairs(t *testing.T) {
	start := wantWritten(t, impl.NewStore(), 1, put(4, 40), put(5, 5))
	lists := opsOf(3)
	var txns []impl.Txn
	for i, ops := range lists {
		txns = append(txns, doOps(t, start, ops, i%7))
	}
	refused := 0
	for i, x := range txns {
		next, _, code := impl.Commit(start, x)
		if code != impl.OK {
			t.Fatal("Commit of", lists[i], code)
		}
		for j, y := range txns {
			clash := clashTold(lists[i], lists[j])
			wantConflicts(t, next, y, clash)
			_, ts, code := impl.Commit(next, y)
			switch {
			case clash && (code != impl.ErrConflict || ts != 0):
				t.Errorf("Commit of %v behind %v = %d, %d", lists[j], lists[i], ts, code)
			case !clash && code != impl.OK:
				t.Errorf("Commit of %v behind %v = %d, %d", lists[j], lists[i], ts, code)
			case clash:
				refused++
			}
		}
	}
	if refused < 1000 {
		t.Error("what is asked is of no use", refused)
	}
}

// doOps does an even one as a read of key 4 + op / 2, an odd one as a write of it.
func doOps(t *testing.T, s impl.Store, ops []int, value int) impl.Txn {
	t.Helper()
	x := wantBegun(t, s)
	for _, op := range ops {
		code := impl.OK
		if op%2 == 0 {
			x, _, code = impl.ReadTxn(s, x, 4+op/2)
		} else {
			x, code = impl.WriteTxn(s, x, put(4+op/2, value))
		}
		if code != impl.OK {
			t.Fatal("a transaction of", ops, "has code", code)
		}
	}
	return x
}

func clashTold(first, second []int) bool {
	writes, clash := false, false
	for i, op := range second {
		writes = writes || op%2 == 1
		ahead := slices.Contains(second[:i], op+1)
		clash = clash || op%2 == 0 && !ahead && slices.Contains(first, op+1)
	}
	return writes && clash
}
