package tests

import (
	"math/rand"
	"reflect"
	"slices"
	"testing"

	"loop.example/g00540/impl"
)

func isZeroTxn(x impl.Txn) bool { return x.Start == 0 && len(x.Reads)+len(x.Writes) == 0 }

func wantNoTxnRead(t *testing.T, s impl.Store, x impl.Txn, key, want int) {
	t.Helper()
	if y, value, code := impl.ReadTxn(s, x, key); !isZeroTxn(y) || value != 0 || code != want {
		t.Errorf("ReadTxn of %s, key %d = %s, %d, %d, want code %d", brief(x), key, brief(y), value, code, want)
	}
}

func wantNoTxnWritten(t *testing.T, s impl.Store, x impl.Txn, p impl.Put, want int) {
	t.Helper()
	if y, code := impl.WriteTxn(s, x, p); !isZeroTxn(y) || code != want {
		t.Errorf("WriteTxn of %s, %v = %s, %d, want code %d", brief(x), p, brief(y), code, want)
	}
}

// wantBadTxn fails unless each call that takes the transaction answers ErrBad alone, ahead of all other codes.
func wantBadTxn(t *testing.T, s impl.Store, x impl.Txn) {
	t.Helper()
	if impl.TxnOK(s, x) {
		t.Errorf("TxnOK of %s = true", brief(x))
	}
	for _, key := range []int{0, 4, 15, 16, -1} {
		wantNoTxnRead(t, s, x, key, impl.ErrBad)
	}
	for _, p := range []impl.Put{put(0, 1), put(15, 8), put(16, 0), put(1, 9)} {
		wantNoTxnWritten(t, s, x, p, impl.ErrBad)
	}
	if clash, code := impl.Conflicts(s, x); clash || code != impl.ErrBad {
		t.Errorf("Conflicts of %s = %v, %d", brief(x), clash, code)
	}
	if next, ts, code := impl.Commit(s, x); len(next.Chains) > 0 || next.Now != 0 || ts != 0 || code != impl.ErrBad {
		t.Errorf("Commit of %s = %s, %d, %d", brief(x), brief(next), ts, code)
	}
}

func TestTxnsThatAreNotRight(t *testing.T) {
	for _, s := range storesForTxns() {
		for _, x := range wrongTxns(s.Now) {
			wantBadTxn(t, s, x)
		}
	}
}

func TestTxnsOfStoresThatAreNotRight(t *testing.T) {
	for _, s := range wrongStores() {
		for _, x := range []impl.Txn{{}, txn(0, []int{4}), txn(0, []int{4, 2}, put(4, 1)), txn(s.Now, nil, put(1, 8)), txn(0, nil, manyPuts(400)...), txn(-1, []int{16})} {
			wantBadTxn(t, s, x)
		}
	}
}

func TestKeysAndPutsOutOfRangeInTxns(t *testing.T) {
	for _, s := range storesForTxns() {
		for _, x := range []impl.Txn{{}, txn(s.Now, nil), txn(0, allKeys()), txn(s.Now, []int{4, 0}, put(4, 1), put(1, 8)), txn(0, nil, manyPuts(400)...)} {
			for _, key := range []int{-1, -2, -16, 16, 17, 32, 1 << 32, tinyInt, hugeInt} {
				wantNoTxnRead(t, s, x, key, impl.ErrRange)
			}
			for _, p := range putsOutOfRange() {
				wantNoTxnWritten(t, s, x, p, impl.ErrRange)
			}
		}
	}
}

// An empty list and nil are the same.
func TestEmptyListsInTxns(t *testing.T) {
	for _, s := range storesForTxns() {
		for _, key := range []int{0, 15} {
			empty := impl.Txn{Start: s.Now, Reads: []int{}, Writes: []impl.Put{}}
			got, want := answersOfTxn(s, empty, key, put(key, 1)), answersOfTxn(s, impl.Txn{Start: s.Now}, key, put(key, 1))
			if !reflect.DeepEqual(tidyAnswers(got), tidyAnswers(want)) {
				t.Errorf("calls of empty lists = %v, want %v", got, want)
			}
		}
	}
}

// answersOfTxn is all that the calls of chapter 8 answer, each with its code behind it.
func answersOfTxn(s impl.Store, x impl.Txn, key int, p impl.Put) []any {
	begun, begunCode := impl.Begin(s)
	read, value, readCode := impl.ReadTxn(s, x, key)
	written, writtenCode := impl.WriteTxn(s, x, p)
	clash, clashCode := impl.Conflicts(s, x)
	next, ts, nextCode := impl.Commit(s, x)
	return []any{begun, begunCode, read, value, readCode, written, writtenCode, clash, clashCode, next, ts, nextCode, impl.TxnOK(s, x)}
}

func tidyTxn(x impl.Txn) impl.Txn {
	return impl.Txn{Start: x.Start, Reads: append([]int(nil), x.Reads...), Writes: append([]impl.Put(nil), x.Writes...)}
}

// roomyTxn is the transaction with room behind its lists.
func roomyTxn(x impl.Txn) impl.Txn {
	return impl.Txn{Start: x.Start, Reads: withRoom(x.Reads, -77), Writes: withRoom(x.Writes, put(-7, 7))}
}

// txnsForCalls are right and not, some of them refused.
func txnsForCalls(now int) []impl.Txn {
	return []impl.Txn{
		{}, txn(now, nil), txn(0, []int{4, 0}), txn(now, []int{4, 0}, put(4, 1)), txn(0, []int{4, 0}, put(4, 1), put(5, 2), put(4, 3)), txn(0, nil, put(0, 9)), txn(now, allKeys(), manyPuts(16)...),
		txn(now, []int{3}, manyPuts(399)...), txn(now, []int{3}, manyPuts(400)...), txn(now, nil, manyPuts(401)...), txn(-1, []int{3}), txn(now+1, nil, put(0, 1)), txn(0, []int{3, 3}), txn(0, []int{16}, put(0, 1)), txn(0, []int{1}, put(1, 9)),
	}
}

func TestArgumentsOfTxnStay(t *testing.T) {
	for _, s := range storesForCalls() {
		s = roomyStore(s)
		ahead := tidyStore(s)
		for _, x := range txnsForCalls(s.Now) {
			room := roomyTxn(x)
			for _, key := range []int{0, 1, 4, 15, 16} {
				for _, p := range []impl.Put{put(0, 5), put(4, 6), put(15, 8), put(1, 9)} {
					answersOfTxn(s, room, key, p)
				}
			}
			if !reflect.DeepEqual(tidyTxn(room), tidyTxn(x)) || behind(room.Reads) != -77 || behind(room.Writes) != put(-7, 7) {
				t.Fatalf("a call changed its transaction %s, or what is behind its lists", brief(x))
			}
		}
		if !reflect.DeepEqual(tidyStore(s), ahead) {
			t.Fatal("a call changed its store")
		}
		wantRoomyAsItWas(t, s)
	}
}

func TestAnswersOfTxnAreNew(t *testing.T) {
	shared := fullChain(5)
	twins := impl.Store{Chains: slices.Repeat([][]impl.Version{shared}, 16), Now: 7}
	for _, s := range append(storesForCalls(), twins, roomyStore(twins), roomyStore(plainStore())) {
		for _, x := range txnsForCalls(s.Now) {
			for _, y := range []impl.Txn{x, roomyTxn(x)} {
				for _, key := range []int{0, 4, 9} {
					answers, again := answersOfTxn(s, y, key, put(key, 3)), answersOfTxn(s, y, key, put(key, 3))
					for i, a := range answers {
						wantOwnMemory(t, "a call of a transaction", a, s, y, shared, again[i])
					}
				}
			}
		}
	}
}

// Two that go on from one transaction do not meet, though its lists have room.
func TestTwoOfOneTxn(t *testing.T) {
	s := plainStore()
	x := roomyTxn(txn(9, []int{3}, put(3, 1)))
	a, b := wantTxnRead(t, s, x, 0, 70, 3, 0), wantTxnRead(t, s, x, 4, 90, 3, 4)
	c, d := wantTxnWritten(t, s, x, put(5, 5)), wantTxnWritten(t, s, x, put(6, 6))
	e, f := wantTxnWritten(t, s, c, put(7, 7)), wantTxnWritten(t, s, c, put(8, 8))
	g, h := wantTxnRead(t, s, a, 2, 10, 3, 0, 2), wantTxnRead(t, s, a, 5, 0, 3, 0, 5)
	wantTxn(t, "the first read", a, txn(9, []int{3, 0}, put(3, 1)))
	wantTxn(t, "the second read", b, txn(9, []int{3, 4}, put(3, 1)))
	wantTxn(t, "the first write", c, txn(9, []int{3}, put(3, 1), put(5, 5)))
	wantTxn(t, "the second write", d, txn(9, []int{3}, put(3, 1), put(6, 6)))
	wantTxn(t, "the third write", e, txn(9, []int{3}, put(3, 1), put(5, 5), put(7, 7)))
	wantTxn(t, "the fourth write", f, txn(9, []int{3}, put(3, 1), put(5, 5), put(8, 8)))
	wantTxn(t, "the third read", g, txn(9, []int{3, 0, 2}, put(3, 1)))
	wantTxn(t, "the fourth read", h, txn(9, []int{3, 0, 5}, put(3, 1)))
	next := wantCommitted(t, s, e)
	e.Writes[0].Value, e.Reads[0] = 8, 9
	wantValue(t, next, 3, 10, 1)
}

func TestAlikeArgumentsHaveAlikeAnswersInTxn(t *testing.T) {
	random := rand.New(rand.NewSource(81))
	stores := storesForCalls()
	ask := func(i int, s impl.Store, change func(impl.Txn) impl.Txn) []any {
		txns := txnsForCalls(s.Now)
		return tidyAnswers(answersOfTxn(s, change(txns[i/3%len(txns)]), i%18-1, put(i%17, i%11-1)))
	}
	var ahead [][]any
	for i := range 900 {
		ahead = append(ahead, ask(i, stores[i%len(stores)], roomyTxn))
	}
	for _, i := range random.Perm(900) {
		s := stores[i%len(stores)]
		if !reflect.DeepEqual(ask(i, s, tidyTxn), ahead[i]) || !reflect.DeepEqual(ask(i, roomyStore(s), roomyTxn), ahead[i]) || !reflect.DeepEqual(ask(i, tidyStore(s), slimTxn), ahead[i]) {
			t.Errorf("answers to %s hang on what was called ahead", brief(s))
		}
	}
}

// slimTxn is the transaction without room behind its lists.
func slimTxn(x impl.Txn) impl.Txn {
	return impl.Txn{Start: x.Start, Reads: slices.Clip(slices.Clone(x.Reads)), Writes: slices.Clip(slices.Clone(x.Writes))}
}
