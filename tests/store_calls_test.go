package tests

import (
	"math/rand"
	"reflect"
	"slices"
	"testing"

	"loop.example/g00540/impl"
)

// answersOfStore is all that the calls of chapter 7 answer, each with its code behind it.
func answersOfStore(s impl.Store, key, ts int, list []impl.Put) []any {
	value, valueCode := impl.ReadAt(s, key, ts)
	changed, changedCode := impl.ChangedSince(s, key, ts)
	keys, keysCode := impl.KeysSince(s, ts)
	rest, gone, restCode := impl.Forget(s, ts)
	next, now, nextCode := impl.WriteAll(s, list)
	size, sizeCode := impl.SizeOf(s)
	same, sameCode := impl.SameAt(s, plainStore())
	other, otherCode := impl.SameAt(plainStore(), s)
	return []any{
		value, valueCode, changed, changedCode, keys, keysCode, rest, gone, restCode, next, now, nextCode,
		size, sizeCode, same, sameCode, other, otherCode, impl.StoreOK(s),
	}
}

// tidyAnswers has nil for empty lists, so that DeepEqual holds answers against each other.
func tidyAnswers(answers []any) (out []any) {
	for _, x := range answers {
		switch y := x.(type) {
		case impl.Store:
			x = tidyStore(y)
		case impl.Txn:
			x = tidyTxn(y)
		case []int:
			x = append([]int(nil), y...)
		}
		out = append(out, x)
	}
	return out
}

func tidyStore(s impl.Store) impl.Store {
	var chains [][]impl.Version
	for _, list := range s.Chains {
		chains = append(chains, append([]impl.Version(nil), list...))
	}
	return impl.Store{Chains: chains, Now: s.Now}
}

func wantNotWritten(t *testing.T, s impl.Store, list []impl.Put, want int) {
	t.Helper()
	if next, ts, code := impl.WriteAll(s, list); len(next.Chains) > 0 || next.Now != 0 || ts != 0 || code != want {
		t.Errorf("WriteAll of %.200v = %.200v, %d, %d, want code %d", list, next, ts, code, want)
	}
}

// wantNotAsked fails unless the calls that take a key and an hour answer the code alone.
func wantNotAsked(t *testing.T, s impl.Store, key, ts, want int) {
	t.Helper()
	if v, code := impl.ReadAt(s, key, ts); v != 0 || code != want {
		t.Errorf("ReadAt(%d, %d) = %d, %d, want code %d", key, ts, v, code, want)
	}
	if v, code := impl.ChangedSince(s, key, ts); v || code != want {
		t.Errorf("ChangedSince(%d, %d) = %v, %d, want code %d", key, ts, v, code, want)
	}
}

// wantNoHour fails unless the calls that take an hour answer the code alone.
func wantNoHour(t *testing.T, s impl.Store, ts, want int) {
	t.Helper()
	for _, key := range []int{0, 3, 15, 16, -1} {
		wantNotAsked(t, s, key, ts, want)
	}
	if list, code := impl.KeysSince(s, ts); len(list) > 0 || code != want {
		t.Errorf("KeysSince(%d) = %v, %d, want code %d", ts, list, code, want)
	}
	if rest, n, code := impl.Forget(s, ts); len(rest.Chains) > 0 || rest.Now != 0 || n != 0 || code != want {
		t.Errorf("Forget(%d) = %.200v, %d, %d, want code %d", ts, rest, n, code, want)
	}
}

func TestKeysAndHoursOutOfRange(t *testing.T) {
	for _, s := range []impl.Store{impl.NewStore(), plainStore(), storeAt(impl.MaxTime, nil)} {
		for _, key := range []int{-1, -2, -16, 16, 17, 32, 1 << 32, tinyInt, hugeInt} {
			for _, ts := range []int{0, s.Now / 2, s.Now, -1, s.Now + 1} {
				wantNotAsked(t, s, key, ts, impl.ErrRange)
			}
		}
		for _, ts := range []int{-1, -2, tinyInt, s.Now + 1, s.Now + 2, 1<<32 + s.Now, hugeInt} {
			wantNoHour(t, s, ts, impl.ErrRange)
		}
		for _, ts := range []int{0, s.Now} {
			for key := range 16 {
				if got := answersOfStore(s, key, ts, nil); got[1] != impl.OK || got[3] != impl.OK || got[5] != impl.OK || got[8] != impl.OK {
					t.Errorf("calls of key %d at %d = %v", key, ts, got)
				}
			}
		}
	}
}

func TestPutsOutOfRange(t *testing.T) {
	for _, s := range []impl.Store{impl.NewStore(), plainStore(), storeAt(impl.MaxTime, nil)} {
		for _, p := range putsOutOfRange() {
			right := put(2, 1)
			for _, list := range [][]impl.Put{{p}, {p, right}, {right, p}, {right, p, right}, append(manyPuts(399), p), {p, put(p.Key, 0)}, {put(0, 0), p, put(0, 0)}} {
				wantNotWritten(t, s, list, impl.ErrRange)
			}
		}
		wantNotWritten(t, s, manyPuts(401), impl.ErrRange)
	}
}

// Too long is told ahead of all else.
func TestPutsThatAreLong(t *testing.T) {
	for _, n := range []int{impl.MaxList + 1, 3 * impl.MaxList} {
		for _, s := range []impl.Store{impl.NewStore(), plainStore(), storeAt(impl.MaxTime, nil), {}, storeAt(-1, nil)} {
			wantNotWritten(t, s, manyPuts(n), impl.ErrLong)
			wantNotWritten(t, s, slices.Repeat([]impl.Put{put(-1, 0)}, n), impl.ErrLong)
		}
	}
	wantNotWritten(t, impl.Store{}, manyPuts(impl.MaxList), impl.ErrBad)
}

func TestStoresThatAreNotRight(t *testing.T) {
	for _, s := range wrongStores() {
		for _, ts := range []int{0, 1, -1, s.Now, hugeInt} {
			wantNoHour(t, s, ts, impl.ErrBad)
		}
		for _, list := range [][]impl.Put{nil, {put(0, 1)}, {put(-1, 0)}, {put(1, 9)}, manyPuts(401)} {
			wantNotWritten(t, s, list, impl.ErrBad)
		}
		if n, code := impl.SizeOf(s); n != 0 || code != impl.ErrBad {
			t.Errorf("SizeOf = %d, %d", n, code)
		}
		for _, pair := range [][2]impl.Store{{s, s}, {s, plainStore()}, {plainStore(), s}, {s, {}}} {
			if same, code := impl.SameAt(pair[0], pair[1]); same || code != impl.ErrBad {
				t.Errorf("SameAt = %v, %d", same, code)
			}
		}
	}
}

// wantFull fails unless WriteAll answers ErrFull, hour 0 and the store as it was, in memory of its own.
func wantFull(t *testing.T, s impl.Store, list []impl.Put) {
	t.Helper()
	got, ts, code := impl.WriteAll(s, list)
	if ts != 0 || code != impl.ErrFull {
		t.Errorf("WriteAll of %.200v at Now %d = %d, %d", list, s.Now, ts, code)
	}
	wantStore(t, "WriteAll of a full store", got, s)
	wantOwnMemory(t, "WriteAll of a full store", got, s)
}

// listsOfPuts are right: of nothing, of one, of more.
func listsOfPuts() [][]impl.Put {
	return [][]impl.Put{nil, {}, make([]impl.Put, 0, 3), {put(0, 0)}, {put(15, 8)}, {put(1, 8), put(0, 5)}, {put(4, 1), put(4, 2)}, manyPuts(400)}
}

func TestStoreThatIsFull(t *testing.T) {
	last := wantWritten(t, storeAt(impl.MaxTime-1, plainMap()), impl.MaxTime, put(1, 2))
	wantValue(t, last, 1, impl.MaxTime, 2)
	wantValue(t, last, 1, impl.MaxTime-1, 8)
	for _, s := range []impl.Store{last, storeAt(impl.MaxTime, nil), storeAt(impl.MaxTime, plainMap()), storeAt(impl.MaxTime, map[int][]impl.Version{0: fullChain(impl.MaxTime)})} {
		for _, list := range listsOfPuts() {
			wantFull(t, s, list)
		}
	}
}

// The hour ahead of MaxTime is the last one that can be written behind; nothing stays there.
func TestStoreThatIsNearlyFull(t *testing.T) {
	for _, s := range []impl.Store{storeAt(impl.MaxTime-1, nil), storeAt(impl.MaxTime-1, plainMap()), storeAt(impl.MaxTime-1, map[int][]impl.Version{0: fullChain(impl.MaxTime - 1)})} {
		for _, list := range listsOfPuts() {
			if len(list) == 0 {
				same := wantWritten(t, s, impl.MaxTime-1, list...)
				wantStore(t, "WriteAll of nothing", same, s)
				continue
			}
			next := wantWritten(t, s, impl.MaxTime, list...)
			wantValue(t, next, list[len(list)-1].Key, impl.MaxTime, list[len(list)-1].Value)
			wantFull(t, next, nil)
		}
	}
}

// A store that is not right and a Put that is out of range are told ahead of the full store.
func TestFaultsAheadOfFull(t *testing.T) {
	s := storeAt(impl.MaxTime, plainMap())
	for _, list := range [][]impl.Put{{put(16, 0)}, {put(-1, 0)}, {put(1, 9)}, {put(0, impl.MaxInt+1)}, {put(0, 1), put(3, -1)}, manyPuts(401)} {
		wantNotWritten(t, s, list, impl.ErrRange)
	}
	wrong := storeWith(impl.MaxTime, 1, impl.Version{Ts: 1, Value: 9})
	for _, list := range [][]impl.Put{nil, {}, {put(0, 1)}, {put(16, 0)}} {
		wantNotWritten(t, wrong, list, impl.ErrBad)
	}
	wantNotWritten(t, s, manyPuts(impl.MaxList+1), impl.ErrLong)
}

// plainMap are plainStore's chains under their keys.
func plainMap() map[int][]impl.Version {
	chains := map[int][]impl.Version{}
	for key, list := range plainStore().Chains {
		chains[key] = list
	}
	return chains
}

// roomyStore is the store with room behind its lists.
func roomyStore(s impl.Store) impl.Store {
	s.Chains = withRoom(s.Chains, chain(77))
	for key := range s.Chains {
		s.Chains[key] = withRoom(s.Chains[key], impl.Version{Ts: -5, Value: 77})
	}
	return s
}

func wantRoomyAsItWas(t *testing.T, s impl.Store) {
	t.Helper()
	if !slices.Equal(behind(s.Chains), chain(77)) {
		t.Fatal("a call wrote behind the chains")
	}
	for _, list := range s.Chains {
		if behind(list) != (impl.Version{Ts: -5, Value: 77}) {
			t.Fatal("a call wrote behind a chain's end")
		}
	}
}

// storesForCalls are right and not.
func storesForCalls() []impl.Store {
	return []impl.Store{
		impl.NewStore(), plainStore(), storeAt(impl.MaxTime, plainMap()), storeAt(impl.MaxTime-1, plainMap()), storeAt(5, map[int][]impl.Version{3: fullChain(5), 8: fullChain(4)}),
		storeAt(8, plainMap()), storeAt(-1, nil), storeWith(3, 1, impl.Version{Ts: 1, Value: 9}), {Chains: make([][]impl.Version, 15)}, {},
	}
}

func listsForCalls() [][]impl.Put {
	return [][]impl.Put{nil, {put(0, 1)}, {put(4, 1), put(4, 2), put(5, 3), put(4, 4)}, manyPuts(16), manyPuts(400), manyPuts(401), {put(0, 1), put(1, 9)}, {put(16, 0)}, manyPuts(impl.MaxList + 1)}
}

func TestArgumentsOfStoreStay(t *testing.T) {
	for _, s := range storesForCalls() {
		s = roomyStore(s)
		ahead := tidyStore(s)
		for _, list := range listsForCalls() {
			room := withRoom(list, put(-7, 7))
			for _, ts := range []int{0, 1, 3, 5, 9, s.Now, -1} {
				for _, key := range []int{0, 4, 15, 16} {
					answersOfStore(s, key, ts, room)
				}
			}
			if !slices.Equal(room, list) || behind(room) != put(-7, 7) {
				t.Fatal("a call changed its list, or what is behind it")
			}
		}
		if !reflect.DeepEqual(tidyStore(s), ahead) {
			t.Fatal("a call changed its store")
		}
		wantRoomyAsItWas(t, s)
	}
}

func TestAnswersOfStoreAreNew(t *testing.T) {
	shared := fullChain(5)
	twins := impl.Store{Chains: slices.Repeat([][]impl.Version{shared}, 16), Now: 7}
	for _, s := range append(storesForCalls(), twins, roomyStore(twins), roomyStore(plainStore())) {
		for _, list := range listsForCalls() {
			next, _, _ := impl.WriteAll(s, list)
			again, _, _ := impl.WriteAll(s, list)
			wantOwnMemory(t, "WriteAll", next, s, list, again, shared)
		}
		for _, low := range []int{0, 1, 3, 5, s.Now} {
			rest, _, _ := impl.Forget(s, low)
			again, _, _ := impl.Forget(s, low)
			wantOwnMemory(t, "Forget", rest, s, again, shared)
			keys, _ := impl.KeysSince(s, low)
			more, _ := impl.KeysSince(s, low)
			wantOwnMemory(t, "KeysSince", keys, s, more)
		}
	}
	// What is done to an answer is seen in no other one.
	next := wantWritten(t, twins, 8, put(0, 7))
	rest := wantForgotten(t, twins, 0, 0)
	for _, s := range []impl.Store{next, rest} {
		s.Chains[0][0].Value, s.Chains[1] = 99, nil
	}
	if shared[0].Value != 0 || next.Chains[2][0].Value != 0 || rest.Chains[2][0].Value != 0 || len(twins.Chains[1]) != 5 {
		t.Error("an answer's lists are its argument's")
	}
}

// Two lists that are written to one store do not meet, though its chains have room.
func TestTwoWritesOfOneStore(t *testing.T) {
	s := roomyStore(plainStore())
	first := wantWritten(t, s, 10, put(0, 1), put(3, 1))
	second := wantWritten(t, s, 10, put(0, 2), put(3, 2))
	for _, key := range []int{0, 3} {
		wantValue(t, first, key, 10, 1)
		wantValue(t, second, key, 10, 2)
	}
	third := wantWritten(t, first, 11, put(0, 3))
	fourth := wantWritten(t, first, 11, put(0, 4))
	wantValue(t, third, 0, 11, 3)
	wantValue(t, fourth, 0, 11, 4)
	wantValue(t, first, 0, 10, 1)
	wantStore(t, "plainStore", s, plainStore())
}

func TestAlikeArgumentsHaveAlikeAnswersInStore(t *testing.T) {
	random := rand.New(rand.NewSource(71))
	stores, lists := storesForCalls(), listsForCalls()
	ask := func(i int, s impl.Store) []any {
		return tidyAnswers(answersOfStore(s, i%18-1, i%11-1, lists[i%len(lists)]))
	}
	var ahead [][]any
	for i := range 600 {
		ahead = append(ahead, ask(i, stores[i%len(stores)]))
	}
	for _, i := range random.Perm(600) {
		s := stores[i%len(stores)]
		if !reflect.DeepEqual(ask(i, s), ahead[i]) || !reflect.DeepEqual(ask(i, roomyStore(s)), ahead[i]) || !reflect.DeepEqual(ask(i, tidyStore(s)), ahead[i]) {
			t.Errorf("answers to %.300v hang on what was called ahead", s)
		}
	}
}
