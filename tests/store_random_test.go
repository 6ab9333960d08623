package tests

import (
	"math/rand"
	"slices"
	"testing"

	"loop.example/g00540/impl"
)

// A ledger is chapter 7 told again: of each hour what all keys tell, and which ones were written then.
type ledger struct {
	values  [][16]int
	written [][16]bool
}

func newLedger() *ledger { return &ledger{make([][16]int, 1), make([][16]bool, 1)} }

func (l *ledger) now() int { return len(l.values) - 1 }

func (l *ledger) write(list []impl.Put) {
	if len(list) == 0 {
		return
	}
	values, written := l.values[l.now()], [16]bool{}
	for _, p := range list {
		values[p.Key], written[p.Key] = p.Value, true
	}
	l.values, l.written = append(l.values, values), append(l.written, written)
}

// rest is the store that tells the ledger's hours from low on, with one version up to low at most.
func (l *ledger) rest(low int) (s impl.Store, gone int) {
	s = storeAt(l.now(), nil)
	for key := range 16 {
		for ts := l.now(); ts > 0; ts-- {
			if !l.written[ts][key] {
				continue
			}
			if n := len(s.Chains[key]); n > 0 && s.Chains[key][n-1].Ts <= low {
				gone++
				continue
			}
			s.Chains[key] = append(s.Chains[key], impl.Version{Ts: ts, Value: l.values[ts][key]})
		}
		slices.Reverse(s.Chains[key])
	}
	return s, gone
}

func (l *ledger) keysSince(ts int) (keys []int) {
	for key := range 16 {
		for _, at := range l.written[ts+1:] {
			if at[key] {
				keys = append(keys, key)
				break
			}
		}
	}
	return keys
}

func randomPut(random *rand.Rand) impl.Put {
	key := random.Intn(16)
	if random.Intn(2) == 0 {
		key = random.Intn(3)
	}
	if key%2 == 1 {
		return put(key, random.Intn(9))
	}
	return put(key, pick(random, 0, 1, -1, leastInt, impl.MaxInt, random.Intn(100)))
}

func randomPuts(random *rand.Rand) (list []impl.Put) {
	for range pick(random, 0, 1, 1, 1, 2, 3, 5, 40) {
		list = append(list, randomPut(random))
	}
	return list
}

// holdStore holds a store, which may have forgotten what is ahead of low, against the ledger.
func holdStore(t *testing.T, s impl.Store, l *ledger, low int) {
	t.Helper()
	for ts := low; ts <= l.now(); ts++ {
		for key, want := range l.values[ts] {
			wantValue(t, s, key, ts, want)
		}
		want := l.keysSince(ts)
		wantKeys(t, s, ts, want...)
		for key := range 16 {
			wantChanged(t, s, key, ts, slices.Contains(want, key))
		}
	}
	want, _ := l.rest(low)
	wantSameAt(t, s, want, true)
}

// Promise 7, of histories as they come: what is written, what elder hours tell, what is forgotten.
func TestRandomHistories(t *testing.T) {
	random := rand.New(rand.NewSource(7))
	went := 0
	for range 80 {
		l := newLedger()
		s, low := impl.NewStore(), 0
		for range 1 + random.Intn(12) {
			list := randomPuts(random)
			l.write(list)
			s = wantWritten(t, s, l.now(), list...)
			holdStore(t, s, l, low)
			if random.Intn(4) == 0 {
				low += random.Intn(l.now() - low + 1)
				want, _ := l.rest(low)
				before, _ := impl.SizeOf(s)
				kept, _ := impl.SizeOf(want)
				s = wantForgotten(t, s, low, before-kept)
				wantStore(t, "Forget", s, want)
				went += before - kept
			}
		}
		whole, _ := l.rest(0)
		for at := 0; at <= l.now(); at++ {
			want, gone := l.rest(at)
			rest := wantForgotten(t, whole, at, gone)
			wantStore(t, "Forget", rest, want)
			wantFewUpTo(t, rest, at)
			holdStore(t, rest, l, at)
		}
	}
	if went < 100 {
		t.Error("what is random is of no use", went)
	}
}

// What is written after forgetting is as if nothing had been forgotten.
func TestForgettingIsNotSeen(t *testing.T) {
	random := rand.New(rand.NewSource(77))
	for range 60 {
		whole, short, low := impl.NewStore(), impl.NewStore(), 0
		for range 25 {
			list := randomPuts(random)
			next, ts, code := impl.WriteAll(whole, list)
			other, otherTs, otherCode := impl.WriteAll(short, list)
			if ts != otherTs || code != impl.OK || otherCode != impl.OK {
				t.Fatal("WriteAll", ts, otherTs, code, otherCode)
			}
			whole = next
			low += random.Intn(whole.Now - low + 1)
			short, _, code = impl.Forget(other, low)
			if code != impl.OK {
				t.Fatal("Forget", code)
			}
			wantFewUpTo(t, short, low)
		}
		wantSameFrom(t, whole, short, low)
		wantSameAt(t, whole, short, true)
		for ts := low; ts <= whole.Now; ts++ {
			want, _ := impl.KeysSince(whole, ts)
			wantKeys(t, short, ts, want...)
		}
	}
}

// rightStoreTold is the chapter's sentence of right stores, told again.
func rightStoreTold(s impl.Store) bool {
	if len(s.Chains) != 16 || s.Now < 0 || s.Now > 100000 {
		return false
	}
	for key, list := range s.Chains {
		hours := make([]int, len(list))
		for i, v := range list {
			hours[i] = v.Ts
			if v.Value < -2147483648 || v.Value > 2147483647 || key%2 == 1 && (v.Value < 0 || v.Value > 8) {
				return false
			}
		}
		if len(hours) > 0 && (slices.Min(hours) < 1 || slices.Max(hours) > s.Now) || !slices.IsSorted(hours) || len(slices.Compact(hours)) < len(list) {
			return false
		}
	}
	return true
}

// Stores of a few versions with hours and values that are mostly right: what they are held to be, and what the calls tell of the right ones.
func TestRandomStores(t *testing.T) {
	random := rand.New(rand.NewSource(777))
	came := map[int]int{}
	for range 4000 {
		s := storeAt(random.Intn(8), nil)
		if random.Intn(20) == 0 {
			s.Chains = make([][]impl.Version, pick(random, 15, 17))
		}
		for range random.Intn(3) {
			p := randomPut(random)
			key := min(p.Key, len(s.Chains)-1)
			for ts := range 8 {
				if random.Intn(3) == 0 {
					s.Chains[key] = append(s.Chains[key], impl.Version{Ts: pick(random, ts, ts, ts, ts, ts, ts, random.Intn(9)), Value: pick(random, 0, 1, 8, 8, 2, 3, p.Value)})
				}
			}
		}
		right := rightStoreTold(s)
		if impl.StoreOK(s) != right {
			t.Errorf("StoreOK(%v) = %v", s, !right)
		}
		n, code := impl.SizeOf(s)
		came[code]++
		if right != (code == impl.OK) || n > 0 && !right {
			t.Errorf("SizeOf(%v) = %d, %d", s, n, code)
		}
		if right {
			holdByDefinition(t, s)
		}
	}
	wantOften(t, came, impl.OK, impl.ErrBad)
}

// holdByDefinition goes through all versions of a right store, as the sentences of the chapter do.
func holdByDefinition(t *testing.T, s impl.Store) {
	t.Helper()
	for ts := 0; ts <= s.Now; ts++ {
		gone := 0
		for key, list := range s.Chains {
			value, changed := 0, false
			for i, v := range list {
				if v.Ts <= ts {
					value = v.Value
				} else {
					changed = true
				}
				if slices.ContainsFunc(list[i+1:], func(w impl.Version) bool { return w.Ts <= ts }) {
					gone++
				}
			}
			wantValue(t, s, key, ts, value)
			wantChanged(t, s, key, ts, changed)
		}
		wantSameFrom(t, s, wantForgotten(t, s, ts, gone), ts)
	}
}
