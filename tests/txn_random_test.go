package tests

import (
	"math/rand"
	"slices"
	"testing"

	"loop.example/g00540/impl"
)

// A session is a transaction beside chapter 8 told again: what was there at its start, what it read of it, what it wrote.
type session struct {
	txn    impl.Txn
	start  int
	there  [16]int
	reads  []int
	puts   []impl.Put
	wrote  map[int]int
	values map[int]int
}

func (l *ledger) begin(t *testing.T, s impl.Store) *session {
	t.Helper()
	return &session{txn: wantBegun(t, s), start: l.now(), there: l.values[l.now()], wrote: map[int]int{}, values: map[int]int{}}
}

func (x *session) read(t *testing.T, s impl.Store, key int) {
	t.Helper()
	want, own := x.wrote[key]
	if !own {
		want = x.there[key]
		x.values[key] = want
		if !slices.Contains(x.reads, key) {
			x.reads = append(x.reads, key)
		}
	}
	x.txn = wantTxnRead(t, s, x.txn, key, want, x.reads...)
}

func (x *session) write(t *testing.T, s impl.Store, p impl.Put) {
	t.Helper()
	x.txn = wantTxnWritten(t, s, x.txn, p)
	x.puts = append(x.puts, p)
	x.wrote[p.Key] = p.Value
}

// clashes says whether the ledger has written a key that was read since the start.
func (x *session) clashes(l *ledger) bool {
	since := l.keysSince(x.start)
	return len(x.puts) > 0 && slices.ContainsFunc(x.reads, func(key int) bool { return slices.Contains(since, key) })
}

// A crowd is sessions over one store, and the store's ledger beside it.
type crowd struct {
	t      *testing.T
	random *rand.Rand
	s      impl.Store
	l      *ledger
	open   []*session
	came   map[int]int
}

func (c *crowd) step() {
	c.t.Helper()
	if len(c.open) == 0 || len(c.open) < 5 && c.random.Intn(5) == 0 {
		c.open = append(c.open, c.l.begin(c.t, c.s))
		return
	}
	at := c.random.Intn(len(c.open))
	x := c.open[at]
	switch c.random.Intn(7) {
	case 0, 1, 2:
		x.read(c.t, c.s, randomPut(c.random).Key)
	case 3, 4:
		if p := randomPut(c.random); len(x.reads)%4 != 3 {
			x.write(c.t, c.s, p)
		}
	case 5:
		c.forget()
	default:
		c.open = slices.Delete(c.open, at, at+1)
		c.end(x)
	}
}

// forget lets go what none of those that are open can read.
func (c *crowd) forget() {
	var starts []int
	for _, x := range c.open {
		starts = append(starts, x.start)
	}
	c.s = forgotten(c.t, c.s, starts...)
}

// forgotten is the store without what nobody can read who began at one of the hours, or begins now.
func forgotten(t *testing.T, s impl.Store, starts ...int) impl.Store {
	t.Helper()
	rest, _, code := impl.Forget(s, slices.Min(append(starts, s.Now)))
	if code != impl.OK {
		t.Fatal("Forget", code)
	}
	return rest
}

func (c *crowd) end(x *session) {
	c.t.Helper()
	clash := x.clashes(c.l)
	wantConflicts(c.t, c.s, x.txn, clash)
	if clash {
		c.came[impl.ErrConflict]++
		wantRefused(c.t, c.s, x.txn, impl.ErrConflict)
		return
	}
	c.came[impl.OK]++
	if len(x.puts) == 0 {
		wantReadOnly(c.t, c.s, x.txn)
		return
	}
	c.s = wantCommitted(c.t, c.s, x.txn)
	// It is as if it had been run alone then: what it read was there at the hour ahead.
	for key, value := range x.values {
		if c.l.values[c.l.now()][key] != value {
			c.t.Errorf("%v read %d of key %d, which told %d when it was committed", x.txn, value, key, c.l.values[c.l.now()][key])
		}
	}
	c.l.write(x.puts)
	if c.s.Now != c.l.now() {
		c.t.Fatal("the hours part", c.s.Now, c.l.now())
	}
	for key, want := range c.l.values[c.l.now()] {
		wantValue(c.t, c.s, key, c.s.Now, want)
	}
}

// Promise 8, of transactions as they come, several at once, some of them refused, with versions forgotten between.
func TestRandomTxns(t *testing.T) {
	c := &crowd{t: t, random: rand.New(rand.NewSource(8)), came: map[int]int{}}
	for range 60 {
		c.s, c.l, c.open = impl.NewStore(), newLedger(), nil
		for range 200 {
			c.step()
		}
		for _, x := range c.open {
			c.end(x)
		}
	}
	wantOften(t, c.came, impl.OK, impl.ErrConflict)
}

// rightTxnTold is the chapter's sentence of right transactions, told again.
func rightTxnTold(s impl.Store, x impl.Txn) bool {
	keys := slices.Clone(x.Reads)
	slices.Sort(keys)
	if len(keys) > 0 && (keys[0] < 0 || keys[len(keys)-1] > 15) || len(slices.Compact(keys)) < len(x.Reads) {
		return false
	}
	_, _, code := impl.WriteAll(impl.NewStore(), x.Writes)
	return code == impl.OK && rightStoreTold(s) && x.Start >= 0 && x.Start <= s.Now
}

// Transactions with parts that are mostly right: what they are held to be, and what the calls tell of them.
func TestRandomTxnsAndStores(t *testing.T) {
	random := rand.New(rand.NewSource(88))
	came := map[int]int{}
	for range 4000 {
		s := plainStore()
		s.Now = pick(random, 9, 9, 9, 9, 9, 10, 12, impl.MaxTime, 8)
		x := impl.Txn{Start: random.Intn(11)}
		for range random.Intn(4) {
			x.Reads = append(x.Reads, pick(random, random.Intn(16), random.Intn(16), random.Intn(16), random.Intn(16), random.Intn(18)-1))
		}
		if random.Intn(3) > 0 {
			x.Writes = randomPuts(random)
		}
		if random.Intn(20) == 0 {
			x.Writes = append(x.Writes, pick(random, putsOutOfRange()...))
		}
		right := rightTxnTold(s, x)
		if impl.TxnOK(s, x) != right {
			t.Errorf("TxnOK of %v at Now %d = %v", x, s.Now, !right)
		}
		_, _, code := impl.Commit(s, x)
		if want := commitTold(s, x, right); code != want {
			t.Errorf("Commit of %v at Now %d = %d, want %d", x, s.Now, code, want)
		}
		came[code]++
	}
	wantOften(t, came, impl.OK, impl.ErrBad, impl.ErrConflict, impl.ErrFull)
}

func commitTold(s impl.Store, x impl.Txn, right bool) int {
	clash := false
	for _, key := range x.Reads {
		if right && slices.ContainsFunc(s.Chains[key], func(v impl.Version) bool { return v.Ts > x.Start }) {
			clash = true
		}
	}
	switch {
	case !right:
		return impl.ErrBad
	case len(x.Writes) == 0:
		return impl.OK
	case clash:
		return impl.ErrConflict
	case s.Now == 100000:
		return impl.ErrFull
	}
	return impl.OK
}
