package tests

import (
	"math/rand"
	"slices"
	"testing"

	"loop.example/g00540/impl"
)

// randomHistory is right; its hours are few, so that many are alike.
func randomHistory(random *rand.Rand) []impl.Done {
	list := make([]impl.Done, pick(random, random.Intn(8), random.Intn(8), random.Intn(61)))
	hours := pick(random, 1, 2, 4, 100, impl.MaxTime)
	codes := pick(random, 2, 3, 10)
	for i := range list {
		list[i] = impl.Done{Id: random.Intn(9), Ts: random.Intn(hours + 1), Wrote: random.Intn(3) == 0}
		if random.Intn(codes) == 0 {
			list[i].Code = 1 + random.Intn(19)
		}
		// Of a list whose hours rise, and of any Since, it is seldom that all are kept ahead.
		if random.Intn(3) == 0 {
			list[i].Since = random.Intn(i + 1)
		}
	}
	if random.Intn(2) == 0 {
		slices.SortFunc(list, func(a, b impl.Done) int { return a.Ts - b.Ts })
		for i := range list {
			list[i].Since = random.Intn(i + 1)
		}
	}
	return list
}

// spoilHistory changes one thing.
func spoilHistory(random *rand.Rand, list []impl.Done) {
	at := random.Intn(len(list))
	n := pick(random, -1, 0, 1, 19, 20, at, at+1, impl.MaxTime, impl.MaxTime+1, random.Intn(100), tinyInt, hugeInt)
	switch d := &list[at]; random.Intn(4) {
	case 0:
		d.Code = n
	case 1:
		d.Ts = n
	case 2:
		d.Since = n
	case 3:
		d.Id, d.Wrote = n, !d.Wrote
	}
}

func historyToldRight(list []impl.Done) bool {
	for i, d := range list {
		if d.Code < 0 || d.Code >= len(words) || d.Ts < 0 || d.Ts > 100000 || d.Since < 0 || d.Since > i {
			return false
		}
	}
	return len(list) <= 60
}

func TestRandomHistoriesOfDone(t *testing.T) {
	random := rand.New(rand.NewSource(14))
	came, kept, moved := map[bool]int{}, map[bool]int{}, 0
	for range 6000 {
		list := randomHistory(random)
		if len(list) > 0 && random.Intn(2) == 0 {
			spoilHistory(random, list)
		}
		right := historyToldRight(list)
		came[right]++
		if !right {
			wantNoHistory(t, brief(list), list, impl.ErrBad)
			continue
		}
		told := holdHistory(t, brief(list), list)
		if len(told.order) > 1 {
			kept[told.kept]++
		}
		if !slices.Equal(told.order, told.committed) {
			moved++
		}
	}
	if came[true] < 500 || came[false] < 500 || kept[true] < 500 || kept[false] < 500 || moved < 500 {
		t.Error("what is random is of no use", came, kept, moved)
	}
}

// serialTold is SerialHolds told again: the requests are run one by one by a ledger alone.
func serialTold(t *testing.T, v impl.Server) bool {
	t.Helper()
	l, same := newLedger(), true
	for _, at := range tellHistory(v.Done).order {
		d := v.Done[at]
		w := l.begins(impl.Store{}, impl.Job{Doc: d.Request.Doc, Vars: d.Request.Vars})
		same = same && w.answer == d.Text
		l.write(w.puts)
	}
	for key, want := range l.values[l.now()] {
		n, code := impl.ReadAt(v.Store, key, v.Store.Now)
		if code != impl.OK {
			t.Fatal("ReadAt", code)
		}
		same = same && n == want
	}
	return same
}

// spoilSerial changes one thing that serial order may hang on, or some that it does not.
func spoilSerial(random *rand.Rand, v *impl.Server) {
	a, b := &v.Done[random.Intn(len(v.Done))], &v.Done[random.Intn(len(v.Done))]
	switch random.Intn(7) {
	case 0:
		a.Ts = max(0, min(v.Store.Now, a.Ts+random.Intn(3)-1))
	case 1:
		a.Ts, b.Ts = b.Ts, a.Ts
	case 2:
		a.Wrote = !a.Wrote
	case 3:
		a.Text, b.Text = b.Text, a.Text
	case 4:
		a.Request, b.Request = b.Request, a.Request
	case 5:
		list := v.Store.Chains[random.Intn(16)]
		if len(list) > 0 {
			list[random.Intn(len(list))].Value++
		}
	case 6:
		v.Store.Now += random.Intn(3)
		at := &v.Store.Chains[random.Intn(16)]
		if len(*at) > 0 {
			*at = (*at)[random.Intn(len(*at)):]
		}
	}
}

// Servers as they come, and spoiled, held against the chapter told again.
func TestRandomSerialOrder(t *testing.T) {
	random := rand.New(rand.NewSource(141))
	came := map[string]int{}
	for range 60 {
		v := impl.NewServer()
		for _, m := range randomMoves(t, random, 4, func(impl.Server, move) {}) {
			v = moved(t, v, m)
			if len(v.Done) == 0 || random.Intn(4) > 0 {
				continue
			}
			x := tidyServer(v)
			for range random.Intn(6) {
				spoil := pick(random, spoilSerial, spoilSerial, spoilSerial, spoilServer)
				spoil(random, &x)
				if !serverToldRight(x) {
					break
				}
			}
			switch right := serverToldRight(x); {
			case !right:
				came["bad"]++
				wantNoSerial(t, serverTold(x), x)
			default:
				want := serialTold(t, x)
				if want {
					came["holds"]++
				} else {
					came["does not hold"]++
				}
				wantSerial(t, "a random server", x, want)
			}
		}
	}
	for _, what := range []string{"bad", "holds", "does not hold"} {
		if came[what] < 100 {
			t.Error("what is random is of no use", came)
		}
	}
}

// Requests as they come, one by one: a ledger answers as they do, and is left as the store.
func TestRandomReplayAll(t *testing.T) {
	random := rand.New(rand.NewSource(142))
	for range 60 {
		var list []impl.Request
		var texts []string
		l := newLedger()
		for range random.Intn(61) {
			q, code := impl.ReadRequest(randomAsk(t, random))
			if runs, _ := impl.RequestCode(q); code != impl.OK || runs != impl.OK {
				q = request(runnable(t, random), runVars()...)
			}
			w := l.begins(impl.Store{}, impl.Job{Doc: q.Doc, Vars: q.Vars})
			l.write(w.puts)
			list, texts = append(list, q), append(texts, w.answer)
		}
		want, _ := l.rest(0)
		wantReplayAll(t, "random requests", list, want, texts...)
	}
}
