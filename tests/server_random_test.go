package tests

import (
	"fmt"
	"math/rand"
	"slices"
	"testing"

	"loop.example/g00540/impl"
)

// A guest is one that is live at a toldServer.
type guest struct {
	id, tries, since int
	*worker
}

// A toldServer is chapter 13 told again: what is read and written stands in a ledger, and each run
// is told to its end when it begins.
type toldServer struct {
	l    *ledger
	low  int
	live []*guest
	done []impl.Done
	next int
}

func newToldServer() *toldServer { return &toldServer{l: newLedger(), next: 1} }

// server is what the told one is as a server.
func (m *toldServer) server() impl.Server {
	s, _ := m.l.rest(m.low)
	v := impl.Server{Store: s, Done: m.done, Next: m.next}
	for _, g := range m.live {
		v.Live = append(v.Live, impl.Live{Id: g.id, Tries: g.tries, Since: g.since, Job: g.job})
	}
	return v
}

func (m *toldServer) begins(q impl.Request) *worker {
	return m.l.begins(impl.Store{}, impl.Job{Doc: q.Doc, Vars: q.Vars, Start: m.l.now()})
}

func (m *toldServer) arrive(text string) (int, int) {
	if len(m.live)+len(m.done) == 60 || m.next == 1000000 {
		return 0, impl.ErrFull
	}
	q, code := requestTold(text)
	if code == impl.OK {
		_, code = impl.Execute(q.Doc, q.Vars, nil)
	}
	if code == impl.OK && len(m.live) == 4 {
		return 0, impl.ErrFull
	}
	id := m.next
	m.next++
	if code != impl.OK {
		m.done = append(m.done, failedOf(id, len(m.done), code))
		return id, impl.OK
	}
	g := &guest{id: id, since: len(m.done), worker: m.begins(q)}
	m.live = append(m.live, g)
	m.settle(g)
	return id, impl.OK
}

func (m *toldServer) guest(id int) *guest {
	for _, g := range m.live {
		if g.id == id {
			return g
		}
	}
	return nil
}

func (m *toldServer) leaves(g *guest, d impl.Done) {
	m.live = slices.DeleteFunc(m.live, func(x *guest) bool { return x == g })
	m.done = append(m.done, d)
}

func (m *toldServer) settle(g *guest) {
	since := m.l.keysSince(g.job.Start)
	d := impl.Done{Id: g.id, Since: g.since, Ts: g.job.Start, Wrote: len(g.puts) > 0, Request: request(g.job.Doc, g.job.Vars...), Text: g.answer}
	switch {
	case !g.ended():
	case !d.Wrote:
		m.leaves(g, d)
	case !slices.ContainsFunc(g.keys, func(key int) bool { return slices.Contains(since, key) }):
		m.l.write(g.puts)
		d.Ts = m.l.now()
		m.leaves(g, d)
	case g.tries == 2:
		m.leaves(g, failedOf(g.id, g.since, impl.ErrSpent))
	default:
		g.tries++
		g.worker = m.begins(d.Request)
		m.settle(g)
	}
}

func (m *toldServer) step(id int) int {
	g := m.guest(id)
	if g == nil {
		return impl.ErrNone
	}
	g.job.Log = g.log[:min(len(g.job.Log)+1, len(g.log))]
	m.settle(g)
	return impl.OK
}

func (m *toldServer) cancel(id int) int {
	g := m.guest(id)
	if g == nil {
		return impl.ErrNone
	}
	m.leaves(g, failedOf(g.id, g.since, impl.ErrCancelled))
	return impl.OK
}

// tick answers how many versions go.
func (m *toldServer) tick() int {
	before, _ := m.l.rest(m.low)
	m.low = m.l.now()
	for _, g := range m.live {
		m.low = min(m.low, g.job.Start)
	}
	behind, _ := m.l.rest(m.low)
	return countVersions(before) - countVersions(behind)
}

func countVersions(s impl.Store) (n int) {
	for _, list := range s.Chains {
		n += len(list)
	}
	return n
}

// randomAsk is a text of all sorts; most read and write few nodes, so that they meet.
func randomAsk(t *testing.T, random *rand.Rand) string {
	t.Helper()
	a, b := random.Intn(2), random.Intn(3)
	switch random.Intn(14) {
	case 0:
		return pick(random, "{", "{ nothing }", "x=1 | { node(id: $y) { id } }", "{ a: size a: __typename }", "x=1 x=1 | { size }", "")
	case 1:
		return pick(random, "{ size }", "{ node(id: 9) { id } }", "mutation { set(id: 9 value: 1) { id } }")
	case 2:
		return fmt.Sprintf("mutation { set(id: %d value: %d) { id } link(id: %d to: %d) { id } }", a, random.Intn(100), b, a)
	case 3, 4:
		return fmt.Sprintf("x=%d | mutation { add(id: %d by: $x) { value next { value } } }", random.Intn(9), a)
	case 5:
		return fmt.Sprintf("mutation { a: add(id: %d by: 1) { id } b: add(id: %d by: -1) { id } }", a, b)
	case 6:
		return fmt.Sprintf("mutation { link(id: %d) { value plus(by: 2147483647) need { id } } }", a)
	case 7:
		text, _ := impl.RequestText(request(runnable(t, random), runVars()...))
		return text
	case 8, 9:
		// It reads long, so others write what it read.
		return fmt.Sprintf("mutation { add(id: %d by: 1) { value } a: add(id: 3 by: 1) { id } b: add(id: 4 by: 1) { id } c: add(id: 5 by: 1) { id } d: add(id: 6 by: 1) { value } }", a)
	}
	return fmt.Sprintf("b=true | { a: node(id: %d) { value next { value next { value } } } b: must(id: %d) @include(if: $b) { value need { id } } }", a, b)
}

// A both is a server and the told one beside it.
type both struct {
	t    *testing.T
	v    impl.Server
	m    *toldServer
	came map[string]int
}

func (p *both) same(what string) {
	p.t.Helper()
	if !impl.ServerOK(p.v) {
		p.t.Fatalf("%s: ServerOK = false:\n%s", what, serverTold(p.v))
	}
	wantServer(p.t, what, p.v, p.m.server())
	if p.t.Failed() {
		p.t.FailNow()
	}
}

func (p *both) arrive(text string) {
	p.t.Helper()
	want, wantCode := p.m.arrive(text)
	x, id, code := impl.Arrive(p.v, text)
	if id != want || code != wantCode {
		p.t.Fatalf("Arrive of %q = %d, %d, want %d, %d", text, id, code, want, wantCode)
	}
	p.v = x
	p.came[words[code]]++
	p.same("Arrive")
}

func (p *both) step(id int) {
	p.t.Helper()
	tries := 0
	if g := p.m.guest(id); g != nil {
		tries = g.tries
	}
	want := p.m.step(id)
	x, code := impl.StepOne(p.v, id)
	if code != want {
		p.t.Fatalf("StepOne %d = %d, want %d", id, code, want)
	}
	p.v = x
	if g := p.m.guest(id); g != nil && g.tries > tries {
		p.came["again"]++
	}
	p.same("StepOne")
}

func (p *both) cancel(id int) {
	p.t.Helper()
	want := p.m.cancel(id)
	x, code := impl.CancelOne(p.v, id)
	if code != want {
		p.t.Fatalf("CancelOne %d = %d, want %d", id, code, want)
	}
	p.v = x
	p.same("CancelOne")
}

func (p *both) tick() {
	p.t.Helper()
	want := p.m.tick()
	x, gone, code := impl.Tick(p.v)
	if gone != want || code != impl.OK {
		p.t.Fatalf("Tick = %d, %d, want %d", gone, code, want)
	}
	p.v = x
	p.came["forgotten"] += gone
	p.same("Tick")
}

// asks holds what is asked of the server against the told one.
func (p *both) asks() {
	p.t.Helper()
	var ids []int
	low := p.m.l.now()
	for _, g := range p.m.live {
		ids = append(ids, g.id)
		low = min(low, g.job.Start)
	}
	wantIds(p.t, p.v, ids...)
	if got, code := impl.Watermark(p.v); got != low || code != impl.OK {
		p.t.Errorf("Watermark = %d, %d, want %d", got, code, low)
	}
	for _, d := range p.m.done {
		wantAnswerTo(p.t, p.v, d.Id, d.Text)
		p.came["done "+words[d.Code]]++
	}
	wantNoAnswer(p.t, p.v, append(ids, 0, p.m.next)...)
}

// Servers as they come, held against the chapter told again, till all are done.
func TestRandomServers(t *testing.T) {
	random := rand.New(rand.NewSource(13))
	p := &both{t: t, came: map[string]int{}}
	for range 30 {
		p.v, p.m = impl.NewServer(), newToldServer()
		p.same("NewServer")
		for range 160 {
			ids := []int{0, 1, p.m.next - 1, p.m.next}
			for _, g := range p.m.live {
				ids = append(ids, g.id, g.id, g.id, g.id, g.id)
			}
			switch n := random.Intn(32); {
			case n < 6 || len(p.m.live) == 0:
				p.arrive(randomAsk(t, random))
			case n == 6:
				p.cancel(pick(random, ids...))
			case n == 7:
				p.tick()
			default:
				p.step(pick(random, ids...))
			}
			if random.Intn(80) == 0 {
				p.asks()
			}
		}
		for len(p.m.live) > 0 {
			p.step(pick(random, p.m.live...).id)
		}
		p.tick()
		p.asks()
	}
	for _, word := range []string{"ok", "full", "again", "forgotten", "done ok", "done form", "done field", "done cancelled", "done spent"} {
		if p.came[word] < 5 {
			t.Errorf("%q came %d times only: %v", word, p.came[word], p.came)
		}
	}
}

// serverToldRight is chapter 13's sentences of what is right told again.
func serverToldRight(v impl.Server) bool {
	right := impl.StoreOK(v.Store) && len(v.Live) <= 4 && len(v.Live)+len(v.Done) <= 60 && v.Next >= 1 && v.Next <= 1000000
	count := map[int]int{}
	for _, l := range v.Live {
		count[l.Id]++
		key, code := impl.NeedOf(v.Store, l.Job)
		right = right && code == impl.OK && key >= 0 && l.Tries >= 0 && l.Tries <= 2 && l.Since >= 0 && l.Since <= len(v.Done)
	}
	for i, d := range v.Done {
		count[d.Id]++
		right = right && d.Code >= 0 && d.Code < len(words) && d.Ts >= 0 && d.Ts <= v.Store.Now && d.Since >= 0 && d.Since <= i
		if d.Code == impl.OK {
			k, code := impl.RequestCode(d.Request)
			right = right && k == impl.OK && code == impl.OK && len(d.Text) <= 1000000
		} else {
			right = right && d.Ts == 0 && !d.Wrote && isZeroRequest(d.Request) && d.Code > 0 && d.Code < len(words) && d.Text == `{"error":"`+words[d.Code]+`"}`
		}
	}
	for id, n := range count {
		right = right && id >= 1 && id < v.Next && n == 1
	}
	return right
}

// spoilServer changes one thing.
func spoilServer(random *rand.Rand, v *impl.Server) {
	n := pick(random, -1, 0, 1, 2, 3, 4, 5, 60, random.Intn(60), v.Next, v.Store.Now, v.Store.Now+1, len(v.Done), len(v.Done)+1)
	if random.Intn(12) == 0 {
		switch random.Intn(4) {
		case 0:
			v.Next = n
		case 1:
			v.Store.Now = n
		case 2:
			v.Store.Chains = v.Store.Chains[:random.Intn(17)]
		case 3:
			v.Live, v.Done = nil, append(v.Done, v.Done...)
		}
		return
	}
	if len(v.Live) > 0 && random.Intn(2) == 0 {
		l := &v.Live[random.Intn(len(v.Live))]
		switch random.Intn(6) {
		case 0:
			l.Id = n
		case 1:
			l.Tries = n
		case 2:
			l.Since = n
		case 3:
			l.Job.Start = n
		case 4:
			l.Job.Log = spoiled(random, l.Job.Log)
		case 5:
			l.Job.Vars = nil
		}
		return
	}
	if len(v.Done) == 0 {
		return
	}
	d := &v.Done[random.Intn(len(v.Done))]
	switch random.Intn(7) {
	case 0:
		d.Id = n
	case 1:
		d.Code = n
	case 2:
		d.Ts = n
	case 3:
		d.Since = n
	case 4:
		d.Wrote = !d.Wrote
	case 5:
		d.Request = pick(random, v.Done...).Request
	case 6:
		d.Text = pick(random, v.Done...).Text
	}
}

func TestRandomServersThatAreNotRight(t *testing.T) {
	random := rand.New(rand.NewSource(131))
	came := map[bool]int{}
	for range 40 {
		v := impl.NewServer()
		for range 10 + random.Intn(40) {
			v, _, _ = impl.Arrive(v, randomAsk(t, random))
			if len(v.Live) > 0 && random.Intn(4) > 0 {
				v, _ = impl.StepOne(v, pick(random, v.Live...).Id)
			}
		}
		for range 15 {
			x := tidyServer(v)
			spoilServer(random, &x)
			right := serverToldRight(x)
			came[right]++
			switch {
			case right:
				wantRightServer(t, serverTold(x), x)
			default:
				wantBadServer(t, serverTold(x), x)
			}
		}
	}
	if came[true] < 100 || came[false] < 100 {
		t.Error("what is random is of no use", came)
	}
}
