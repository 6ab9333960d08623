package tests

import (
	"fmt"
	"math/rand"
	"slices"
	"testing"

	"loop.example/g00540/impl"
)

// A worker is a job beside chapters 10 and 11 told again: the store when it began, and all that the
// job will have read, written and answered if it comes to its end.
type worker struct {
	job    impl.Job
	was    impl.Store
	keys   []int
	log    []int
	puts   []impl.Put
	answer string
}

// begins makes a worker of a job that has just begun.
func (l *ledger) begins(s impl.Store, j impl.Job) *worker {
	there := l.values[l.now()]
	x, data := toldRunOf(j.Doc, j.Vars, func(key, _ int) int { return there[key] })
	w := &worker{job: j, was: s, keys: x.reads, puts: x.writes, answer: `{"data":` + data + `}`}
	for _, key := range x.reads {
		w.log = append(w.log, there[key])
	}
	if len(x.errors) > 0 {
		w.puts = nil
		if isMutation(j.Doc) {
			data = "null"
		}
		w.answer = `{"data":` + data + `,` + errorsText(x.errors...) + `}`
	}
	return w
}

func isMutation(d impl.Doc) bool {
	return slices.ContainsFunc(d.Defs, func(f impl.Def) bool { return f.Kind == impl.DeMutation })
}

func (w *worker) ended() bool { return len(w.job.Log) == len(w.log) }

// step fails unless the job needs what it is told to need, and reads what was there when it began.
func (w *worker) step(t *testing.T, s impl.Store) {
	t.Helper()
	came := len(w.job.Log)
	if w.ended() {
		wantNeed(t, s, w.job, -1)
		wantStep(t, s, w.job, true, w.log...)
		return
	}
	wantNeed(t, s, w.job, w.keys[came])
	wantUnfinished(t, s, w.job)
	w.job = wantStep(t, s, w.job, came+1 == len(w.log), w.log[:came+1]...)
}

// wantAtOnce fails unless the job, at its end, is as if it had been run at once when it began.
func (w *worker) wantAtOnce(t *testing.T, s impl.Store) {
	t.Helper()
	r, log, code := impl.Atomic(s, w.job.Start, w.job.Doc, w.job.Vars)
	text, _ := impl.AnswerOf(w.job.Doc, r)
	writes, _ := impl.WritesOf(w.job.Doc, r)
	if code != impl.OK || !slices.Equal(w.job.Log, log) || !slices.Equal(w.keys, r.Reads) || text != w.answer || !slices.Equal(w.puts, writes) {
		t.Errorf("a job of %d steps, answered by %.300q, run at once = %s, %d", len(w.log), w.answer, runTold(r), code)
	}
	wantStepsOf(t, w.was, w.job.Doc, w.job.Vars, len(w.log))
}

// A shop is workers over one store, and the store's ledger beside it.
type shop struct {
	t      *testing.T
	random *rand.Rand
	s      impl.Store
	l      *ledger
	open   []*worker
	came   map[string]int
}

func (p *shop) act() {
	p.t.Helper()
	if len(p.open) == 0 || len(p.open) < 5 && p.random.Intn(8) == 0 {
		p.open = append(p.open, p.l.begins(p.s, wantNewJob(p.t, p.s, p.doc(), runVars())))
		return
	}
	w := pick(p.random, p.open...)
	switch p.random.Intn(16) {
	case 0:
		p.write(randomPuts(p.random))
	case 1:
		p.forget()
	case 2:
		p.restart(w)
	case 3:
		for !w.ended() {
			w.step(p.t, p.s)
		}
	default:
		w.step(p.t, p.s)
	}
	if w.ended() && p.random.Intn(3) == 0 {
		p.end(w)
	}
}

// doc is as often a mutation of few nodes, which others write as well.
func (p *shop) doc() impl.Doc {
	p.t.Helper()
	if p.random.Intn(2) == 0 {
		return runnable(p.t, p.random)
	}
	text := "mutation {"
	for i := range 1 + p.random.Intn(3) {
		id := p.random.Intn(3)
		text += fmt.Sprintf(" m%d: %s { value n: next { plus(by: %d) } }", i, pick(p.random, fmt.Sprintf("add(id: %d by: 2)", id), fmt.Sprintf("link(id: %d to: 1)", id), fmt.Sprintf("set(id: %d value: $x)", id)), id)
	}
	return wantDocRead(p.t, text+" }")
}

func (p *shop) write(list []impl.Put) {
	p.t.Helper()
	p.l.write(list)
	p.s = wantWritten(p.t, p.s, p.l.now(), list...)
}

// forget lets go what none of those that are open can read.
func (p *shop) forget() {
	var starts []int
	for _, w := range p.open {
		starts = append(starts, w.job.Start)
	}
	p.s = forgotten(p.t, p.s, starts...)
}

func (p *shop) restart(w *worker) {
	p.t.Helper()
	*w = *p.l.begins(p.s, wantRestarted(p.t, p.s, w.job))
}

// end finishes one that needs nothing. Who is refused begins anew.
func (p *shop) end(w *worker) {
	p.t.Helper()
	w.wantAtOnce(p.t, p.s)
	since := p.l.keysSince(w.job.Start)
	switch {
	case len(w.puts) == 0:
		p.came["read"]++
		if len(since) > 0 {
			p.came["read late"]++
		}
		wantFinished(p.t, p.s, w.job, w.job.Start, w.answer)
		wantAlone(p.t, w.was, w.job, w.was, w.answer)
	case slices.ContainsFunc(w.keys, func(key int) bool { return slices.Contains(since, key) }):
		p.came["refused"]++
		wantNotFinished(p.t, p.s, w.job, impl.ErrConflict)
		p.restart(w)
		return
	default:
		p.came["wrote"]++
		if len(since) > 0 && len(w.keys) > 0 {
			p.came["wrote late"]++
		}
		next := wantFinished(p.t, p.s, w.job, p.s.Now+1, w.answer, w.puts...)
		wantAlone(p.t, p.s, w.job, next, w.answer)
		p.l.write(w.puts)
		p.s = next
	}
	p.open = slices.DeleteFunc(p.open, func(x *worker) bool { return x == w })
	for key, want := range p.l.values[p.l.now()] {
		wantValue(p.t, p.s, key, p.l.now(), want)
	}
}

// wantAlone fails unless the job's document, run alone on the store, leaves and answers the same.
func wantAlone(t *testing.T, s impl.Store, j impl.Job, want impl.Store, answer string) {
	t.Helper()
	next, text, code := impl.Replay(s, j.Doc, j.Vars)
	if text != answer || code != impl.OK {
		t.Errorf("a job that was committed with %.300q, run alone = %.300q, %d", answer, text, code)
	}
	wantStore(t, "a job run alone", next, want)
}

// Promise 11, of jobs as they come, several at once, others writing between their steps, with
// versions forgotten: at its end each one is as if it had been run at once when it began, and, if it
// is not refused, as if it had been run alone when it was committed.
func TestRandomJobs(t *testing.T) {
	p := &shop{t: t, random: rand.New(rand.NewSource(11)), came: map[string]int{}}
	for range 40 {
		p.s, p.l, p.open = impl.NewStore(), newLedger(), nil
		p.write(manyPuts(16))
		for range 150 {
			p.act()
		}
		for len(p.open) > 0 {
			w := p.open[0]
			for !w.ended() {
				w.step(p.t, p.s)
			}
			p.end(w)
		}
	}
	for _, word := range []string{"read", "read late", "refused", "wrote", "wrote late"} {
		if p.came[word] < 20 {
			t.Errorf("jobs that %s came %d times only", word, p.came[word])
		}
	}
}

// spoiled is the log with one thing changed, left out, put in, or put behind it.
func spoiled(random *rand.Rand, log []int) []int {
	log = slices.Clone(log)
	at := random.Intn(len(log) + 1)
	n := pick(random, 0, 1, random.Intn(9), random.Intn(100), impl.MaxInt, hugeInt)
	switch random.Intn(4) {
	case 0:
		return slices.Insert(log, at, n)
	case 1:
		return append(log, n)
	}
	if at == len(log) {
		return log
	}
	if random.Intn(2) == 0 {
		return slices.Delete(log, at, at+1)
	}
	log[at] = n
	return log
}

// Jobs at any hour by what is read then, or nearly so: what they are held to be.
func TestRandomLogsOfJobs(t *testing.T) {
	random := rand.New(rand.NewSource(111))
	came := map[bool]int{}
	for range 300 {
		s, l := impl.NewStore(), newLedger()
		for range 1 + random.Intn(6) {
			list := randomPuts(random)
			l.write(list)
			s = wantWritten(t, s, l.now(), list...)
		}
		start := random.Intn(l.now() + 1)
		d := runnable(t, random)
		x, _ := toldRunOf(d, runVars(), func(key, _ int) int { return l.values[start][key] })
		var whole []int
		for _, key := range x.reads {
			whole = append(whole, l.values[start][key])
		}
		for range 8 {
			log := whole[:random.Intn(len(whole)+1)]
			if random.Intn(4) > 0 {
				log = spoiled(random, log)
			}
			right := len(log) <= len(whole) && slices.Equal(log, whole[:len(log)])
			came[right]++
			j := impl.Job{Doc: d, Vars: runVars(), Start: start, Log: log}
			switch {
			case !right:
				wantBadJob(t, "a spoiled log", s, j)
			case len(log) == len(whole):
				wantNeed(t, s, j, -1)
			default:
				wantNeed(t, s, j, x.reads[len(log)])
			}
		}
	}
	if came[true] < 100 || came[false] < 100 {
		t.Error("what is random is of no use", came)
	}
}
