package tests

import (
	"fmt"
	"slices"
	"testing"

	"loop.example/g00540/impl"
)

// A jobCase is a document that is run at an hour of plainStore with runVars: the keys that it reads,
// what they tell then, what is written and answered.
type jobCase struct {
	text   string
	start  int
	keys   []int
	log    []int
	writes []impl.Put
	answer string
}

// jobCases are queries and mutations, with and without errors, that read nothing, one key, one key twice, many.
func jobCases() []jobCase {
	return []jobCase{
		{text: "{ size }", start: 9, answer: `{"data":{"size":8}}`},
		{text: "{ size }", answer: `{"data":{"size":8}}`},
		{text: "{ must(id: 8) { value } }", start: 3, answer: `{"data":null,"errors":["must"]}`},
		{text: "{ node(id: $x) { value } size @skip(if: $t) }", start: 9, keys: []int{2}, log: []int{10}, answer: `{"data":{"node":{"value":10}}}`},
		{text: "{ node(id: $x) { value } size @skip(if: $t) }", keys: []int{2}, log: []int{0}, answer: `{"data":{"node":{"value":0}}}`},
		{text: "{ node(id: 2) { value plus(by: 1) next { id value } } }", start: 4, keys: []int{4, 4, 5, 0}, log: []int{40, 40, 1, 30}, answer: `{"data":{"node":{"value":40,"plus":41,"next":{"id":0,"value":30}}}}`},
		{text: "{ node(id: 2) { value plus(by: 1) next { id value } } }", start: 5, keys: []int{4, 4, 5}, log: []int{50, 50, 0}, answer: `{"data":{"node":{"value":50,"plus":51,"next":null}}}`},
		{text: "{ node(id: 0) { next { id value } } }", start: 9, keys: []int{1, 14}, log: []int{8, impl.MaxInt}, answer: `{"data":{"node":{"next":{"id":7,"value":2147483647}}}}`},
		{text: "{ node(id: 0) { next { id value } } }", start: 8, keys: []int{1}, log: []int{0}, answer: `{"data":{"node":{"next":null}}}`},
		{text: "{ node(id: 7) { plus(by: 1) value } }", start: 9, keys: []int{14, 14}, log: []int{impl.MaxInt, impl.MaxInt}, answer: `{"data":{"node":{"plus":null,"value":2147483647}},"errors":["node.plus"]}`},
		{text: "{ must(id: 2) { need { id } } }", start: 7, keys: []int{5}, log: []int{0}, answer: `{"data":null,"errors":["must.need"]}`},
		{text: "{ nodes { v: value } }", start: 9, keys: []int{0, 2, 4, 6, 8, 10, 12, 14}, log: []int{70, 10, 90, 0, 0, 0, 0, impl.MaxInt},
			answer: `{"data":{"nodes":[{"v":70},{"v":10},{"v":90},{"v":0},{"v":0},{"v":0},{"v":0},{"v":2147483647}]}}`},
		{text: "mutation { set(id: 1 value: 2) { value } }", start: 2, writes: []impl.Put{put(2, 2)}, answer: `{"data":{"set":{"value":2}}}`},
		{text: "mutation { set(id: 1 value: 2) { id } link(id: 1) { id } b: set(id: 1 value: $m) { id } }", start: 9, writes: []impl.Put{put(2, 2), put(3, 0), put(2, -1)}, answer: `{"data":{"set":{"id":1},"link":{"id":1},"b":{"id":1}}}`},
		{text: "mutation { add(id: 2 by: 5) { value next { id } } }", start: 4, keys: []int{4, 5}, log: []int{40, 1}, writes: []impl.Put{put(4, 45)}, answer: `{"data":{"add":{"value":45,"next":{"id":0}}}}`},
		{text: "mutation { add(id: 2 by: 5) { value next { id } } }", start: 9, keys: []int{4, 5}, log: []int{90, 0}, writes: []impl.Put{put(4, 95)}, answer: `{"data":{"add":{"value":95,"next":null}}}`},
		{text: "mutation { a: add(id: 2 by: 1) { value } b: add(id: 2 by: 1) { value } }", start: 9, keys: []int{4}, log: []int{90}, writes: []impl.Put{put(4, 91), put(4, 92)}, answer: `{"data":{"a":{"value":91},"b":{"value":92}}}`},
		{text: "mutation { link(id: 1 to: 2) { value v: value } set(id: 3 value: 1) { id } }", start: 6, keys: []int{2, 2}, log: []int{10, 10}, writes: []impl.Put{put(3, 3), put(6, 1)}, answer: `{"data":{"link":{"value":10,"v":10},"set":{"id":3}}}`},
		{text: "mutation { link(id: 0 to: $y) { next { value next { id } } } }", start: 9, keys: []int{14, 15}, log: []int{impl.MaxInt, 0}, writes: []impl.Put{put(1, 8)}, answer: `{"data":{"link":{"next":{"value":2147483647,"next":null}}}}`},
		{text: "mutation { link(id: 0) { value } a: add(id: 0 by: 1) { value next { id } } }", start: 7, keys: []int{0, 0}, log: []int{70, 70}, writes: []impl.Put{put(1, 0), put(0, 71)}, answer: `{"data":{"link":{"value":70},"a":{"value":71,"next":null}}}`},
		{text: "mutation { set(id: 1 value: 2) { id } add(id: 7 by: 1) { id } }", start: 9, keys: []int{14}, log: []int{impl.MaxInt}, answer: `{"data":null,"errors":["add"]}`},
		{text: "mutation { set(id: 1 value: 2) { need { id } value } add(id: 2 by: 1) { value } }", start: 3, keys: []int{3, 4}, log: []int{0, 30}, answer: `{"data":null,"errors":["set.need"]}`},
		{text: "mutation { set(id: 8 value: 2) { id } link(id: 1 to: 1) { id } }", start: 9, answer: `{"data":null,"errors":["set"]}`},
		{text: "mutation { set(id: 1 value: 2) @skip(if: $t) { id } __typename }", start: 1, answer: `{"data":{"__typename":"Mutation"}}`},
	}
}

// job is the case's job as far as so much of the log.
func (c jobCase) job(t *testing.T, came int) impl.Job {
	t.Helper()
	return impl.Job{Doc: wantDocRead(t, c.text), Vars: runVars(), Start: c.start, Log: slices.Clone(c.log[:came])}
}

func (c jobCase) ended(t *testing.T) impl.Job {
	t.Helper()
	return c.job(t, len(c.log))
}

// need is what the case's job needs when it came so far.
func (c jobCase) need(came int) int {
	if came == len(c.keys) {
		return -1
	}
	return c.keys[came]
}

// storesAfter tell what plainStore does at the hours from start on: as it is, with all keys written
// since, with what is elder forgotten, at the last hour.
func storesAfter(t *testing.T, start int) []impl.Store {
	t.Helper()
	s := plainStore()
	later := wantWritten(t, wantWritten(t, s, 10, manyPuts(16)...), 11, put(4, 1), put(2, 1), put(5, 3))
	return []impl.Store{s, later, forgotten(t, later, start), storeAt(impl.MaxTime, plainMap())}
}

// wantJob fails unless the jobs are alike, an empty list being nil.
func wantJob(t *testing.T, what string, got, want impl.Job) {
	t.Helper()
	if !impl.SameDoc(got.Doc, want.Doc) || !slices.Equal(got.Vars, want.Vars) || got.Start != want.Start || !slices.Equal(got.Log, want.Log) {
		t.Errorf("%s = %s at %d by %s, want it at %d by %s", what, brief(got.Doc), got.Start, brief(got.Log), want.Start, brief(want.Log))
	}
}

func wantNeed(t *testing.T, s impl.Store, j impl.Job, want int) {
	t.Helper()
	if !impl.JobOK(s, j) {
		t.Errorf("JobOK at %d by %s = false", j.Start, brief(j.Log))
	}
	if key, code := impl.NeedOf(s, j); key != want || code != impl.OK {
		t.Errorf("NeedOf at %d by %s = %d, %d, want %d", j.Start, brief(j.Log), key, code, want)
	}
}

// wantStep steps, and fails unless the log is that one then, and all else as it was.
func wantStep(t *testing.T, s impl.Store, j impl.Job, ends bool, log ...int) impl.Job {
	t.Helper()
	next, done, code := impl.StepJob(s, j)
	if done != ends || code != impl.OK || !impl.JobOK(s, next) {
		t.Errorf("StepJob at %d by %s = %v, %d, want %v", j.Start, brief(j.Log), done, code, ends)
	}
	wantJob(t, "StepJob", next, impl.Job{Doc: j.Doc, Vars: j.Vars, Start: j.Start, Log: log})
	return next
}

// wantUnfinished fails unless FinishJob answers ErrNone, and the store as it was in memory of its own.
func wantUnfinished(t *testing.T, s impl.Store, j impl.Job) {
	t.Helper()
	same, ts, text, code := impl.FinishJob(s, j)
	if ts != 0 || text != "" || code != impl.ErrNone {
		t.Errorf("FinishJob at %d by %s = %d, %q, %d, want ErrNone", j.Start, brief(j.Log), ts, text, code)
	}
	wantStore(t, "FinishJob of one that needs something", same, s)
	wantOwnMemory(t, "FinishJob of one that needs something", same, s, j)
}

// A job reads one thing at a step, as it was told at its start, whatever was written since; it ends
// with the step that leaves nothing to need, and another one changes nothing.
func TestSteps(t *testing.T) {
	for _, c := range jobCases() {
		for _, s := range storesAfter(t, c.start) {
			j := c.job(t, 0)
			for i := range c.log {
				wantNeed(t, s, j, c.keys[i])
				wantUnfinished(t, s, j)
				j = wantStep(t, s, j, i == len(c.log)-1, c.log[:i+1]...)
			}
			wantNeed(t, s, j, -1)
			j = wantStep(t, s, j, true, c.log...)
			wantStep(t, s, j, true, c.log...)
			wantJob(t, "a job at its end", j, c.ended(t))
		}
	}
}

// Each step in another store: whatever others write, and forget, between.
func TestStepsWithWritesBetween(t *testing.T) {
	for _, c := range jobCases() {
		j, s := c.job(t, 0), plainStore()
		for i := range c.log {
			wantNeed(t, s, j, c.keys[i])
			j = wantStep(t, s, j, i == len(c.log)-1, c.log[:i+1]...)
			s = wantWritten(t, s, s.Now+1, put(c.keys[i], 5), put(i%16, 3))
			wantNeed(t, s, j, c.need(i+1))
			if i%2 == 0 {
				s, _, _ = impl.Forget(s, c.start)
			}
		}
		wantNeed(t, s, j, -1)
		wantStep(t, s, j, true, c.log...)
	}
}

// wrongLogs differ in one thing from what is read, or have one thing more.
func (c jobCase) wrongLogs() (logs [][]int) {
	for i, n := range c.log {
		for _, other := range []int{n + 1, n - 1, -n - 1, 0, 1, 8, 9, 10, 70, 90, impl.MaxInt, leastInt, hugeInt, tinyInt} {
			if other == n {
				continue
			}
			log := slices.Clone(c.log)
			log[i] = other
			for end := i + 1; end <= len(log); end++ {
				logs = append(logs, log[:end])
			}
		}
		// What is read is there, but not at its place.
		logs = append(logs, slices.Insert(slices.Clone(c.log), i, n+1))
		if i > 0 && c.log[i-1] != n {
			log := slices.Clone(c.log)
			log[i-1], log[i] = n, c.log[i-1]
			logs = append(logs, log, log[:i])
		}
	}
	for _, more := range [][]int{{0}, {1}, {10}, {hugeInt}, {0, 0}, make([]int, impl.MaxList), make([]int, 100000)} {
		logs = append(logs, slices.Concat(c.log, more))
	}
	return append(logs, slices.Concat(c.log, c.log, []int{0}))
}

// A right log is each beginning of what is read, and nothing else.
func TestLogsOfJobs(t *testing.T) {
	for _, c := range jobCases() {
		for _, s := range storesAfter(t, c.start) {
			for came := range len(c.log) + 1 {
				wantNeed(t, s, c.job(t, came), c.need(came))
			}
			for _, log := range c.wrongLogs() {
				j := c.job(t, 0)
				j.Log = log
				wantBadJob(t, c.text, s, j)
			}
		}
	}
}

// What is told at another hour than the start is not what the job reads.
func TestLogsOfOtherHours(t *testing.T) {
	d := wantDocRead(t, "{ node(id: 2) { value next { id } v: value } }")
	s := plainStore()
	for start := range 10 {
		for hour := range 10 {
			_, log, code := impl.Atomic(s, hour, d, nil)
			if code != impl.OK || len(log) != 3 {
				t.Fatal("Atomic", log, code)
			}
			for came := range 4 {
				j := impl.Job{Doc: d, Start: start, Log: log[:came]}
				if got, want := impl.JobOK(s, j), came == 0 || start == hour; got != want {
					t.Errorf("JobOK at %d by %v = %v", start, j.Log, got)
				}
			}
		}
	}
	// Key 0 tells the same from 3 to 6, and another thing ahead and behind.
	value := wantDocRead(t, "{ node(id: 0) { value } }")
	for start, want := range []bool{false, false, false, true, true, true, true, false, false, false} {
		if got := impl.JobOK(s, impl.Job{Doc: value, Start: start, Log: []int{30}}); got != want {
			t.Errorf("JobOK at %d by 30 = %v", start, got)
		}
	}
	// What is forgotten is not told any more: of it the job is none.
	j := impl.Job{Doc: value, Start: 4, Log: []int{30}}
	for low, want := range []bool{true, true, true, true, true, true, true, false, false, false} {
		rest, _, _ := impl.Forget(s, low)
		if got := impl.JobOK(rest, j); got != want {
			t.Errorf("JobOK at 4, %d forgotten = %v", low, got)
		}
	}
}

func TestStartsOfJobs(t *testing.T) {
	for _, text := range []string{"{ size }", "{ node(id: 3) { value } }", "mutation { set(id: 3 value: 1) { next { id } } }"} {
		d := wantDocRead(t, text)
		for _, s := range []impl.Store{impl.NewStore(), storeAt(1, nil), plainStore(), storeAt(impl.MaxTime, plainMap())} {
			for _, start := range []int{0, min(1, s.Now), s.Now / 2, max(s.Now-1, 0), s.Now} {
				if !impl.JobOK(s, impl.Job{Doc: d, Start: start}) {
					t.Errorf("JobOK of %q at %d of %d = false", text, start, s.Now)
				}
			}
			for _, start := range wrongStarts(s.Now) {
				wantBadJob(t, text, s, impl.Job{Doc: d, Start: start})
			}
		}
		for start := range 12 {
			if got := impl.JobOK(plainStore(), impl.Job{Doc: d, Start: start}); got != (start <= 9) {
				t.Errorf("JobOK of %q at %d of 9 = %v", text, start, got)
			}
		}
	}
}

// wantNewJob fails unless the job is at Now, by an empty log.
func wantNewJob(t *testing.T, s impl.Store, d impl.Doc, vars []impl.Binding) impl.Job {
	t.Helper()
	j, code := impl.NewJob(s, d, vars)
	if code != impl.OK || !impl.JobOK(s, j) {
		t.Fatalf("NewJob of %s = %d, or it is not right", brief(d), code)
	}
	wantJob(t, "NewJob", j, impl.Job{Doc: d, Vars: vars, Start: s.Now})
	return j
}

func wantRestarted(t *testing.T, s impl.Store, j impl.Job) impl.Job {
	t.Helper()
	again, code := impl.Restart(s, j)
	if code != impl.OK || !impl.JobOK(s, again) {
		t.Fatalf("Restart of %s = %d, or it is not right", brief(j), code)
	}
	wantJob(t, "Restart", again, impl.Job{Doc: j.Doc, Vars: j.Vars, Start: s.Now})
	return again
}

func TestNewJob(t *testing.T) {
	for _, c := range jobCases() {
		for _, s := range append(storesAfter(t, c.start), impl.NewStore(), storeAt(1, nil)) {
			j := wantNewJob(t, s, wantDocRead(t, c.text), runVars())
			r, _, _ := impl.Atomic(s, s.Now, j.Doc, j.Vars)
			need := -1
			if len(r.Reads) > 0 {
				need = r.Reads[0]
			}
			wantNeed(t, s, j, need)
		}
	}
	d := wantDocRead(t, "{ node(id: 1) { value } }")
	for _, vars := range rightBindings() {
		wantNewJob(t, plainStore(), d, vars)
	}
}

// A job is restarted wherever it came to, and reads then what is there now.
func TestRestart(t *testing.T) {
	for _, c := range jobCases() {
		for _, s := range storesAfter(t, c.start) {
			for came := range len(c.log) + 1 {
				again := wantRestarted(t, s, c.job(t, came))
				wantRestarted(t, s, again)
				wantJob(t, "Restart", again, wantNewJob(t, s, again.Doc, again.Vars))
			}
		}
	}
	s := plainStore()
	j := wantStep(t, s, wantNewJob(t, s, wantDocRead(t, "{ node(id: 2) { value next { value } } }"), nil), false, 90)
	later := wantWritten(t, s, 10, put(4, 3), put(5, 3))
	again := wantStep(t, later, wantRestarted(t, later, j), false, 3)
	again = wantStep(t, later, again, false, 3, 3)
	wantStep(t, later, again, true, 3, 3, 3)
	wantStep(t, later, j, true, 90, 0)
}

func wantStepsOf(t *testing.T, s impl.Store, d impl.Doc, vars []impl.Binding, want int) {
	t.Helper()
	if n, code := impl.StepsOf(s, d, vars); n != want || code != impl.OK {
		t.Errorf("StepsOf of %s = %d, %d, want %d", brief(d), n, code, want)
	}
}

// As many steps as a job has that begins now.
func TestStepsOf(t *testing.T) {
	for _, c := range jobCases() {
		d := wantDocRead(t, c.text)
		if c.start == 9 {
			wantStepsOf(t, plainStore(), d, runVars(), len(c.log))
		}
		for _, s := range append(storesAfter(t, c.start), impl.NewStore()) {
			_, log, _ := impl.Atomic(s, s.Now, d, runVars())
			wantStepsOf(t, s, d, runVars(), len(log))
		}
	}
	// How many there are hangs on what is told now, not on what was told.
	s := impl.NewStore()
	d := wantDocRead(t, "{ node(id: 0) { next { next { next { value v: value } } } } }")
	for i, want := range []int{1, 2, 3, 5} {
		wantStepsOf(t, s, d, nil, want)
		s = wantWritten(t, s, i+1, put(2*i+1, i+2))
	}
	wantStepsOf(t, wantWritten(t, s, 5, put(3, 0)), d, nil, 2)
	wantStepsOf(t, s, wantDocRead(t, "mutation { add(id: 1 by: 1) { value } b: add(id: 1 by: 1) { value next { id } } }"), nil, 2)
}

// The greatest log, looked at here and there, one thing less, all of it, one thing more.
func TestTheGreatestJob(t *testing.T) {
	d := greatRun(t)
	var puts []impl.Put
	for id := range 8 {
		puts = append(puts, put(2*id, impl.MaxInt-9), put(2*id+1, 8-id))
	}
	s := wantWritten(t, impl.NewStore(), 1, puts...)
	r, log, _ := impl.Atomic(s, 1, d, nil)
	wantStepsOf(t, s, d, nil, 8*19*20)
	later := wantWritten(t, s, 2, manyPuts(16)...)
	for came := 0; came < len(log); came += 211 {
		j := impl.Job{Doc: d, Start: 1, Log: log[:came]}
		wantNeed(t, later, j, r.Reads[came])
		wantStep(t, later, j, false, log[:came+1]...)
	}
	last := impl.Job{Doc: d, Start: 1, Log: log[:len(log)-1]}
	wantUnfinished(t, later, last)
	whole := wantStep(t, later, last, true, log...)
	text, _ := impl.AnswerOf(d, r)
	wantFinished(t, later, whole, 1, text)
	whole.Log = append(whole.Log, 0)
	wantBadJob(t, "the greatest log and one more", s, whole)
	whole.Log = slices.Clone(log)
	whole.Log[len(log)/2]++
	wantBadJob(t, "the greatest log with a wrong thing", s, whole)
}

// Others' names and order of variables make another job, but no other steps.
func TestVarsOfJobs(t *testing.T) {
	s := plainStore()
	d := wantDocRead(t, "{ node(id: $a) { value plus(by: $b) } }")
	for _, vars := range [][]impl.Binding{
		{binding("a", intValue(2)), binding("b", intValue(1))}, {binding("b", intValue(1)), binding("a", intValue(2))}, append(manyBindings(6), binding("a", intValue(2)), binding("b", intValue(1))),
	} {
		j := wantNewJob(t, s, d, vars)
		j = wantStep(t, s, wantStep(t, s, j, false, 90), true, 90, 90)
		wantFinished(t, s, j, 9, `{"data":{"node":{"value":90,"plus":91}}}`)
		wantBadJob(t, "a variable less", s, impl.Job{Doc: d, Vars: vars[:len(vars)-1], Start: 9, Log: j.Log})
	}
	for id, want := range []int{70, 10, 90, 0, 0, 0, 0, impl.MaxInt} {
		j := impl.Job{Doc: wantDocRead(t, "{ node(id: $a) { value } }"), Vars: []impl.Binding{binding("a", intValue(id))}, Start: 9}
		wantNeed(t, s, j, 2*id)
		j = wantStep(t, s, j, true, want)
		wantFinished(t, s, j, 9, fmt.Sprintf(`{"data":{"node":{"value":%d}}}`, want))
	}
}
