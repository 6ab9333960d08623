package tests

import (
	"math/rand"
	"reflect"
	"slices"
	"testing"

	"loop.example/g00540/impl"
)

// A jobCall is what the calls of chapter 11 are given.
type jobCall struct {
	s    impl.Store
	d    impl.Doc
	vars []impl.Binding
	j    impl.Job
}

// answers is all that the calls of chapter 11 answer, each with its code behind it.
func (c jobCall) answers() []any {
	made, madeCode := impl.NewJob(c.s, c.d, c.vars)
	steps, stepsCode := impl.StepsOf(c.s, c.d, c.vars)
	need, needCode := impl.NeedOf(c.s, c.j)
	next, done, nextCode := impl.StepJob(c.s, c.j)
	again, againCode := impl.Restart(c.s, c.j)
	left, ts, text, leftCode := impl.FinishJob(c.s, c.j)
	return []any{made, madeCode, steps, stepsCode, need, needCode, next, done, nextCode, again, againCode, left, ts, text, leftCode, impl.JobOK(c.s, c.j)}
}

func tidyBindings(list []impl.Binding) []impl.Binding { return append([]impl.Binding(nil), list...) }

func tidyJob(j impl.Job) impl.Job {
	return impl.Job{Doc: tidied(j.Doc), Vars: tidyBindings(j.Vars), Start: j.Start, Log: append([]int(nil), j.Log...)}
}

// tidyJobAnswers has nil for empty lists, so that DeepEqual holds answers against each other.
func tidyJobAnswers(answers []any) []any {
	out := tidyAnswers(answers)
	for i, x := range out {
		if j, is := x.(impl.Job); is {
			out[i] = tidyJob(j)
		}
	}
	return out
}

func (c jobCall) tidy() jobCall {
	return jobCall{tidyStore(c.s), tidied(c.d), tidyBindings(c.vars), tidyJob(c.j)}
}

// roomy has room behind all lists.
func (c jobCall) roomy() jobCall {
	room := binding("behind", no)
	c.s, c.d, c.vars = roomyStore(c.s), roomyDoc(c.d), withRoom(c.vars, room)
	c.j.Doc, c.j.Vars, c.j.Log = roomyDoc(c.j.Doc), withRoom(c.j.Vars, room), withRoom(c.j.Log, -77)
	return c
}

func (c jobCall) wantRoomAsItWas(t *testing.T) {
	t.Helper()
	wantRoomyAsItWas(t, c.s)
	wantRoomAsItWas(t, c.d)
	wantRoomAsItWas(t, c.j.Doc)
	room := binding("behind", no)
	if behind(c.vars) != room || behind(c.j.Vars) != room || behind(c.j.Log) != -77 {
		t.Error("a call wrote behind a list's end")
	}
}

// callsForJobs are of jobs of all sorts, right and not, as far as they came; all are finite.
func callsForJobs(t *testing.T) (list []jobCall) {
	t.Helper()
	for i, c := range jobCases() {
		stores := append(storesAfter(t, c.start), storesForCalls()...)
		for came := range len(c.log) + 1 {
			j := c.job(t, came)
			list = append(list, jobCall{stores[(i+came)%4], j.Doc, j.Vars, j}, jobCall{stores[(i+came)%len(stores)], j.Doc, j.Vars, j})
		}
		for k, log := range c.wrongLogs() {
			if j := c.job(t, 0); k%9 == 0 && len(log) < 100 {
				j.Log = log
				list = append(list, jobCall{stores[k%len(stores)], j.Doc, j.Vars, j})
			}
		}
	}
	for i, c := range callsForRuns(t) {
		if i%3 == 0 {
			list = append(list, jobCall{c.s, c.d, c.vars, impl.Job{Doc: c.d, Vars: c.vars, Start: c.ts, Log: c.log}})
		}
	}
	return list
}

func TestArgumentsOfJobsStay(t *testing.T) {
	for _, c := range callsForJobs(t) {
		room, ahead := c.roomy(), c.tidy()
		room.answers()
		if !reflect.DeepEqual(room.tidy(), ahead) {
			t.Fatalf("a call changed what it was given: %s", brief(c.j))
		}
		room.wantRoomAsItWas(t)
	}
}

func TestAnswersOfJobsAreNew(t *testing.T) {
	came := map[int]int{}
	for _, c := range callsForJobs(t) {
		for _, c := range []jobCall{c, c.roomy()} {
			answers, again := c.answers(), c.answers()
			came[answers[14].(int)]++
			for i, a := range answers {
				wantOwnMemory(t, "a call of a job", a, c.s, c.d, c.vars, c.j, again[i])
			}
		}
	}
	wantOften(t, came, impl.OK, impl.ErrBad, impl.ErrNone)
}

// What is written into an answer is not seen in what it came of, nor in another answer.
func TestJobsAreNotTheirArguments(t *testing.T) {
	s, vars := plainStore(), runVars()
	d := wantDocRead(t, "{ node(id: $x) { value next { id } } }")
	first, second := wantNewJob(t, s, d, vars), wantNewJob(t, s, d, vars)
	one, two := wantStep(t, s, first, false, 10), wantStep(t, s, first, false, 10)
	again := wantRestarted(t, s, one)
	for _, j := range []impl.Job{one, again, first} {
		j.Doc.Defs[0].Sels[0].Name, j.Doc.Defs[0].Sels[0].Args[0].Name, j.Vars[0].Name = "must", "x", "none"
	}
	one.Log[0] = 77
	wantJob(t, "another answer", second, impl.Job{Doc: wantDocRead(t, "{ node(id: $x) { value next { id } } }"), Vars: runVars(), Start: 9})
	wantJob(t, "another answer", two, impl.Job{Doc: second.Doc, Vars: runVars(), Start: 9, Log: []int{10}})
	wantNewJob(t, s, d, vars)
	wantFinished(t, s, wantStep(t, s, two, true, 10, 0), 9, `{"data":{"node":{"value":10,"next":null}}}`)
	left := wantFinished(t, s, wantNewJob(t, s, docWith(field("size")), nil), 9, `{"data":{"size":8}}`)
	left.Chains[4][0].Value = 77
	wantStore(t, "what FinishJob was given", s, plainStore())
}

// Two that go on from one job do not meet, though its log has room.
func TestTwoOfOneJob(t *testing.T) {
	s := plainStore()
	j := impl.Job{Doc: wantDocRead(t, "{ node(id: 2) { value plus(by: 1) next { id } } }"), Start: 9, Log: withRoom([]int{90}, -77)}
	rest, _, _ := impl.Forget(s, 9)
	a, b := wantStep(t, s, j, false, 90, 90), wantStep(t, rest, j, false, 90, 90)
	c := wantStep(t, s, a, true, 90, 90, 0)
	a.Log[0], c.Log[1] = 1, 2
	wantJob(t, "the other one", b, impl.Job{Doc: j.Doc, Start: 9, Log: []int{90, 90}})
	if behind(j.Log) != -77 || j.Log[0] != 90 {
		t.Error("a step wrote into its job's log")
	}
}

func TestAlikeArgumentsHaveAlikeAnswersInJobs(t *testing.T) {
	random := rand.New(rand.NewSource(112))
	calls := callsForJobs(t)
	var ahead [][]any
	for _, c := range calls {
		ahead = append(ahead, tidyJobAnswers(c.roomy().answers()))
	}
	for _, i := range random.Perm(len(calls)) {
		for _, c := range []jobCall{calls[i], calls[i].tidy()} {
			if !reflect.DeepEqual(tidyJobAnswers(c.answers()), ahead[i]) {
				t.Errorf("answers to %s hang on what was called ahead", brief(c.j))
			}
		}
	}
}

// An empty list and nil are the same.
func TestEmptyListsInJobs(t *testing.T) {
	bare := jobCall{s: impl.NewStore(), d: docWith(field("size")), j: impl.Job{Doc: docWith(field("size"))}}
	full := jobCall{s: impl.Store{Chains: slices.Repeat([][]impl.Version{{}}, 16)}, d: docWith(field("size")), vars: []impl.Binding{}}
	size := &full.d.Defs[0].Sels[0]
	size.Args, size.Dirs, size.Sels = []impl.Arg{}, []impl.Dir{}, []impl.Sel{}
	full.j = impl.Job{Doc: full.d, Vars: []impl.Binding{}, Log: []int{}}
	if !reflect.DeepEqual(tidyJobAnswers(full.answers()), tidyJobAnswers(bare.answers())) {
		t.Errorf("answers to empty lists %v, to none %v", full.answers(), bare.answers())
	}
}

// Sets and texts that share memory are as others; a job of them shares none.
func TestJobsOfSetsThatShareMemory(t *testing.T) {
	shared := []impl.Sel{field("value"), field("__typename")}
	args := []impl.Arg{arg("id", varValue("x"))}
	d := docWith(impl.Sel{Kind: impl.SeField, Name: "node", Args: args, Sels: shared}, impl.Sel{Kind: impl.SeField, Alias: "b", Name: "must", Args: args, Sels: shared})
	s := plainStore()
	j := wantNewJob(t, s, d, runVars())
	wantOwnMemory(t, "NewJob", j, d, shared, args)
	given := impl.Job{Doc: d, Vars: runVars(), Start: 9}
	one := wantStep(t, s, given, false, 10)
	wantOwnMemory(t, "StepJob", one, given)
	wantOwnMemory(t, "Restart", wantRestarted(t, s, given), given)
	two := wantStep(t, s, one, true, 10, 10)
	wantFinished(t, s, two, 9, `{"data":{"node":{"value":10,"__typename":"Node"},"b":{"value":10,"__typename":"Node"}}}`)
}
