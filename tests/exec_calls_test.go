package tests

import (
	"math/rand"
	"reflect"
	"slices"
	"testing"

	"loop.example/g00540/impl"
)

// A runCall is what the calls of chapter 10 are given.
type runCall struct {
	s    impl.Store
	ts   int
	d    impl.Doc
	vars []impl.Binding
	log  []int
	r    impl.Run
}

// answers is all that the calls of chapter 10 answer, each with its code behind it.
func (c runCall) answers() []any {
	run, runCode := impl.Execute(c.d, c.vars, c.log)
	atomic, log, atomicCode := impl.Atomic(c.s, c.ts, c.d, c.vars)
	text, textCode := impl.AnswerOf(c.d, c.r)
	writes, writesCode := impl.WritesOf(c.d, c.r)
	next, answer, nextCode := impl.Replay(c.s, c.d, c.vars)
	return []any{run, runCode, atomic, log, atomicCode, text, textCode, writes, writesCode, next, answer, nextCode}
}

func tidyRun(r impl.Run) impl.Run {
	return impl.Run{Need: r.Need, Reads: append([]int(nil), r.Reads...), Writes: append([]impl.Put(nil), r.Writes...), Out: tidyOut(r.Out), Errors: append([]string(nil), r.Errors...)}
}

// tidyRunAnswers has nil for empty lists, so that DeepEqual holds answers against each other.
func tidyRunAnswers(answers []any) []any {
	out := tidyAnswers(answers)
	for i, x := range out {
		switch y := x.(type) {
		case impl.Run:
			out[i] = tidyRun(y)
		case []impl.Put:
			out[i] = append([]impl.Put(nil), y...)
		}
	}
	return out
}

func (c runCall) tidy() runCall {
	return runCall{tidyStore(c.s), c.ts, tidied(c.d), append([]impl.Binding(nil), c.vars...), append([]int(nil), c.log...), tidyRun(c.r)}
}

// roomy has room behind all lists.
func (c runCall) roomy() runCall {
	c.s, c.d, c.vars, c.log = roomyStore(c.s), roomyDoc(c.d), withRoom(c.vars, binding("behind", no)), withRoom(c.log, -77)
	c.r.Reads, c.r.Writes, c.r.Errors, c.r.Out = withRoom(c.r.Reads, -77), withRoom(c.r.Writes, put(-7, 7)), withRoom(c.r.Errors, "behind"), roomyOut(c.r.Out)
	return c
}

func (c runCall) wantRoomAsItWas(t *testing.T) {
	t.Helper()
	wantRoomyAsItWas(t, c.s)
	wantRoomAsItWas(t, c.d)
	wantRoomyOutAsItWas(t, c.r.Out)
	if behind(c.vars) != binding("behind", no) || behind(c.log) != -77 || behind(c.r.Reads) != -77 || behind(c.r.Writes) != put(-7, 7) || behind(c.r.Errors) != "behind" {
		t.Error("a call wrote behind a list's end")
	}
}

// runsForCalls are right and not.
func runsForCalls() []impl.Run {
	out := outObject("a b", outInt(1), outList(impl.Out{}, outText("Node")))
	return []impl.Run{
		{Need: -1, Reads: []int{2, 3}, Writes: []impl.Put{put(2, 7), put(3, 0)}, Out: out}, {Need: -1, Writes: manyPuts(400), Out: out, Errors: []string{"a.b", "c"}}, {Need: 3, Reads: []int{2}}, {Need: -1}, {},
		{Need: -1, Out: outText("")}, {Need: -1, Writes: manyPuts(401)}, {Need: -1, Errors: []string{"a", "b..c"}}, {Need: 3, Writes: []impl.Put{put(16, 0)}},
	}
}

// callsForRuns are of documents, stores, logs and runs of all sorts, right and not; all are finite.
func callsForRuns(t *testing.T) (list []runCall) {
	t.Helper()
	docs := docsForValid(t)
	for _, text := range []string{
		"{ nodes { value a: next { id __typename } plus(by: $n) } size __typename }", "{ node(id: $x) { need { need { id } } ... f } must(id: $z) { id } } fragment f on Node { a: value b: value }", "{ a: node(id: 1) { value next { value } } b: node(id: 1) { value } }",
		"mutation { a: add(id: 1 by: $x) { value next { id } } link(id: 1 to: 4) { next { value } } set(id: 2 value: 7) { value } }", "mutation { a: add(id: 1 by: $b) { value } set(id: 2 value: $n) { value } l: link(id: 7) { need { id } } }",
	} {
		d := wantDocRead(t, text)
		docs = append(docs, d, d, d)
	}
	docs = append(docs, greatRun(t), docWith(field("size")), impl.Doc{})
	stores, runs := storesForCalls(), runsForCalls()
	vars := [][]impl.Binding{runVars(), runVars(), nil, runVars(), manyBindings(9), runVars(), manyBindings(impl.MaxList + 1)}
	logs := [][]int{nil, {4, 5}, {1, 0, 8}, {5}, {0, 1, 2, 3, 4, 5}, {hugeInt}, make([]int, 24), make([]int, impl.MaxList+1)}
	for i := range 3 * len(docs) {
		s := stores[i%len(stores)]
		list = append(list, runCall{s, []int{s.Now, 0, 1}[i%3], docs[i%len(docs)], vars[i/2%len(vars)], logs[i/3%len(logs)], runs[i%len(runs)]})
	}
	return list
}

func TestArgumentsOfRunsStay(t *testing.T) {
	for _, c := range callsForRuns(t) {
		room, ahead := c.roomy(), c.tidy()
		room.answers()
		if !reflect.DeepEqual(room.tidy(), ahead) {
			t.Fatalf("a call changed what it was given: %s", brief(c.d))
		}
		room.wantRoomAsItWas(t)
	}
}

func TestAnswersOfRunsAreNew(t *testing.T) {
	came := map[int]int{}
	for _, c := range callsForRuns(t) {
		if len(c.d.Defs) > 0 && impl.SameDoc(c.d, greatRun(t)) {
			// Its lists are too many to be held against each other.
			continue
		}
		for _, c := range []runCall{c, c.roomy()} {
			answers, again := c.answers(), c.answers()
			came[answers[4].(int)]++
			for i, a := range answers {
				wantOwnMemory(t, "a call of a run", a, c.s, c.d, c.vars, c.log, c.r, again[i])
			}
			wantOwnMemory(t, "Atomic's log", answers[3], answers[2])
		}
	}
	wantOften(t, came, impl.OK, impl.ErrBad, impl.ErrField)
}

// What is written into an answer is not seen in what it came of, nor in another answer.
func TestRunsAreNotTheirArguments(t *testing.T) {
	d := wantDocRead(t, "mutation { add(id: 1 by: 2) { value next { id } } e: set(id: 2 value: 3) { id } }")
	log := []int{5, 3}
	first, _ := impl.Execute(d, nil, log)
	second, _ := impl.Execute(d, nil, log)
	want := runTold(second)
	first.Reads[0], first.Writes[0], first.Out.Keys[0], first.Out.Items[0].Items[0] = 9, put(9, 9), "x", outText("x")
	if runTold(second) != want || !slices.Equal(log, []int{5, 3}) {
		t.Error("an answer is another one's, or its argument's")
	}
	list, _ := impl.WritesOf(d, second)
	list[0] = put(9, 9)
	if again, _ := impl.WritesOf(d, second); again[0] != put(2, 7) || runTold(second) != want {
		t.Error("WritesOf answers its argument's list")
	}
	s := plainStore()
	next, _, _ := impl.Replay(s, wantDocRead(t, "{ size }"), nil)
	next.Chains[4][0].Value = 77
	wantStore(t, "what Replay was given", s, plainStore())
}

func TestAlikeArgumentsHaveAlikeAnswersInRuns(t *testing.T) {
	random := rand.New(rand.NewSource(101))
	calls := callsForRuns(t)
	var ahead [][]any
	for _, c := range calls {
		ahead = append(ahead, tidyRunAnswers(c.roomy().answers()))
	}
	for _, i := range random.Perm(len(calls)) {
		for _, c := range []runCall{calls[i], calls[i].tidy()} {
			if !reflect.DeepEqual(tidyRunAnswers(c.answers()), ahead[i]) {
				t.Errorf("answers to %s hang on what was called ahead", brief(c.d))
			}
		}
	}
}

// An empty list and nil are the same.
func TestEmptyListsInRuns(t *testing.T) {
	bare := runCall{s: impl.NewStore(), d: docWith(field("size"), inline("", field("__typename"))), r: impl.Run{Need: -1}}
	full := bare
	full.s.Chains = slices.Repeat([][]impl.Version{{}}, 16)
	full.d = docWith(field("size"), inline("", field("__typename")))
	for i := range full.d.Defs[0].Sels {
		full.d.Defs[0].Sels[i].Args, full.d.Defs[0].Sels[i].Dirs = []impl.Arg{}, []impl.Dir{}
	}
	full.d.Defs[0].Sels[0].Sels = []impl.Sel{}
	full.vars, full.log = []impl.Binding{}, []int{}
	full.r = impl.Run{Need: -1, Reads: []int{}, Writes: []impl.Put{}, Errors: []string{}, Out: impl.Out{Keys: []string{}, Items: []impl.Out{}}}
	if !reflect.DeepEqual(tidyRunAnswers(full.answers()), tidyRunAnswers(bare.answers())) {
		t.Errorf("answers to empty lists %v, to none %v", full.answers(), bare.answers())
	}
}

// Sets that share memory are as others, if they are finite and not too great.
func TestRunsOfSetsThatShareMemory(t *testing.T) {
	shared := []impl.Sel{field("id"), field("__typename")}
	args := []impl.Arg{arg("id", intValue(3))}
	d := docWith(impl.Sel{Kind: impl.SeField, Name: "node", Args: args, Sels: shared}, impl.Sel{Kind: impl.SeField, Alias: "b", Name: "must", Args: args, Sels: shared}, impl.Sel{Kind: impl.SeField, Name: "node", Args: args, Sels: shared})
	r, code := impl.Execute(d, nil, nil)
	if runTold(r) != `{"node":{"id":3,"__typename":"Node"},"b":{"id":3,"__typename":"Node"}}` || code != impl.OK {
		t.Error("Execute of sets that share memory", runTold(r), code)
	}
	wantOwnMemory(t, "Execute", r, d, shared, args)
}
