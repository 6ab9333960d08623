package tests

import (
	"math/rand"
	"reflect"
	"slices"
	"strings"
	"testing"

	"loop.example/g00540/impl"
)

// An actsCall is what the calls of chapter 15 are given.
type actsCall struct {
	v, other impl.Server
	a        impl.Act
	acts     []impl.Act
}

// answers is all that the calls of chapter 15 answer, each with its code behind it.
func (c actsCall) answers() []any {
	acted, actCode := impl.ActDo(c.v, c.a)
	run, codes, runCode := impl.ActsRun(c.acts)
	drained, steps, drainCode := impl.DrainAll(c.v)
	return []any{acted, actCode, run, codes, runCode, drained, steps, drainCode, impl.ActOK(c.a), impl.SameServer(c.v, c.other)}
}

// tidyActsAnswers has nil for empty lists, so that DeepEqual holds answers against each other.
func tidyActsAnswers(answers []any) []any {
	out := tidyServerAnswers(answers)
	out[3] = append([]int(nil), out[3].([]int)...)
	return out
}

func (c actsCall) tidy() actsCall {
	acts := append([]impl.Act(nil), c.acts...)
	for i := range acts {
		acts[i].Text = strings.Clone(acts[i].Text)
	}
	a := c.a
	a.Text = strings.Clone(a.Text)
	return actsCall{tidyServer(c.v), tidyServer(c.other), a, acts}
}

var actBehind = impl.Act{Kind: -77, Text: "behind"}

// roomy has room behind all lists.
func (c actsCall) roomy() actsCall {
	acts := append(slices.Clone(c.acts), actBehind)[:len(c.acts)]
	return actsCall{serverCall{v: c.v}.roomy().v, serverCall{v: c.other}.roomy().v, c.a, acts}
}

func (c actsCall) wantRoomAsItWas(t *testing.T) {
	t.Helper()
	serverCall{v: c.v}.wantRoomAsItWas(t)
	serverCall{v: c.other}.wantRoomAsItWas(t)
	if behindLast(c.acts)[0] != actBehind {
		t.Fatal("a call wrote behind the acts")
	}
}

func callsForActs(t *testing.T) (list []actsCall) {
	t.Helper()
	random := rand.New(rand.NewSource(154))
	acts := append(rightActs(), wrongActs()...)
	servers := serversForCalls(t)
	for i, v := range servers {
		c := actsCall{v: v, other: servers[(i+i%2)%len(servers)], a: acts[i*7%len(acts)]}
		switch i % 6 {
		case 0:
			c.acts = actsUpTo(i % 202)
		case 1:
			c.acts = acts[i%len(acts) : i%len(acts)+1]
		default:
			c.acts = randomActs(t, random, 1+random.Intn(30), 6)
		}
		list = append(list, c)
		for _, a := range []impl.Act{steps(5), cancels(5), comes(asksSum), ticks()} {
			if i%4 == 0 {
				list = append(list, actsCall{v: v, other: v, a: a})
			}
		}
	}
	for _, n := range []int{201, impl.MaxList, impl.MaxList + 1} {
		list = append(list, actsCall{v: busyServer(t), other: busyServer(t), a: steps(12), acts: actsUpTo(n)})
	}
	return list
}

func TestArgumentsOfActsStay(t *testing.T) {
	for _, c := range callsForActs(t) {
		room, ahead := c.roomy(), c.tidy()
		room.answers()
		if !reflect.DeepEqual(room.tidy(), ahead) {
			t.Fatalf("a call changed what it was given:\n%s", serverTold(c.v))
		}
		room.wantRoomAsItWas(t)
	}
}

func TestAnswersOfActsAreNew(t *testing.T) {
	came := map[int]int{}
	for _, c := range callsForActs(t) {
		for _, c := range []actsCall{c, c.roomy()} {
			answers, again := c.answers(), c.answers()
			came[answers[1].(int)]++
			came[answers[4].(int)]++
			for i, a := range answers {
				wantOwnMemory(t, "a call of acts", a, c.v, c.other, c.a, c.acts, again[i])
			}
			wantOwnMemory(t, "ActsRun", []any{answers[2], answers[3]})
		}
	}
	wantOften(t, came, impl.OK, impl.ErrBad, impl.ErrNone)
	if came[impl.ErrMany] == 0 || came[impl.ErrLong] == 0 || came[impl.ErrFull] == 0 {
		t.Error("ErrMany, ErrLong and ErrFull did not come", came)
	}
}

// Where a code is told all else is zero, but for a server that is as it was.
func TestAnswersOfActsWithCodesAreZero(t *testing.T) {
	for _, c := range callsForActs(t) {
		a := c.answers()
		right, acts := impl.ServerOK(c.v), a[8].(bool)
		acted, run, drained := a[0].(impl.Server), a[2].(impl.Server), a[5].(impl.Server)
		if (a[1] == impl.ErrBad) != (!right || !acts) || isZeroServer(acted) != (a[1] == impl.ErrBad) {
			t.Errorf("ActDo of %s = %s, %d, right are %v, %v", actTold(c.a), brief(acted), a[1], right, acts)
		}
		if a[1] == impl.ErrNone || a[1] == impl.ErrFull {
			wantServer(t, "a server as it was", acted, c.v)
		}
		if code := a[4].(int); code == impl.OK {
			if !impl.ServerOK(run) || len(a[3].([]int)) != len(c.acts) {
				t.Errorf("ActsRun leaves what is not right:\n%s", serverTold(run))
			}
		} else if !isZeroServer(run) || len(a[3].([]int)) > 0 {
			t.Errorf("ActsRun with code %d = %s, %v", code, brief(run), a[3])
		}
		if right != (a[7] == impl.OK) || isZeroServer(drained) == right || !right && (a[6] != 0 || a[7] != impl.ErrBad) {
			t.Errorf("DrainAll = %s, %d, %d, right is %v", brief(drained), a[6], a[7], right)
		}
	}
}

func TestAlikeArgumentsHaveAlikeAnswersInActs(t *testing.T) {
	random := rand.New(rand.NewSource(155))
	calls := callsForActs(t)
	var ahead [][]any
	for _, c := range calls {
		ahead = append(ahead, tidyActsAnswers(c.roomy().answers()))
	}
	for _, i := range random.Perm(len(calls)) {
		for _, c := range []actsCall{calls[i], calls[i].tidy()} {
			if !reflect.DeepEqual(tidyActsAnswers(c.answers()), ahead[i]) {
				t.Errorf("answers hang on what was called ahead:\n%s", serverTold(c.v))
			}
		}
	}
}

// What is written into an answer is not seen in another one, nor in what it came of.
func TestActsAreNotTheirAnswers(t *testing.T) {
	spoil := func(v impl.Server) {
		for i := range v.Done {
			v.Done[i].Id, v.Done[i].Text = 77, "other"
			for k := range v.Done[i].Request.Doc.Defs {
				v.Done[i].Request.Doc.Defs[k].Sels[0].Name = "other"
			}
		}
		for i := range v.Live {
			v.Live[i].Id, v.Live[i].Job.Doc.Defs[0].Sels[0].Name = 77, "other"
		}
		for key := range v.Store.Chains {
			for i := range v.Store.Chains[key] {
				v.Store.Chains[key][i].Value = 7
			}
		}
	}
	acts := []impl.Act{comes(asksSum), comes("x=1 b=true | { node(id: $x) @include(if: $b) { value } }"), comes("{"), steps(1), comes(asksSum), ticks()}
	for _, a := range acts {
		c := actsCall{v: busyServer(t), other: busyServer(t), a: a, acts: acts}
		want := tidyActsAnswers(c.tidy().answers())
		for range 3 {
			answers := c.answers()
			for _, i := range []int{0, 2, 5} {
				spoil(answers[i].(impl.Server))
			}
			answers[3].([]int)[0] = 77
			if !reflect.DeepEqual(tidyActsAnswers(c.answers()), want) {
				t.Error("answers hang on what was made of an earlier one")
			}
		}
		wantServer(t, "what was acted on", c.v, busyServer(t))
	}
}

// An empty list and nil are the same.
func TestEmptyListsInActs(t *testing.T) {
	bare := actsCall{v: impl.Server{Store: impl.NewStore(), Next: 2, Done: []impl.Done{failedOf(1, 0, impl.ErrForm)}}, a: comes("{ size }")}
	bare.other = bare.v
	full := bare.tidy()
	full.v.Store.Chains = slices.Repeat([][]impl.Version{{}}, 16)
	full.v.Live, full.acts = []impl.Live{}, []impl.Act{}
	full.v.Done[0].Request = impl.Request{Doc: impl.Doc{Defs: []impl.Def{}}, Vars: make([]impl.Binding, 0, 3)}
	if got, want := tidyActsAnswers(full.answers()), tidyActsAnswers(bare.answers()); !reflect.DeepEqual(got, want) || got[9] != true || got[4] != impl.OK {
		t.Errorf("answers to empty lists %v, to none %v", got, want)
	}
}

// Jobs, requests and chains that share memory are as others; a server behind a call shares none.
func TestActsOnServersThatShareMemory(t *testing.T) {
	q := readRequest(t, "x=2 | { node(id: $x) { value next { value } } }")
	list := chain(1, 2)
	j := impl.Job{Doc: q.Doc, Vars: q.Vars, Start: 2, Log: []int{20}}
	v := impl.Server{Store: storeAt(2, map[int][]impl.Version{2: list, 4: list, 6: list}), Next: 9,
		Live: []impl.Live{{Id: 1, Job: j}, {Id: 2, Job: j}, {Id: 3, Job: j}}, Done: []impl.Done{{Id: 4, Request: q, Text: "x"}, {Id: 5, Request: q, Text: "x"}}}
	wantSame(t, "a server that shares memory", v, tidyServer(v), true)
	wantSame(t, "a server that shares memory", v, serverCall{v: v}.roomy().v, true)
	wantEnds(t, "a server that shares memory", v, 3, ended(1), ended(2), ended(3))
	for _, a := range []impl.Act{comes(asksValue), steps(2), cancels(3), ticks()} {
		wantActed(t, v, a)
	}
	text := asksSum + asksValue
	wantActsRun(t, []impl.Act{comes(text[:len(asksSum)]), comes(text[len(asksSum):]), comes(text), steps(1), comes(text[:1])})
}

// Every call ends, whatever holds itself.
func TestEndlessActs(t *testing.T) {
	for _, d := range endlessDocs() {
		v, w := busyServer(t), busyServer(t)
		v.Done[0].Request.Doc, w.Live[0].Job.Doc = d, d
		for _, x := range []impl.Server{v, w} {
			for _, a := range []impl.Act{comes("{ size }"), steps(12), cancels(12), ticks(), {}} {
				wantNoAct(t, x, a)
			}
			if z, n, code := impl.DrainAll(x); !isZeroServer(z) || n != 0 || code != impl.ErrBad {
				t.Error("DrainAll of an endless one", n, code)
			}
			wantSame(t, "endless ones", x, x, false)
		}
	}
	// As many as there may be, of the longest texts.
	long := comes(filled(asksValue+"\t", impl.MaxText))
	deep := comes(strings.Repeat("{", impl.MaxText))
	_, codes := wantActsRun(t, append(slices.Repeat([]impl.Act{deep}, 30), slices.Repeat([]impl.Act{long}, 170)...))
	if len(placesOf(codes, impl.ErrFull)) != 166 {
		t.Error("codes of long texts", codes)
	}
}
