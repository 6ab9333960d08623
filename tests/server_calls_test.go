package tests

import (
	"math/rand"
	"reflect"
	"slices"
	"strings"
	"testing"

	"loop.example/g00540/impl"
)

// A serverCall is what the calls of chapter 13 are given.
type serverCall struct {
	v    impl.Server
	text string
	id   int
}

// answers is all that the calls of chapter 13 answer, each with its code behind it.
func (c serverCall) answers() []any {
	arrived, id, arriveCode := impl.Arrive(c.v, c.text)
	stepped, stepCode := impl.StepOne(c.v, c.id)
	cancelled, cancelCode := impl.CancelOne(c.v, c.id)
	ticked, gone, tickCode := impl.Tick(c.v)
	ids, idsCode := impl.LiveIds(c.v)
	text, textCode := impl.AnswerTo(c.v, c.id)
	low, lowCode := impl.Watermark(c.v)
	return []any{arrived, id, arriveCode, stepped, stepCode, cancelled, cancelCode, ticked, gone, tickCode, ids, idsCode, text, textCode, low, lowCode, impl.ServerOK(c.v)}
}

// tidyServerAnswers has nil for empty lists, so that DeepEqual holds answers against each other.
func tidyServerAnswers(answers []any) []any {
	out := tidyAnswers(answers)
	for i, x := range out {
		if v, is := x.(impl.Server); is {
			out[i] = tidyServer(v)
		}
	}
	return out
}

func (c serverCall) tidy() serverCall {
	return serverCall{tidyServer(c.v), strings.Clone(c.text), c.id}
}

var (
	liveBehind = impl.Live{Id: -77}
	doneBehind = impl.Done{Id: -77, Text: "behind"}
)

func roomyJob(j impl.Job) impl.Job {
	j.Doc, j.Vars, j.Log = roomyDoc(j.Doc), withRoom(j.Vars, binding("behind", no)), withRoom(j.Log, -77)
	return j
}

// behindLast is what stands behind the list's end, if there is room.
func behindLast[T any](list []T) []T { return list[len(list) : len(list)+1] }

// roomy has room behind all lists.
func (c serverCall) roomy() serverCall {
	v := c.v
	v.Store = roomyStore(v.Store)
	v.Live, v.Done = append(slices.Clone(v.Live), liveBehind)[:len(v.Live)], append(slices.Clone(v.Done), doneBehind)[:len(v.Done)]
	for i := range v.Live {
		v.Live[i].Job = roomyJob(v.Live[i].Job)
	}
	for i := range v.Done {
		v.Done[i].Request = roomyRequest(v.Done[i].Request)
	}
	c.v = v
	return c
}

func (c serverCall) wantRoomAsItWas(t *testing.T) {
	t.Helper()
	wantRoomyAsItWas(t, c.v.Store)
	if !reflect.DeepEqual(behindLast(c.v.Live), []impl.Live{liveBehind}) || !reflect.DeepEqual(behindLast(c.v.Done), []impl.Done{doneBehind}) {
		t.Fatal("a call wrote behind a server's lists")
	}
	for _, l := range c.v.Live {
		wantRoomAsItWas(t, l.Job.Doc)
		if behind(l.Job.Vars) != binding("behind", no) || behind(l.Job.Log) != -77 {
			t.Fatal("a call wrote behind a job's lists")
		}
	}
	for _, d := range c.v.Done {
		wantRoomAsItWas(t, d.Request.Doc)
		if behind(d.Request.Vars) != binding("behind", no) {
			t.Fatal("a call wrote behind a request's bindings")
		}
	}
}

// serversForCalls are right and not; all are finite.
func serversForCalls(t *testing.T) (list []impl.Server) {
	t.Helper()
	list = []impl.Server{impl.NewServer(), busyServer(t), crowded(t, 4, 3), crowded(t, 4, 3), crowded(t, 2, 58), crowded(t, 4, 56), crowded(t, 0, 60), crowded(t, 5, 1), crowded(t, 1, 60), {}}
	for i, c := range jobCases() {
		if len(c.log) == 0 {
			continue
		}
		stores := storesAfter(t, c.start)
		for came := range len(c.log) {
			list = append(list, c.server(t, stores[(i+came)%len(stores)], (i+came)%3, came))
		}
		list = append(list, c.server(t, stores[i%len(stores)], 1, len(c.log)))
	}
	for _, s := range storesForCalls() {
		list = append(list, impl.Server{Store: s, Next: 3, Done: []impl.Done{failedOf(1, 0, impl.ErrForm)}})
		v := busyServer(t)
		v.Store = s
		list = append(list, v)
	}
	random := rand.New(rand.NewSource(135))
	for range 60 {
		v := tidyServer(busyServer(t))
		spoilServer(random, &v)
		list = append(list, v)
	}
	return list
}

func callsForServers(t *testing.T) (list []serverCall) {
	t.Helper()
	texts := []string{asksValue, "{ size }", asksSet, "{", "x=1 y=2 | mutation { add(id: $x by: $y) { value } }", "{ nothing }", strings.Repeat(" ", impl.MaxText+1), "{ nodes { value next { id } } }"}
	ids := []int{5, 12, 0, 3, 7, 5, 19, 60, 1, 5}
	for i, v := range serversForCalls(t) {
		list = append(list, serverCall{v, texts[i%len(texts)], ids[i%len(ids)]}, serverCall{v, texts[(i+i/8+1)%len(texts)], 5})
	}
	return list
}

func TestArgumentsOfServersStay(t *testing.T) {
	for _, c := range callsForServers(t) {
		room, ahead := c.roomy(), c.tidy()
		room.answers()
		if !reflect.DeepEqual(room.tidy(), ahead) {
			t.Fatalf("a call changed what it was given:\n%s", serverTold(c.v))
		}
		room.wantRoomAsItWas(t)
	}
}

func TestAnswersOfServersAreNew(t *testing.T) {
	came := map[int]int{}
	for _, c := range callsForServers(t) {
		for _, c := range []serverCall{c, c.roomy()} {
			answers, again := c.answers(), c.answers()
			came[answers[2].(int)]++
			came[answers[4].(int)]++
			for i, a := range answers {
				wantOwnMemory(t, "a call of a server", a, c.v, c.text, again[i])
			}
		}
	}
	wantOften(t, came, impl.OK, impl.ErrBad, impl.ErrLong, impl.ErrNone)
	if came[impl.ErrFull] == 0 {
		t.Error("ErrFull did not come")
	}
}

// Where a code is told all else is zero, but for a server that is as it was.
func TestAnswersOfServersWithCodesAreZero(t *testing.T) {
	for _, c := range callsForServers(t) {
		a := c.answers()
		for _, at := range []int{2, 4, 6, 9} {
			x, code := a[map[int]int{2: 0, 4: 3, 6: 5, 9: 7}[at]].(impl.Server), a[at].(int)
			switch code {
			case impl.OK:
				if !impl.ServerOK(x) {
					t.Errorf("a call left what is not right:\n%s", serverTold(x))
				}
			case impl.ErrFull, impl.ErrNone:
				wantServer(t, "a server as it was", x, c.v)
			default:
				if !isZeroServer(x) || code != impl.ErrBad && (code != impl.ErrLong || at != 2) {
					t.Errorf("an answer with code %d is not zero:\n%s", code, serverTold(x))
				}
			}
		}
		if a[2] != impl.OK && a[1] != 0 || a[9] != impl.OK && a[8] != 0 || a[11] != impl.OK && len(a[10].([]int)) > 0 || a[13] != impl.OK && a[12] != "" || a[15] != impl.OK && a[14] != 0 {
			t.Errorf("an answer with a code is not zero: %s", brief(a))
		}
		for _, at := range []int{4, 6, 9, 11, 13, 15} {
			if right := a[16].(bool); right == (a[at] == impl.ErrBad) {
				t.Errorf("ServerOK = %v, code %d:\n%s", right, a[at], serverTold(c.v))
			}
		}
	}
}

func TestAlikeArgumentsHaveAlikeAnswersInServers(t *testing.T) {
	random := rand.New(rand.NewSource(136))
	calls := callsForServers(t)
	var ahead [][]any
	for _, c := range calls {
		ahead = append(ahead, tidyServerAnswers(c.roomy().answers()))
	}
	for _, i := range random.Perm(len(calls)) {
		for _, c := range []serverCall{calls[i], calls[i].tidy()} {
			if !reflect.DeepEqual(tidyServerAnswers(c.answers()), ahead[i]) {
				t.Errorf("answers hang on what was called ahead:\n%s", serverTold(c.v))
			}
		}
	}
}

// Two that go on from one server do not meet, though its lists have room.
func TestTwoOfOneServer(t *testing.T) {
	given := serverCall{v: busyServer(t)}.roomy()
	a, _, _ := impl.Arrive(given.v, asksValue)
	b, _, _ := impl.Arrive(given.v, "{ size }")
	c, _ := impl.StepOne(given.v, 3)
	d, _ := impl.CancelOne(given.v, 3)
	e, _, _ := impl.Tick(given.v)
	all := []impl.Server{a, b, c, d, e}
	var ahead []impl.Server
	for i, v := range all {
		ahead = append(ahead, tidyServer(v))
		for _, w := range all[:i] {
			wantOwnMemory(t, "two of one server", v, w, given.v)
		}
	}
	for i, v := range all {
		v.Done[0].Text, v.Done[0].Request.Vars[0].Name, v.Done[0].Request.Doc.Defs[0].Sels[0].Name, v.Done[1].Id = "other", "other", "other", 77
		v.Live[0].Id, v.Live[0].Job.Log[0], v.Live[0].Job.Doc.Defs[0].Sels[0].Name, v.Store.Chains[4][0].Value = 77, 77, "other", 77
		for k := i + 1; k < len(all); k++ {
			wantServer(t, "another server", all[k], ahead[k])
		}
		wantServer(t, "what all came of", given.v, busyServer(t))
	}
	given.wantRoomAsItWas(t)
}

// What goes from one that is live to what it came to shares no memory with what is handed in.
func TestServersAreNotTheirArguments(t *testing.T) {
	text := string([]byte("x=1 longname=true | { node(id: $x) @include(if: $longname) { value } }"))
	v, _, _ := impl.Arrive(impl.NewServer(), text)
	wantOwnMemory(t, "Arrive", v, text)
	x, _ := impl.StepOne(v, 1)
	wantOwnMemory(t, "StepOne", x, v, text)
	v.Live[0].Job.Vars[1].Name, v.Live[0].Job.Doc.Defs[0].Sels[0].Name = "other", "must"
	q := readRequest(t, text)
	wantServer(t, "one that is done", x, impl.Server{Store: impl.NewStore(), Next: 2, Done: []impl.Done{{Id: 1, Request: q, Text: `{"data":{"node":{"value":0}}}`}}})
}

// An empty list and nil are the same.
func TestEmptyListsInServers(t *testing.T) {
	bare := serverCall{impl.Server{Store: impl.NewStore(), Next: 2, Done: []impl.Done{failedOf(1, 0, impl.ErrForm)}}, asksValue, 1}
	full := serverCall{tidyServer(bare.v), asksValue, 1}
	full.v.Store.Chains = slices.Repeat([][]impl.Version{{}}, 16)
	full.v.Live = []impl.Live{}
	full.v.Done[0].Request = impl.Request{Doc: impl.Doc{Defs: []impl.Def{}}, Vars: make([]impl.Binding, 0, 3)}
	if !reflect.DeepEqual(tidyServerAnswers(full.answers()), tidyServerAnswers(bare.answers())) {
		t.Errorf("answers to empty lists %v, to none %v", full.answers(), bare.answers())
	}
}

// Jobs, requests and chains that share memory are as others; a server behind a call shares none.
func TestServersThatShareMemory(t *testing.T) {
	q := readRequest(t, "x=2 | { node(id: $x) { value next { value } } }")
	list := chain(1, 2)
	s := storeAt(2, map[int][]impl.Version{2: list, 4: list, 6: list})
	j := impl.Job{Doc: q.Doc, Vars: q.Vars, Start: 2, Log: []int{20}}
	v := impl.Server{Store: s, Next: 9, Live: []impl.Live{{Id: 1, Job: j}, {Id: 2, Job: j}, {Id: 3, Job: j}}, Done: []impl.Done{{Id: 4, Request: q, Text: "x"}, {Id: 5, Request: q, Text: "x"}}}
	wantRightServer(t, "a server that shares memory", v)
	for _, id := range []int{1, 2, 3} {
		wantStepped(t, v, id)
		wantCancelled(t, v, id)
	}
	x := wantLive(t, v, asksValue)
	wantTicked(t, x, 2, 3)
	wantNobody(t, v, 4, 8)
}
