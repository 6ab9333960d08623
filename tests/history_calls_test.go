package tests

import (
	"fmt"
	"math/rand"
	"reflect"
	"slices"
	"strings"
	"testing"

	"loop.example/g00540/impl"
)

// A historyCall is what the calls of chapter 14 are given.
type historyCall struct {
	list     []impl.Done
	requests []impl.Request
	v        impl.Server
}

// answers is all that the calls of chapter 14 answer, each with its code behind it.
func (c historyCall) answers() []any {
	places, placesCode := impl.CommittedOf(c.list)
	order, orderCode := impl.Witness(c.list)
	kept, keptCode := impl.RealTime(c.list)
	s, texts, replayCode := impl.ReplayAll(c.requests)
	holds, holdsCode := impl.SerialHolds(c.v)
	return []any{places, placesCode, order, orderCode, kept, keptCode, s, texts, replayCode, holds, holdsCode}
}

// tidyHistoryAnswers has nil for empty lists, so that DeepEqual holds answers against each other.
func tidyHistoryAnswers(answers []any) []any {
	out := tidyAnswers(answers)
	out[7] = append([]string(nil), out[7].([]string)...)
	return out
}

func tidyDone(list []impl.Done) []impl.Done { return tidyServer(impl.Server{Done: list}).Done }

func (c historyCall) tidy() historyCall {
	var requests []impl.Request
	for _, q := range c.requests {
		requests = append(requests, tidyRequest(q))
	}
	return historyCall{tidyDone(c.list), requests, tidyServer(c.v)}
}

var requestBehind = impl.Request{Vars: []impl.Binding{binding("behind", no)}}

// roomy has room behind all lists.
func (c historyCall) roomy() historyCall {
	requests := append(slices.Clone(c.requests), requestBehind)[:len(c.requests)]
	for i, q := range requests {
		requests[i] = roomyRequest(q)
	}
	list := serverCall{v: impl.Server{Done: c.list}}.roomy().v.Done
	return historyCall{list, requests, serverCall{v: c.v}.roomy().v}
}

func (c historyCall) wantRoomAsItWas(t *testing.T) {
	t.Helper()
	serverCall{v: c.v}.wantRoomAsItWas(t)
	requests := c.requests
	if !reflect.DeepEqual(behindLast(c.list), []impl.Done{doneBehind}) || !reflect.DeepEqual(behindLast(c.requests), []impl.Request{requestBehind}) {
		t.Fatal("a call wrote behind a list")
	}
	for _, d := range c.list {
		requests = append(requests[:len(requests):len(requests)], d.Request)
	}
	for _, q := range requests {
		wantRoomAsItWas(t, q.Doc)
		if behind(q.Vars) != binding("behind", no) {
			t.Fatal("a call wrote behind a request's bindings")
		}
	}
}

// requestsForCalls are lists of those that can be run, and of those with some that cannot; all are finite.
func requestsForCalls(t *testing.T) (lists [][]impl.Request) {
	t.Helper()
	random := rand.New(rand.NewSource(146))
	var all []impl.Request
	for _, d := range runDocs(t) {
		if d.with == impl.OK {
			all = append(all, request(d.doc, runVars()...))
		}
	}
	others := append(requestVariants(t), impl.Request{}, request(docWith(fields(61)...)), request(sizeDoc, manyBindings(9)...))
	lists = append(lists, nil, []impl.Request{}, all, manyAsks(t, 60), manyAsks(t, 61), manyAsks(t, impl.MaxList), manyAsks(t, impl.MaxList+1))
	for i := range 60 {
		var list []impl.Request
		for range 1 + random.Intn(7) {
			list = append(list, pick(random, all...))
		}
		if i%4 == 0 {
			list[random.Intn(len(list))] = others[i%len(others)]
		}
		lists = append(lists, list)
	}
	return lists
}

func callsForHistories(t *testing.T) (list []historyCall) {
	t.Helper()
	random := rand.New(rand.NewSource(147))
	requests := requestsForCalls(t)
	servers := append(serversForCalls(t), historyServer(t), historyServer(t))
	for i, v := range servers {
		c := historyCall{randomHistory(random), requests[i%len(requests)], v}
		if i%3 == 0 && len(c.list) > 0 {
			spoilHistory(random, c.list)
		}
		for k := range c.list {
			c.list[k].Request, c.list[k].Text = requests[2][k%len(requests[2])], "x"
		}
		list = append(list, c, historyCall{v.Done, c.requests, v})
	}
	for _, n := range []int{61, impl.MaxList, impl.MaxList + 1} {
		list = append(list, historyCall{manyDone(n), nil, impl.NewServer()})
	}
	return list
}

func TestArgumentsOfHistoriesStay(t *testing.T) {
	for _, c := range callsForHistories(t) {
		room, ahead := c.roomy(), c.tidy()
		room.answers()
		if !reflect.DeepEqual(room.tidy(), ahead) {
			t.Fatalf("a call changed what it was given:\n%s", serverTold(c.v))
		}
		room.wantRoomAsItWas(t)
	}
}

func TestAnswersOfHistoriesAreNew(t *testing.T) {
	came := map[int]int{}
	for _, c := range callsForHistories(t) {
		for _, c := range []historyCall{c, c.roomy()} {
			answers, again := c.answers(), c.answers()
			came[answers[1].(int)]++
			came[answers[8].(int)]++
			for i, a := range answers {
				wantOwnMemory(t, "a call of a history", a, c.list, c.requests, c.v, again[i])
			}
			wantOwnMemory(t, "ReplayAll", []any{answers[6].(impl.Store).Chains, answers[7]})
		}
	}
	wantOften(t, came, impl.OK, impl.ErrBad)
	if came[impl.ErrMany] == 0 || came[impl.ErrLong] == 0 {
		t.Error("ErrMany and ErrLong did not come", came)
	}
}

// Where a code is told all else is zero.
func TestAnswersOfHistoriesWithCodesAreZero(t *testing.T) {
	holds := map[bool]int{}
	for _, c := range callsForHistories(t) {
		a := tidyHistoryAnswers(c.answers())
		if a[1] != a[3] || a[1] != a[5] {
			t.Errorf("the calls of a list have other codes each: %s", brief(a))
		}
		if a[1] != impl.OK && (a[0].([]int) != nil || a[2].([]int) != nil || a[4] != false) {
			t.Errorf("an answer with a code is not zero: %s", brief(a))
		}
		if a[8] != impl.OK && (!reflect.DeepEqual(a[6], impl.Store{}) || a[7].([]string) != nil) {
			t.Errorf("an answer with a code is not zero: %s", brief(a))
		}
		if a[8] == impl.OK && (!impl.StoreOK(a[6].(impl.Store)) || len(a[7].([]string)) != len(c.requests)) {
			t.Errorf("what ReplayAll answers is not right: %s", brief(a))
		}
		if right := impl.ServerOK(c.v); right != (a[10] == impl.OK) || !right && (a[9] != false || a[10] != impl.ErrBad) {
			t.Errorf("SerialHolds = %v, %d, ServerOK = %v:\n%s", a[9], a[10], right, serverTold(c.v))
		}
		holds[a[9].(bool)]++
	}
	if holds[true] < 10 || holds[false] < 10 {
		t.Error("servers are of no use", holds)
	}
}

func TestAlikeArgumentsHaveAlikeAnswersInHistories(t *testing.T) {
	random := rand.New(rand.NewSource(148))
	calls := callsForHistories(t)
	var ahead [][]any
	for _, c := range calls {
		ahead = append(ahead, tidyHistoryAnswers(c.roomy().answers()))
	}
	for _, i := range random.Perm(len(calls)) {
		for _, c := range []historyCall{calls[i], calls[i].tidy()} {
			if !reflect.DeepEqual(tidyHistoryAnswers(c.answers()), ahead[i]) {
				t.Errorf("answers hang on what was called ahead:\n%s", serverTold(c.v))
			}
		}
	}
}

// What is written into an answer is not seen in another one, nor in what it came of.
func TestHistoriesAreNotTheirAnswers(t *testing.T) {
	v := historyServer(t)
	c := historyCall{v.Done, manyAsks(t, 5), v}
	want := tidyHistoryAnswers(c.answers())
	for range 3 {
		answers := c.answers()
		for _, i := range []int{0, 2} {
			list := answers[i].([]int)
			list[0] = 77
			_ = append(list, 77)
		}
		s, texts := answers[6].(impl.Store), answers[7].([]string)
		s.Chains[2][0], s.Chains[4], texts[0] = impl.Version{Ts: 7, Value: 7}, chain(3), "other"
		if !reflect.DeepEqual(tidyHistoryAnswers(c.answers()), want) {
			t.Error("answers hang on what was made of an earlier one")
		}
	}
	wantServer(t, "a history", v, historyServer(t))
}

// An empty list and nil are the same.
func TestEmptyListsInHistories(t *testing.T) {
	done := []impl.Done{failedOf(1, 0, impl.ErrForm)}
	bare := historyCall{nil, nil, impl.Server{Store: impl.NewStore(), Next: 2, Done: done}}
	full := historyCall{[]impl.Done{}, []impl.Request{}, tidyServer(bare.v)}
	full.v.Store.Chains = slices.Repeat([][]impl.Version{{}}, 16)
	full.v.Live = make([]impl.Live, 0, 4)
	full.v.Done[0].Request = impl.Request{Doc: impl.Doc{Defs: []impl.Def{}}, Vars: make([]impl.Binding, 0, 3)}
	want := []any{[]int(nil), impl.OK, []int(nil), impl.OK, true, impl.OK, impl.NewStore(), []string(nil), impl.OK, true, impl.OK}
	want[6] = tidyStore(impl.NewStore())
	for _, c := range []historyCall{bare, full} {
		if got := tidyHistoryAnswers(c.answers()); !reflect.DeepEqual(got, want) {
			t.Errorf("answers to nothing %v, want %v", got, want)
		}
	}
	q := readRequest(t, "{ node(id: 1) { value } }")
	q.Vars = []impl.Binding{}
	q.Doc.Defs[0].Sels[0].Dirs, q.Doc.Defs[0].Sels[0].Sels[0].Sels, q.Doc.Defs[0].Sels[0].Sels[0].Args = []impl.Dir{}, []impl.Sel{}, []impl.Arg{}
	wantReplayAll(t, "empty lists", []impl.Request{q}, impl.NewStore(), `{"data":{"node":{"value":0}}}`)
}

// Requests that share memory are as others, also if one stands at each place.
func TestHistoriesThatShareMemory(t *testing.T) {
	q := readRequest(t, "x=2 | mutation { add(id: $x by: $x) { value } }")
	want := []string{`{"data":{"add":{"value":2}}}`, `{"data":{"add":{"value":4}}}`, `{"data":{"add":{"value":6}}}`}
	s := storeAt(3, map[int][]impl.Version{4: {{Ts: 1, Value: 2}, {Ts: 2, Value: 4}, {Ts: 3, Value: 6}}})
	wantReplayAll(t, "one request", []impl.Request{q, q, q}, s, want...)
	v := impl.Server{Store: s, Next: 9}
	for i, text := range want {
		v.Done = append(v.Done, impl.Done{Id: i + 1, Ts: i + 1, Wrote: true, Request: q, Text: text})
	}
	wantSerial(t, "one request", v, true)
	texts := strings.Join(want, "")
	for i := range v.Done {
		at := strings.Index(texts, v.Done[i].Text)
		v.Done[i].Text = texts[at : at+len(v.Done[i].Text)]
	}
	wantSerial(t, "texts that are pieces of one", v, true)
	wantHistoryTold(t, "one request", v.Done, historyTold{placesUpTo(3), placesUpTo(3), true})
}

// Every call ends, whatever holds itself.
func TestEndlessHistories(t *testing.T) {
	for _, d := range endlessDocs() {
		for _, at := range []int{0, 1, 4, 6} {
			v := tidyServer(historyServer(t))
			v.Done[at].Request = request(d, runVars()...)
			wantNoSerial(t, "an endless request", v)
			holdHistory(t, "an endless request", v.Done)
		}
		v := tidyServer(historyServer(t))
		v.Live[0].Job.Doc = d
		wantNoSerial(t, "an endless job", v)
		list := manyAsks(t, 60)
		list[59] = request(d)
		wantNoReplayAll(t, "an endless request", list, impl.ErrBad)
	}
}

// The greatest requests, as many as there may be, behind one that has them read all they can.
func TestTheGreatestReplayAll(t *testing.T) {
	links := "mutation {"
	for id := range 8 {
		links += fmt.Sprintf(" l%d: link(id: %d to: %d) { id }", id, id, 7-id)
	}
	list := append(asksOf(t, links+" }"), slices.Repeat([]impl.Request{request(greatRun(t))}, 59)...)
	s, texts, code := impl.ReplayAll(list)
	if s.Now != 1 || len(texts) != 60 || len(texts[1]) < 10000 || code != impl.OK {
		t.Fatal("great requests", s.Now, len(texts), code)
	}
	_, text, _ := impl.Replay(s, list[1].Doc, nil)
	for _, x := range texts[1:] {
		if x != text {
			t.Error("a great request has another answer")
		}
	}
	v := impl.Server{Store: s, Next: 61}
	for i, text := range texts {
		v.Done = append(v.Done, impl.Done{Id: i + 1, Ts: 1, Wrote: i == 0, Request: list[i], Text: text})
	}
	wantSerial(t, "great requests", v, true)
}
