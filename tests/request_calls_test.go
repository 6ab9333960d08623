package tests

import (
	"math/rand"
	"reflect"
	"slices"
	"strings"
	"testing"

	"loop.example/g00540/impl"
)

// A requestCall is what the calls of chapter 12 are given.
type requestCall struct {
	q, other impl.Request
	text     string
}

// answers is all that the calls of chapter 12 answer, each with its code behind it.
func (c requestCall) answers() []any {
	read, readCode := impl.ReadRequest(c.text)
	text, textCode := impl.RequestText(c.q)
	k, code := impl.RequestCode(c.q)
	return []any{read, readCode, text, textCode, k, code, impl.RequestOK(c.q), impl.SameRequest(c.q, c.other), impl.SameRequest(c.other, c.q), impl.SameRequest(c.q, c.q)}
}

// tidyRequestAnswers has nil for empty lists, so that DeepEqual holds answers against each other.
func tidyRequestAnswers(answers []any) []any {
	out := slices.Clone(answers)
	out[0] = tidyRequest(out[0].(impl.Request))
	return out
}

func (c requestCall) tidy() requestCall {
	return requestCall{tidyRequest(c.q), tidyRequest(c.other), strings.Clone(c.text)}
}

func roomyRequest(q impl.Request) impl.Request {
	return impl.Request{Doc: roomyDoc(q.Doc), Vars: withRoom(q.Vars, binding("behind", no))}
}

// roomy has room behind all lists.
func (c requestCall) roomy() requestCall {
	return requestCall{roomyRequest(c.q), roomyRequest(c.other), c.text}
}

func (c requestCall) wantRoomAsItWas(t *testing.T) {
	t.Helper()
	for _, q := range []impl.Request{c.q, c.other} {
		wantRoomAsItWas(t, q.Doc)
		if behind(q.Vars) != binding("behind", no) {
			t.Error("a call wrote behind a request's bindings")
		}
	}
}

// callsForRequests are of requests and texts of all sorts, right and not; all are finite.
func callsForRequests(t *testing.T) (list []requestCall) {
	t.Helper()
	random := rand.New(rand.NewSource(124))
	all := slices.Concat(rightBindings(), wrongBindings(), [][]impl.Binding{runVars(), runVars(), nil, manyBindings(impl.MaxList + 1)})
	var requests []impl.Request
	for i, d := range docsForValid(t) {
		requests = append(requests, request(d, all[i%len(all)]...), request(d, runVars()[:i%9]...))
	}
	for _, d := range runDocs(t) {
		if d.bare != impl.ErrBad {
			requests = append(requests, request(d.doc, runVars()...))
		}
	}
	requests = append(requests, requestVariants(t)...)
	requests = append(requests, impl.Request{}, request(impl.Doc{}, runVars()...), request(docWith(fields(61)...)))
	parts := documentParts()
	words := wrongWords()
	for i, q := range requests {
		text, code := impl.RequestText(q)
		switch {
		case code != impl.OK || i%5 == 1:
			text = pick(random, "", "x=1|", words[i%len(words)]+"|", "x=1 x=1|", "x=1|x=1|", "v=1 w=true|") + parts[i%len(parts)].text
		case i%5 == 2:
			text = spacious(random, text)
		case i%25 == 3:
			text += strings.Repeat(" ", impl.MaxText)
		}
		list = append(list, requestCall{q, requests[(i+random.Intn(2))%len(requests)], text})
	}
	return list
}

func TestArgumentsOfRequestsStay(t *testing.T) {
	for _, c := range callsForRequests(t) {
		room, ahead := c.roomy(), c.tidy()
		room.answers()
		if !reflect.DeepEqual(room.tidy(), ahead) {
			t.Fatalf("a call changed what it was given: %s", brief(c.q))
		}
		room.wantRoomAsItWas(t)
	}
}

func TestAnswersOfRequestsAreNew(t *testing.T) {
	read, told := map[int]int{}, map[int]int{}
	for _, c := range callsForRequests(t) {
		for _, c := range []requestCall{c, c.roomy()} {
			answers, again := c.answers(), c.answers()
			read[answers[1].(int)]++
			told[answers[3].(int)]++
			for i, a := range answers {
				wantOwnMemory(t, "a call of a request", a, c.q, c.other, c.text, again[i])
			}
		}
	}
	wantOften(t, read, impl.OK, impl.ErrForm, impl.ErrLong, impl.ErrDeep, impl.ErrMany, impl.ErrTwice)
	wantOften(t, told, impl.OK, impl.ErrBad)
}

// Where a code is told all else is zero.
func TestAnswersOfRequestsWithCodesAreZero(t *testing.T) {
	for _, c := range callsForRequests(t) {
		answers := c.answers()
		if answers[1] != impl.OK && !isZeroRequest(answers[0].(impl.Request)) || answers[3] != impl.OK && answers[2] != "" || answers[5] != impl.OK && answers[4] != 0 {
			t.Errorf("an answer with a code is not zero: %s", brief(answers))
		}
		if right := answers[6].(bool); right != (answers[3] == impl.OK) || right != (answers[5] == impl.OK) || right != answers[9].(bool) || answers[7] != answers[8] || answers[7].(bool) && !right {
			t.Errorf("answers do not fit together: %s", brief(answers))
		}
	}
}

// What is written into an answer is not seen in another one, nor in what it came of.
func TestRequestsAreNotTheirTexts(t *testing.T) {
	text := []byte("x=3 name=true | { node(id: $x) @skip(if: $name) { id } }")
	given := string(text)
	first, _ := impl.ReadRequest(given)
	second, _ := impl.ReadRequest(given)
	told, _ := impl.RequestText(first)
	first.Vars[0].Name, first.Vars[1].Value, first.Doc.Defs[0].Sels[0].Name, first.Doc.Defs[0].Sels[0].Args[0].Value.T = "other", null, "must", "other"
	first.Vars = append(first.Vars[:1], binding("more", yes))
	if given != string(text) || told != "x=3 name=true | query { node(id: $x) @skip(if: $name) { id } }" {
		t.Error("a text is not what it was", given, told)
	}
	wantRequest(t, given, second)
	wantToldRequest(t, second, told)
}

// Sets and bindings that share memory are as others.
func TestRequestsThatShareMemory(t *testing.T) {
	shared := []impl.Sel{field("value"), field("__typename")}
	args := []impl.Arg{arg("id", varValue("x"))}
	twin := impl.Sel{Kind: impl.SeField, Name: "node", Args: args, Sels: shared}
	vars := runVars()
	a, b := request(docWith(twin, twin), vars...), request(docWith(twin, twin), vars...)
	if !impl.SameRequest(a, b) || !impl.SameRequest(a, a) || impl.SameRequest(a, request(a.Doc, vars[:7]...)) {
		t.Error("SameRequest of lists that share memory")
	}
	wantToldRequest(t, a, "x=1 y=7 z=8 m=-1 b=2147483647 n=null t=true f=false | query { node(id: $x) { value __typename } node(id: $x) { value __typename } }")
	wantRequestCode(t, a, impl.OK)
}

func TestAlikeArgumentsHaveAlikeAnswersInRequests(t *testing.T) {
	random := rand.New(rand.NewSource(125))
	calls := callsForRequests(t)
	var ahead [][]any
	for _, c := range calls {
		ahead = append(ahead, tidyRequestAnswers(c.roomy().answers()))
	}
	for _, i := range random.Perm(len(calls)) {
		for _, c := range []requestCall{calls[i], calls[i].tidy()} {
			if !reflect.DeepEqual(tidyRequestAnswers(c.answers()), ahead[i]) {
				t.Errorf("answers to %s hang on what was called ahead", brief(c.q))
			}
		}
	}
}

// An empty list and nil are the same.
func TestEmptyListsInRequests(t *testing.T) {
	bare := requestCall{request(docWith(field("size"))), request(docWith(field("size"))), "{ size }"}
	full := requestCall{request(docWith(field("size")), []impl.Binding{}...), bare.other, "{ size }"}
	full.q.Vars = make([]impl.Binding, 0, 3)
	size := &full.q.Doc.Defs[0].Sels[0]
	size.Args, size.Dirs, size.Sels = []impl.Arg{}, []impl.Dir{}, []impl.Sel{}
	if !reflect.DeepEqual(tidyRequestAnswers(full.answers()), tidyRequestAnswers(bare.answers())) || !impl.SameRequest(full.q, bare.q) || !impl.SameRequest(bare.q, full.q) {
		t.Errorf("answers to empty lists %v, to none %v", full.answers(), bare.answers())
	}
}

// Every call ends, whatever holds itself.
func TestEndlessRequests(t *testing.T) {
	docs := endlessDocs()
	for _, d := range docs {
		for _, vars := range [][]impl.Binding{nil, runVars(), manyBindings(9)} {
			wantBadRequest(t, "an endless document", request(d, vars...))
		}
		for _, e := range docs {
			if impl.SameRequest(request(d), request(e)) {
				t.Error("SameRequest of endless documents")
			}
		}
	}
}
