package tests

import (
	"cmp"
	"fmt"
	"slices"
	"testing"

	"loop.example/g00540/impl"
)

// asksOf are requests of texts that are known to be right.
func asksOf(t *testing.T, texts ...string) (list []impl.Request) {
	t.Helper()
	for _, text := range texts {
		list = append(list, readRequest(t, text))
	}
	return list
}

// wantReplayAll fails unless the requests leave the store, and answer the texts.
func wantReplayAll(t *testing.T, what string, list []impl.Request, s impl.Store, texts ...string) {
	t.Helper()
	got, answered, code := impl.ReplayAll(list)
	wantStore(t, "ReplayAll of "+what, got, s)
	if !slices.Equal(answered, texts) || code != impl.OK {
		t.Errorf("ReplayAll of %s answers %.600q, %d, want\n%.600q", what, answered, code, texts)
	}
	wantOwnMemory(t, "ReplayAll", []any{got.Chains, answered}, list)
}

// holdReplayAll holds ReplayAll against Replay of one behind the other.
func holdReplayAll(t *testing.T, what string, list []impl.Request) (impl.Store, []string) {
	t.Helper()
	s := impl.NewStore()
	var texts []string
	for _, q := range list {
		next, text, code := impl.Replay(s, q.Doc, q.Vars)
		if code != impl.OK {
			t.Fatalf("%s: Replay = %d", what, code)
		}
		s, texts = next, append(texts, text)
	}
	wantReplayAll(t, what, list, s, texts...)
	return s, texts
}

func wantNoReplayAll(t *testing.T, what string, list []impl.Request, want int) {
	t.Helper()
	if s, texts, code := impl.ReplayAll(list); len(s.Chains) > 0 || s.Now != 0 || len(texts) > 0 || code != want {
		t.Errorf("ReplayAll of %s = %s, %.300q, %d, want code %d", what, brief(s), texts, code, want)
	}
}

func TestReplayAllOfNone(t *testing.T) {
	wantReplayAll(t, "none", nil, impl.NewStore())
	wantReplayAll(t, "none", []impl.Request{}, impl.NewStore())
}

// Requests read what those ahead wrote; who only reads, and a mutation with errors, takes no hour.
func TestReplayAll(t *testing.T) {
	list := asksOf(t,
		"{ node(id: 2) { value next { id } } }",
		"mutation { set(id: 2 value: 4) { id } link(id: 2 to: 5) { next { value } } }",
		"{ node(id: 2) { value next { id } } }",
		"x=3 | mutation { add(id: 2 by: $x) { value } b: add(id: 5 by: $x) { value } }",
		"mutation { set(id: 2 value: 9) { id } add(id: 8 by: 1) { id } }",
		"{ node(id: 2) { value next { value } } size }",
		"mutation { set(id: 0 value: 0) { value } }",
		"x=null | mutation { link(id: 2 to: $x) { need { id } } }",
		"x=null | mutation { link(id: 2 to: $x) { next { id } } }",
		"{ must(id: 2) { need { id } } }",
		"mutation { __typename }")
	texts := []string{
		`{"data":{"node":{"value":0,"next":null}}}`,
		`{"data":{"set":{"id":2},"link":{"next":{"value":0}}}}`,
		`{"data":{"node":{"value":4,"next":{"id":5}}}}`,
		`{"data":{"add":{"value":7},"b":{"value":3}}}`,
		`{"data":null,"errors":["add"]}`,
		`{"data":{"node":{"value":7,"next":{"value":3}},"size":8}}`,
		`{"data":{"set":{"value":0}}}`,
		`{"data":null,"errors":["link.need"]}`,
		`{"data":{"link":{"next":null}}}`,
		`{"data":null,"errors":["must.need"]}`,
		`{"data":{"__typename":"Mutation"}}`,
	}
	chains := map[int][]impl.Version{
		0: {{Ts: 3}}, 4: {{Ts: 1, Value: 4}, {Ts: 2, Value: 7}}, 5: {{Ts: 1, Value: 6}, {Ts: 4}}, 10: {{Ts: 2, Value: 3}},
	}
	// Each beginning of the list, and all of it.
	for n, now := range []int{0, 0, 1, 1, 2, 2, 2, 3, 3, 4, 4, 4} {
		upTo := map[int][]impl.Version{}
		for key, list := range chains {
			upTo[key] = slices.DeleteFunc(slices.Clone(list), func(v impl.Version) bool { return v.Ts > now })
		}
		wantReplayAll(t, fmt.Sprint("the first ", n), list[:n], storeAt(now, upTo), texts[:n]...)
		holdReplayAll(t, fmt.Sprint("the first ", n), list[:n])
	}
}

// What was written stands in its order: the same ones the other way round leave another store.
func TestOrdersOfReplayAll(t *testing.T) {
	set, add, link := "mutation { set(id: 1 value: 5) { value } }", "mutation { add(id: 1 by: 2) { value } }", "mutation { link(id: 1 to: 0) { value } }"
	value := func(name string, n int) string { return fmt.Sprintf(`{"data":{%q:{"value":%d}}}`, name, n) }
	for _, c := range []struct {
		texts   []string
		chains  map[int][]impl.Version
		answers []string
	}{
		{[]string{set, add, link}, map[int][]impl.Version{2: {{Ts: 1, Value: 5}, {Ts: 2, Value: 7}}, 3: {{Ts: 3, Value: 1}}}, []string{value("set", 5), value("add", 7), value("link", 7)}},
		{[]string{add, set, link}, map[int][]impl.Version{2: {{Ts: 1, Value: 2}, {Ts: 2, Value: 5}}, 3: {{Ts: 3, Value: 1}}}, []string{value("add", 2), value("set", 5), value("link", 5)}},
		{[]string{link, add, set}, map[int][]impl.Version{2: {{Ts: 2, Value: 2}, {Ts: 3, Value: 5}}, 3: {{Ts: 1, Value: 1}}}, []string{value("link", 0), value("add", 2), value("set", 5)}},
		{[]string{add, add, add}, map[int][]impl.Version{2: {{Ts: 1, Value: 2}, {Ts: 2, Value: 4}, {Ts: 3, Value: 6}}}, []string{value("add", 2), value("add", 4), value("add", 6)}},
	} {
		wantReplayAll(t, brief(c.texts), asksOf(t, c.texts...), storeAt(3, c.chains), c.answers...)
	}
}

// manyAsks are of all sorts.
func manyAsks(t *testing.T, n int) (list []impl.Request) {
	t.Helper()
	texts := []string{"mutation { add(id: 1 by: 1) { value } }", "{ node(id: 1) { value } size }", "x=9 | mutation { set(id: $x value: $x) { id } }", "x=2 | mutation { set(id: $x value: $x) { id } link(id: $x to: 1) { next { value } } }"}
	for i := range n {
		list = append(list, readRequest(t, texts[i%len(texts)]))
	}
	return list
}

func TestLengthsOfReplayAll(t *testing.T) {
	for n := range impl.MaxDone + 1 {
		holdReplayAll(t, fmt.Sprint(n), manyAsks(t, n))
	}
	all := slices.Repeat(asksOf(t, "mutation { add(id: 1 by: 2) { value } }"), impl.MaxDone)
	if s, texts := holdReplayAll(t, "60 that write", all); s.Now != impl.MaxDone || texts[59] != `{"data":{"add":{"value":120}}}` {
		t.Error("60 that write leave", s.Now, texts[59])
	}
	for n, want := range map[int]int{61: impl.ErrMany, 62: impl.ErrMany, 120: impl.ErrMany, impl.MaxList - 1: impl.ErrMany, impl.MaxList: impl.ErrMany, impl.MaxList + 1: impl.ErrLong, impl.MaxList + 2: impl.ErrLong, 100000: impl.ErrLong} {
		for _, list := range [][]impl.Request{slices.Repeat(all[:1], n), slices.Repeat(asksOf(t, "{ size }"), n), make([]impl.Request, n), slices.Repeat(asksOf(t, "{ nothing }"), n)} {
			wantNoReplayAll(t, fmt.Sprint(n), list, want)
			// What cannot be run is told no sooner, wherever it stands.
			list[0] = impl.Request{}
			wantNoReplayAll(t, fmt.Sprint(n), list, want)
			list[n-1] = request(endlessDocs()[0])
			wantNoReplayAll(t, fmt.Sprint(n), list, want)
		}
	}
}

// wantBadAt fails unless the one that cannot be run is told at the first place, in the middle and at the last one.
func wantBadAt(t *testing.T, what string, q impl.Request, others []impl.Request) {
	t.Helper()
	wantNoReplayAll(t, what+" alone", []impl.Request{q}, impl.ErrBad)
	for _, at := range []int{0, len(others) / 2, len(others) - 1} {
		list := slices.Clone(others)
		list[at] = q
		wantNoReplayAll(t, fmt.Sprint(what, " at ", at), list, impl.ErrBad)
	}
}

// One that cannot be run has ErrBad, whatever the code of its run.
func TestReplayAllOfWhatCannotBeRun(t *testing.T) {
	others := asksOf(t, "mutation { add(id: 1 by: 2) { value } }", "{ size }", "{ node(id: 1) { value } }")
	came := map[int]int{}
	for _, d := range runDocs(t) {
		for _, v := range varsCases() {
			code := cmp.Or(longCode(v), d.codeOf(v))
			came[code]++
			q := request(d.doc, v.vars...)
			if code != impl.OK {
				wantBadAt(t, d.text, q, others)
				continue
			}
			for at := range others {
				list := slices.Clone(others)
				list[at] = q
				holdReplayAll(t, d.text, list)
			}
		}
	}
	wantOften(t, came, impl.OK, impl.ErrBad, impl.ErrLong, impl.ErrMany, impl.ErrTwice, impl.ErrField, impl.ErrArg, impl.ErrLeaf, impl.ErrFragment, impl.ErrCycle, impl.ErrMerge, impl.ErrVariable)
	eachWrong(func(what string, d impl.Doc, vars []impl.Binding) { wantBadAt(t, what, request(d, vars...), others) })
	wantBadAt(t, "nothing", impl.Request{}, manyAsks(t, 60))
	wantBadAt(t, "no document", request(impl.Doc{}, runVars()...), manyAsks(t, 59))
}
