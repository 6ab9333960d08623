package tests

import (
	"fmt"
	"slices"
	"strings"
	"testing"

	"loop.example/g00540/impl"
)

// played is the server on which the texts came and the ids were stepped; one that is below 0 is cancelled.
func played(t *testing.T, v impl.Server, texts []string, ids ...int) impl.Server {
	t.Helper()
	for _, text := range texts {
		v = moved(t, v, move{kind: 'a', text: text})
	}
	for _, id := range ids {
		if id < 0 {
			v = moved(t, v, move{kind: 'c', id: -id})
			continue
		}
		v = moved(t, v, move{kind: 's', id: id})
	}
	return v
}

func wantSerial(t *testing.T, what string, v impl.Server, want bool) {
	t.Helper()
	if got, code := impl.SerialHolds(v); got != want || code != impl.OK {
		t.Errorf("SerialHolds of %s = %v, %d, want %v:\n%s", what, got, code, want, serverTold(v))
	}
}

func wantNoSerial(t *testing.T, what string, v impl.Server) {
	t.Helper()
	if got, code := impl.SerialHolds(v); got || code != impl.ErrBad {
		t.Errorf("SerialHolds of %s = %v, %d, want ErrBad", what, got, code)
	}
}

// historyServer is one on which three wrote, of whom one began anew, two read while others wrote, one
// had a fault, one was cancelled, and one is live.
func historyServer(t *testing.T) impl.Server {
	t.Helper()
	v := played(t, impl.NewServer(), []string{
		"mutation { set(id: 1 value: 5) { id } }",
		"{ a: node(id: 1) { value } b: node(id: 2) { value } }",
		"x=1 | mutation { add(id: $x by: 10) { value } link(id: 2 to: $x) { next { value } } }",
		"mutation { add(id: 1 by: 1) { value } b: add(id: 2 by: 1) { value } }",
	}, 4, 3, 2, 4, 4, 4)
	v = played(t, v, []string{"{ nothing }", "{ node(id: 1) { value next { id } } }", "mutation { add(id: 1 by: 1) { value } }", "{ node(id: 2) { value next { value } } }"}, 6, 2, -7, 8, 6)
	want := []impl.Done{
		{Id: 1, Ts: 1, Wrote: true, Text: `{"data":{"set":{"id":1}}}`},
		{Id: 3, Ts: 2, Since: 1, Wrote: true, Text: `{"data":{"add":{"value":15},"link":{"next":{"value":15}}}}`},
		{Id: 4, Ts: 3, Since: 1, Wrote: true, Text: `{"data":{"add":{"value":16},"b":{"value":1}}}`},
		failedOf(5, 3, impl.ErrField),
		{Id: 2, Ts: 1, Since: 1, Text: `{"data":{"a":{"value":5},"b":{"value":0}}}`},
		failedOf(7, 4, impl.ErrCancelled),
		{Id: 6, Ts: 3, Since: 4, Text: `{"data":{"node":{"value":16,"next":null}}}`},
	}
	for i, d := range v.Done {
		d.Request = impl.Request{}
		if len(v.Done) != len(want) || fmt.Sprint(d) != fmt.Sprint(want[i]) {
			t.Fatalf("the history is another one:\n%s", serverTold(v))
		}
	}
	return v
}

// A spoiling is a change of a history, and whether serial order holds of it then.
type spoiling struct {
	what string
	want bool
	make func(v *impl.Server)
}

func wantSpoilings(t *testing.T, list ...spoiling) {
	t.Helper()
	for _, c := range list {
		v := tidyServer(historyServer(t))
		c.make(&v)
		wantRightServer(t, c.what, v)
		wantSerial(t, c.what, v, c.want)
		// What is forgotten changes nothing of it.
		rest, _, _ := impl.Tick(v)
		wantSerial(t, c.what+", ticked", rest, c.want)
	}
}

func TestSerialHolds(t *testing.T) {
	v := historyServer(t)
	wantHistoryTold(t, "a history", v.Done, historyTold{[]int{0, 1, 2, 4, 6}, []int{0, 4, 1, 2, 6}, true})
	wantSerial(t, "a history", v, true)
	wantSerial(t, "a new server", impl.NewServer(), true)
	// The whole of it ends, or is cancelled.
	wantSerial(t, "a history at its end", played(t, v, nil, 8), true)
	wantSerial(t, "a history, one cancelled", played(t, v, nil, -8), true)
}

// Of those that were committed each Text counts, and nothing else has one that could be another.
func TestTextsInSerialOrder(t *testing.T) {
	for _, at := range []int{0, 1, 2, 4, 6} {
		for _, text := range []string{"", "x", `{"data":null}`, `{"error":"ok"}`, `{"data":{"set":{"id":2}}}`, `{"data":{"set":{"id":1}}} `, strings.Repeat("x", 1000000)} {
			wantSpoilings(t, spoiling{fmt.Sprintf("another text at %d", at), false, func(v *impl.Server) { v.Done[at].Text = text }})
		}
		wantSpoilings(t, spoiling{fmt.Sprintf("a text and a byte at %d", at), false, func(v *impl.Server) { v.Done[at].Text += "\x00" }},
			spoiling{fmt.Sprintf("a text less a byte at %d", at), false, func(v *impl.Server) { v.Done[at].Text = v.Done[at].Text[:len(v.Done[at].Text)-1] }})
	}
	// Two texts that change places, of one hour and of two.
	for _, c := range [][2]int{{0, 4}, {2, 6}, {0, 1}, {1, 2}, {4, 6}} {
		wantSpoilings(t, spoiling{fmt.Sprint("texts of ", c), false, func(v *impl.Server) {
			v.Done[c[0]].Text, v.Done[c[1]].Text = v.Done[c[1]].Text, v.Done[c[0]].Text
		}})
	}
}

func TestHoursInSerialOrder(t *testing.T) {
	ts := func(at, n int, want bool) spoiling {
		return spoiling{fmt.Sprintf("hour %d at %d", n, at), want, func(v *impl.Server) { v.Done[at].Ts = n }}
	}
	wrote := func(want bool, some ...int) spoiling {
		return spoiling{fmt.Sprint("Wrote the other way round at ", some), want, func(v *impl.Server) {
			for _, at := range some {
				v.Done[at].Wrote = !v.Done[at].Wrote
			}
		}}
	}
	wantSpoilings(t,
		// Those that read tell what was there at another hour.
		ts(4, 0, false), ts(4, 2, false), ts(4, 3, false), ts(6, 2, false), ts(6, 1, false), ts(6, 0, false),
		// Those that wrote come ahead of what they read, or behind who read them.
		ts(0, 0, true), ts(0, 2, false), ts(0, 3, false), ts(1, 1, false), ts(1, 3, true), ts(2, 2, true), ts(2, 1, false), ts(2, 0, false),
		// At one hour, who wrote stands first; then all stand as they do.
		wrote(true, 0), wrote(true, 4), wrote(false, 0, 4), wrote(true, 1), wrote(true, 2), wrote(false, 2, 6), wrote(true, 6), wrote(true, 1, 6))
	wantSpoilings(t,
		spoiling{"those that stand the other way round", true, func(v *impl.Server) {
			v.Done[2], v.Done[6] = v.Done[6], v.Done[2]
			v.Done[2].Since = 0
		}},
		spoiling{"those that stand the other way round, and nobody wrote", false, func(v *impl.Server) {
			v.Done[2], v.Done[6] = v.Done[6], v.Done[2]
			v.Done[2].Since, v.Done[6].Wrote = 0, false
		}},
		spoiling{"another Since", true, func(v *impl.Server) { v.Done[4].Since, v.Done[6].Since, v.Done[2].Since = 3, 6, 2 }},
		spoiling{"other ids", true, func(v *impl.Server) { v.Done[4].Id, v.Done[6].Id, v.Next = 60, 59, 61 }})
}

func TestRequestsInSerialOrder(t *testing.T) {
	ask := func(at int, text string, want bool) spoiling {
		return spoiling{fmt.Sprintf("%q at %d", text, at), want, func(v *impl.Server) { v.Done[at].Request = readRequest(t, text) }}
	}
	wantSpoilings(t,
		ask(6, "{ size }", false), ask(6, "{ node(id: 1) { value next { id } } }", true), ask(6, "n=1 | { node(id: $n) { value next { id } } }", true), ask(6, "n=2 | { node(id: $n) { value next { id } } }", false),
		ask(0, "mutation { set(id: 1 value: 6) { id } }", false), ask(0, "mutation { __typename }", false), ask(0, "mutation { set(id: 1 value: 5) { id } a: set(id: 3 value: 1) @skip(if: true) { id } }", true),
		ask(4, "{ a: node(id: 1) { value } b: node(id: 2) { value } ... { a: node(id: 1) { value } } }", true), ask(4, "{ b: node(id: 2) { value } a: node(id: 1) { value } }", false), ask(4, "mutation { a: set(id: 1 value: 5) { value } b: set(id: 2 value: 0) { value } }", true),
		// What it writes besides is read by those behind it, or is left.
		ask(4, "mutation { a: set(id: 1 value: 5) { value } b: set(id: 2 value: 0) { value } c: set(id: 6 value: 1) @skip(if: false) { id } }", false))
	gone := func(want bool, some ...int) spoiling {
		return spoiling{fmt.Sprint("none at ", some), want, func(v *impl.Server) {
			for _, at := range some {
				v.Done = slices.Delete(v.Done, at, at+1)
			}
			for i := range v.Done {
				v.Done[i].Since = 0
			}
			v.Live[0].Since = 0
		}}
	}
	wantSpoilings(t, gone(true, 3), gone(true, 5), gone(true, 5, 3), gone(true, 6), gone(true, 4), gone(true, 6, 5, 4, 3), gone(false, 0), gone(false, 1), gone(false, 2), gone(false, 6, 5, 4, 3, 2), gone(false, 6, 5, 4, 3, 2, 1, 0),
		spoiling{"one more that reads", true, func(v *impl.Server) {
			v.Done = append(v.Done, doneOf(t, 20, 0, 2, false, "{ size }", `{"data":{"size":8}}`))
			v.Next = 21
		}},
		spoiling{"one more that writes what is there", true, func(v *impl.Server) {
			v.Next = 21
			v.Done = append(v.Done, doneOf(t, 20, 0, 3, true, "mutation { set(id: 1 value: 16) { id } }", `{"data":{"set":{"id":1}}}`))
		}},
		spoiling{"one more that writes another thing", false, func(v *impl.Server) {
			v.Next = 21
			v.Done = append(v.Done, doneOf(t, 20, 0, 3, true, "mutation { set(id: 1 value: 17) { id } }", `{"data":{"set":{"id":1}}}`))
		}},
		spoiling{"one more that writes a thing once", false, func(v *impl.Server) {
			v.Next = 21
			v.Done = append(v.Done, doneOf(t, 20, 0, 3, true, "mutation { set(id: 5 value: 1) { id } }", `{"data":{"set":{"id":5}}}`))
		}})
}

// The store counts by what it tells now alone.
func TestStoresInSerialOrder(t *testing.T) {
	set := func(what string, want bool, make func(s *impl.Store)) spoiling {
		return spoiling{what, want, func(v *impl.Server) { make(&v.Store) }}
	}
	var list []spoiling
	for key := range 16 {
		list = append(list, set(fmt.Sprint("one more of key ", key), false, func(s *impl.Store) {
			s.Now++
			s.Chains[key] = append(s.Chains[key], impl.Version{Ts: s.Now, Value: 7})
		}), set(fmt.Sprint("none of key ", key), !slices.Contains([]int{2, 4, 5}, key), func(s *impl.Store) { s.Chains[key] = nil }))
	}
	for _, c := range list {
		// Without the one that is live: it read what is no longer there.
		change := c.make
		c.make = func(v *impl.Server) {
			v.Live = nil
			change(v)
		}
		wantSpoilings(t, c)
	}
	wantSpoilings(t,
		set("an hour more", true, func(s *impl.Store) { s.Now++ }), set("the last hour", true, func(s *impl.Store) { s.Now = impl.MaxTime }),
		set("what is there is written again", true, func(s *impl.Store) {
			s.Now++
			s.Chains[2] = append(s.Chains[2], impl.Version{Ts: s.Now, Value: 16})
		}),
		set("nothing is written", true, func(s *impl.Store) { s.Chains[9] = []impl.Version{{Ts: 1}, {Ts: 3}} }),
		set("an elder version is another one", true, func(s *impl.Store) { s.Chains[2][0].Value = 99 }), set("an elder version is gone", true, func(s *impl.Store) { s.Chains[2] = s.Chains[2][1:] }), set("elder versions are gone", true, func(s *impl.Store) { s.Chains[2] = s.Chains[2][2:] }),
		set("the last version is another one", false, func(s *impl.Store) { s.Chains[2][2].Value = 17 }), set("the last version is gone", false, func(s *impl.Store) { s.Chains[2] = s.Chains[2][:2] }),
		set("a link is another one", false, func(s *impl.Store) { s.Chains[5][0].Value = 3 }))
}

// Without anybody who was committed there is nothing that may have been written.
func TestSerialOrderOfNone(t *testing.T) {
	for _, s := range rightStores() {
		empty := impl.NewStore()
		want, _ := impl.SameAt(s, empty)
		for _, done := range [][]impl.Done{nil, {}, {failedOf(1, 0, impl.ErrForm)}, {failedOf(3, 0, impl.ErrSpent), failedOf(1, 1, impl.ErrCancelled), failedOf(2, 0, impl.ErrField)}, {doneOf(t, 5, 0, s.Now, false, "{ size }", `{"data":{"size":8}}`)}, {doneOf(t, 5, 0, 0, true, "mutation { __typename }", `{"data":{"__typename":"Mutation"}}`)}} {
			wantSerial(t, "a server without who wrote", impl.Server{Store: s, Done: done, Next: 9}, want)
		}
	}
	wantSerial(t, "a store of zeros", impl.Server{Store: storeAt(9, map[int][]impl.Version{3: {{Ts: 2}}, 4: {{Ts: 1, Value: 5}, {Ts: 9}}}), Next: 1}, true)
	wantSerial(t, "a store of a number", impl.Server{Store: storeAt(9, map[int][]impl.Version{3: {{Ts: 2}}, 4: {{Ts: 1}, {Ts: 9, Value: 5}}}), Next: 1}, false)
}

// As many as there may be: all write, all read, or some have a code.
func TestSerialOrderOfMany(t *testing.T) {
	for _, texts := range [][]string{{"mutation { add(id: 1 by: 1) { value } }"}, {"{ node(id: 1) { value } }"}, {"mutation { set(id: 1 value: 3) { id } }", "{ nothing }", "{ node(id: 1) { value } }"}} {
		v := impl.NewServer()
		for i := range impl.MaxDone {
			v = moved(t, v, move{kind: 'a', text: texts[i%len(texts)]})
			if len(v.Live) == 4 || i == 59 {
				for len(v.Live) > 0 {
					v = moved(t, v, move{kind: 's', id: v.Live[len(v.Live)-1].Id})
				}
			}
			wantSerial(t, fmt.Sprint("a server of ", i+1), v, true)
		}
		if len(v.Done) != 60 {
			t.Error("not all are done", len(v.Done))
		}
		for _, at := range []int{0, 29, 57, 59} {
			if x := tidyServer(v); x.Done[at].Code == impl.OK {
				x.Done[at].Text = "{}"
				wantSerial(t, fmt.Sprint("another text at ", at), x, false)
			}
		}
	}
}

func TestSerialOrderOfServersThatAreNotRight(t *testing.T) {
	wantNoSerial(t, "nothing", impl.Server{})
	for _, s := range wrongStores() {
		wantNoSerial(t, "a wrong store", impl.Server{Store: s, Next: 1})
	}
	right := 0
	for _, v := range serversForCalls(t) {
		if impl.ServerOK(v) {
			right++
			continue
		}
		wantNoSerial(t, serverTold(v), v)
	}
	if right < 20 {
		t.Error("what is right is not of use", right)
	}
	for _, c := range []change{
		{"an hour that is beyond Now", func(v *impl.Server) { v.Done[0].Ts = 4 }}, {"an hour below 0", func(v *impl.Server) { v.Done[0].Ts = -1 }}, {"no code", func(v *impl.Server) { v.Done[3].Code = 20 }},
		{"a Since beyond its place", func(v *impl.Server) { v.Done[2].Since = 3 }}, {"an answer that is too long", func(v *impl.Server) { v.Done[6].Text = strings.Repeat("x", 1000001) }}, {"another text of a code", func(v *impl.Server) { v.Done[3].Text = "" }},
		{"a request that cannot be run", func(v *impl.Server) { v.Done[6].Request.Vars = manyBindings(9) }}, {"an endless request", func(v *impl.Server) { v.Done[6].Request = request(endlessDocs()[0]) }}, {"no Next", func(v *impl.Server) { v.Next = 8 }},
		{"one that is live and needs nothing", func(v *impl.Server) { v.Live[0].Job.Log = []int{1, 0, 16} }}, {"one that is live and read another thing", func(v *impl.Server) { v.Live[0].Job.Log[0]++ }}, {"61", func(v *impl.Server) { v.Done = crowded(t, 0, 61).Done }},
	} {
		v := tidyServer(historyServer(t))
		c.make(&v)
		wantBadServer(t, c.what, v)
		wantNoSerial(t, c.what, v)
	}
}
