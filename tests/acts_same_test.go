package tests

import (
	"fmt"
	"math/rand"
	"reflect"
	"slices"
	"testing"

	"loop.example/g00540/impl"
)

// variants are busy servers that are right; each has one thing that is another one than all others have.
func variants(t *testing.T) (list []change) {
	t.Helper()
	add := func(what string, make func(v *impl.Server)) { list = append(list, change{what, make}) }
	add("as it is", func(v *impl.Server) {})
	add("Next", func(v *impl.Server) { v.Next = 21 })
	add("Next at its end", func(v *impl.Server) { v.Next = 1000000 })
	add("Now", func(v *impl.Server) { v.Store.Now++ })
	add("Now at its end", func(v *impl.Server) { v.Store.Now = impl.MaxTime })
	for key := range 16 {
		add(fmt.Sprint("a version more of key ", key), func(v *impl.Server) {
			v.Store.Chains[key] = append(slices.Clip(v.Store.Chains[key]), impl.Version{Ts: 10, Value: 1})
			v.Store.Now = 10
		})
	}
	add("a version's value", func(v *impl.Server) { v.Store.Chains[14] = []impl.Version{{Ts: 9, Value: 1}} })
	add("a version's hour", func(v *impl.Server) {
		chain := slices.Clone(v.Store.Chains[14])
		chain[0].Ts--
		v.Store.Chains[14] = chain
	})
	add("a version less", func(v *impl.Server) { v.Store.Chains[14] = nil })
	add("a version of 0 more", func(v *impl.Server) { v.Store.Chains[15] = []impl.Version{{Ts: 3}} })
	for at := range 3 {
		live := func(what string, make func(l *impl.Live)) {
			add(fmt.Sprintf("%s of the live one at %d", what, at), func(v *impl.Server) { make(&v.Live[at]) })
		}
		live("Id", func(l *impl.Live) { l.Id = 4 })
		live("Tries", func(l *impl.Live) { l.Tries = (l.Tries + 1) % 3 })
		live("Since", func(l *impl.Live) { l.Since = 3 })
		live("a name", func(l *impl.Live) { l.Job.Doc.Defs[0].Name = "other" })
		live("an alias", func(l *impl.Live) { l.Job.Doc.Defs[0].Sels[0].Alias = "other" })
		live("an alias within", func(l *impl.Live) { l.Job.Doc.Defs[0].Sels[0].Sels[0].Alias = "other" })
		live("a directive", func(l *impl.Live) {
			l.Job.Doc.Defs[0].Sels[0].Dirs = []impl.Dir{{Skip: true, If: no}}
		})
		live("another directive", func(l *impl.Live) {
			l.Job.Doc.Defs[0].Sels[0].Dirs = []impl.Dir{{If: yes}}
		})
		live("a selection more", func(l *impl.Live) {
			l.Job.Doc.Defs[0].Sels = append(l.Job.Doc.Defs[0].Sels, field("__typename"))
		})
		live("a definition more", func(l *impl.Live) {
			l.Job.Doc.Defs = append(l.Job.Doc.Defs, fragment("f", "Node", field("id")))
		})
		live("a binding more", func(l *impl.Live) { l.Job.Vars = append(slices.Clip(l.Job.Vars), binding("other", no)) })
		live("another binding more", func(l *impl.Live) { l.Job.Vars = append(slices.Clip(l.Job.Vars), binding("other", yes)) })
		live("no log", func(l *impl.Live) {
			l.Job.Log = nil
			l.Job.Vars = append(slices.Clip(l.Job.Vars), binding("nolog", yes))
		})
	}
	add("a shorter log", func(v *impl.Server) { v.Live[0].Job.Log = v.Live[0].Job.Log[:2] })
	add("no log", func(v *impl.Server) { v.Live[0].Job.Log = nil })
	add("no log of another one", func(v *impl.Server) { v.Live[1].Job.Log = nil })
	add("a longer log", func(v *impl.Server) {
		v.Live[2] = liveOf(t, v.Store, 19, 1, 5, "{ node(id: 2) { next { value } } }", 4, 1)
	})
	add("Start", func(v *impl.Server) { v.Live[2].Job.Start = 3 })
	add("Start at its end", func(v *impl.Server) { v.Live[2].Job.Start = 0 })
	add("a binding's value", func(v *impl.Server) { v.Live[1].Job.Vars[1].Value = no })
	add("the bindings the other way round", func(v *impl.Server) { slices.Reverse(v.Live[1].Job.Vars) })
	add("an argument", func(v *impl.Server) { v.Live[2].Job.Doc.Defs[0].Sels[0].Args[0].Value.N = 3 })
	add("an argument that is a variable", func(v *impl.Server) {
		v.Live[1].Job.Doc.Defs[0].Sels[0].Args[1].Value = impl.Value{Kind: impl.VaVar, T: "x"}
	})
	add("the arguments the other way round", func(v *impl.Server) { slices.Reverse(v.Live[1].Job.Doc.Defs[0].Sels[0].Args) })
	add("those that are live the other way round", func(v *impl.Server) { slices.Reverse(v.Live) })
	add("two that are live the other way round", func(v *impl.Server) { v.Live[0], v.Live[1] = v.Live[1], v.Live[0] })
	add("one less at the end", func(v *impl.Server) { v.Live = v.Live[:2] })
	add("one less at the beginning", func(v *impl.Server) { v.Live = v.Live[1:] })
	add("nobody that is live", func(v *impl.Server) { v.Live = nil })
	add("one more that is live", func(v *impl.Server) { v.Live = append(v.Live, liveOf(t, v.Store, 4, 0, 0, readsOne, 9, 0)) })
	for at := range 5 {
		done := func(what string, make func(d *impl.Done)) {
			add(fmt.Sprintf("%s of the done one at %d", what, at), func(v *impl.Server) { make(&v.Done[at]) })
		}
		done("Id", func(d *impl.Done) { d.Id = 8 })
		done("another code", func(d *impl.Done) { *d = failedOf(d.Id, d.Since, impl.ErrMerge) })
		done("another request", func(d *impl.Done) { *d = impl.Done{Id: d.Id, Since: d.Since, Request: request(sizeDoc)} })
		done("a name", func(d *impl.Done) {
			*d = impl.Done{Id: d.Id, Since: d.Since, Request: request(docOf(impl.Def{Kind: impl.DeQuery, Name: "q", Sels: []impl.Sel{field("size")}}))}
		})
		done("bindings", func(d *impl.Done) {
			*d = impl.Done{Id: d.Id, Since: d.Since, Request: request(sizeDoc, binding("x", yes))}
		})
		done("another binding", func(d *impl.Done) {
			*d = impl.Done{Id: d.Id, Since: d.Since, Request: request(sizeDoc, binding("x", no))}
		})
		done("another name of a binding", func(d *impl.Done) {
			*d = impl.Done{Id: d.Id, Since: d.Since, Request: request(sizeDoc, binding("y", no))}
		})
		done("Ts", func(d *impl.Done) { *d = impl.Done{Id: d.Id, Since: d.Since, Ts: 1, Request: request(sizeDoc)} })
		done("Wrote", func(d *impl.Done) {
			*d = impl.Done{Id: d.Id, Since: d.Since, Wrote: true, Request: request(sizeDoc)}
		})
		done("Text", func(d *impl.Done) {
			*d = impl.Done{Id: d.Id, Since: d.Since, Request: request(sizeDoc), Text: "x"}
		})
		done("another Text", func(d *impl.Done) {
			*d = impl.Done{Id: d.Id, Since: d.Since, Request: request(sizeDoc), Text: "y"}
		})
	}
	for at := 1; at < 5; at++ {
		add(fmt.Sprint("Since of the done one at ", at), func(v *impl.Server) { v.Done[at].Since = (v.Done[at].Since + 1) % (at + 1) })
	}
	add("Ts of who wrote", func(v *impl.Server) { v.Done[2].Ts = 8 })
	add("a text and a byte", func(v *impl.Server) { v.Done[2].Text += "\x00" })
	add("two that are done the other way round", func(v *impl.Server) {
		v.Done[2].Since, v.Done[4].Since = 0, 0
		v.Done[2], v.Done[4] = v.Done[4], v.Done[2]
	})
	add("one less that is done", func(v *impl.Server) {
		v.Done = v.Done[:4]
		v.Live[2].Since = 4
	})
	add("one more that is done", func(v *impl.Server) { v.Done = append(v.Done, failedOf(8, 0, impl.ErrForm)) })
	return list
}

func wantSame(t *testing.T, what string, a, b impl.Server, want bool) {
	t.Helper()
	if impl.SameServer(a, b) != want || impl.SameServer(b, a) != want {
		t.Errorf("SameServer of %s = %v, %v, want %v:\n%s\n%s", what, impl.SameServer(a, b), impl.SameServer(b, a), want, serverTold(a), serverTold(b))
	}
}

// Those that differ from a busy server in one thing, held against it, themselves, and some that differ from them in two.
func TestSameServer(t *testing.T) {
	list := variants(t)
	var all, again []impl.Server
	for _, c := range list {
		v := c.of(t)
		wantRightServer(t, c.what, v)
		all, again = append(all, v), append(again, serverCall{v: c.of(t)}.roomy().v)
	}
	for i, a := range all {
		for k, b := range again[i:] {
			if i > 0 && k > 12 {
				break
			}
			what := list[i].what + " and " + list[i+k].what
			if reflect.DeepEqual(tidyServer(a), tidyServer(b)) != (k == 0) {
				t.Fatalf("%q are of no use", what)
			}
			wantSame(t, what, a, b, k == 0)
		}
	}
}

// New ones, and those that differ in few things, by hand.
func TestSameServerByHand(t *testing.T) {
	v := impl.NewServer()
	wantSame(t, "new ones", v, impl.NewServer(), true)
	for _, x := range []impl.Server{busyServer(t), {Store: impl.NewStore(), Next: 2}, {Store: storeAt(1, nil), Next: 1}, {Store: storeWith(1, 2, chain(1)...), Next: 1}, {Store: impl.NewStore(), Next: 2, Done: []impl.Done{failedOf(1, 0, impl.ErrForm)}}} {
		wantSame(t, "a new one and another one", v, x, false)
		wantSame(t, "a server and itself", x, x, true)
	}
	wantSame(t, "empty lists", v, impl.Server{Store: impl.Store{Chains: slices.Repeat([][]impl.Version{{}}, 16)}, Live: []impl.Live{}, Done: []impl.Done{}, Next: 1}, true)
	a := impl.Server{Store: impl.NewStore(), Next: 2, Done: []impl.Done{failedOf(1, 0, impl.ErrForm)}}
	b := tidyServer(a)
	b.Done[0].Request = impl.Request{Doc: impl.Doc{Defs: []impl.Def{}}, Vars: []impl.Binding{}}
	wantSame(t, "empty requests", a, b, true)
	wantSame(t, "other codes", a, impl.Server{Store: impl.NewStore(), Next: 2, Done: []impl.Done{failedOf(1, 0, impl.ErrDeep)}}, false)
	// What a request tells alike is another one if it is written otherwise.
	c := played(t, impl.NewServer(), []string{"x=1 | { node(id: $x) { value } }"})
	wantSame(t, "a variable", c, played(t, impl.NewServer(), []string{"{ node(id: 1) { value } }"}), false)
	wantSame(t, "blanks", c, played(t, impl.NewServer(), []string{" x=1|{node(id:$x){value}}#"}), true)
	// What is forgotten is missed.
	d := played(t, impl.NewServer(), []string{asksSet, asksSet})
	wantSame(t, "one that forgot", d, first(actByCalls(d, ticks())), false)
	wantSame(t, "one that had nothing to forget", c, first(actByCalls(c, ticks())), true)
	wantSame(t, "great ones", crowded(t, 4, 56), crowded(t, 4, 56), true)
	wantSame(t, "great ones", crowded(t, 4, 56), crowded(t, 4, 55), false)
}

// What is not right is the same as nothing, itself neither.
func TestSameServerOfWhatIsNotRight(t *testing.T) {
	wrong := 0
	busy := busyServer(t)
	servers := serversForCalls(t)
	for _, s := range wrongStores() {
		servers = append(servers, impl.Server{Store: s, Next: 1})
	}
	for _, d := range endlessDocs() {
		v, w := busyServer(t), busyServer(t)
		v.Done[0].Request.Doc, w.Live[0].Job.Doc = d, d
		servers = append(servers, v, w)
	}
	for _, v := range servers {
		right := impl.ServerOK(v)
		if !right {
			wrong++
		}
		wantSame(t, "a server and itself", v, v, right)
		if !right {
			wantSame(t, "one that is not right and a right one", v, busy, false)
			wantSame(t, "one that is not right and nothing", v, impl.Server{}, false)
		}
	}
	if wrong < 50 {
		t.Error("servers are of no use", wrong)
	}
	for _, c := range []change{
		{"Next", func(v *impl.Server) { v.Next = 19 }}, {"Now", func(v *impl.Server) { v.Store.Now = 8 }}, {"a log", func(v *impl.Server) { v.Live[0].Job.Log[2]++ }}, {"a text of a code", func(v *impl.Server) { v.Done[1].Text = "" }},
		{"Tries", func(v *impl.Server) { v.Live[0].Tries = 3 }}, {"an hour", func(v *impl.Server) { v.Done[0].Ts = 10 }}, {"a selection", func(v *impl.Server) { v.Live[0].Job.Doc.Defs[0].Sels[0].Name = "" }},
	} {
		wantSame(t, c.what, c.of(t), c.of(t), false)
		wantSame(t, c.what, c.of(t), busy, false)
	}
}

// Random servers that are spoiled, right or not, held against the sentences.
func TestRandomSameServers(t *testing.T) {
	random := rand.New(rand.NewSource(151))
	came := map[string]int{}
	for range 60 {
		v := impl.NewServer()
		for range 20 {
			v, _, _ = impl.Arrive(v, randomAsk(t, random))
			if len(v.Live) > 0 {
				v, _ = impl.StepOne(v, pick(random, v.Live...).Id)
			}
		}
		for range 20 {
			a, b := tidyServer(v), tidyServer(v)
			for _, x := range []*impl.Server{&a, &b} {
				if random.Intn(2) == 0 {
					spoilServer(random, x)
				}
			}
			right := serverToldRight(a) && serverToldRight(b)
			alike := reflect.DeepEqual(tidyServer(a), tidyServer(b))
			came[fmt.Sprint(right, alike)]++
			wantSame(t, "random servers", a, b, right && alike)
		}
	}
	for _, word := range []string{"true true", "true false", "false false"} {
		if came[word] < 50 {
			t.Error("what is random is of no use", came)
		}
	}
}
