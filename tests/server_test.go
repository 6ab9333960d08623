package tests

import (
	"fmt"
	"reflect"
	"slices"
	"strings"
	"testing"

	"loop.example/g00540/impl"
)

// readRequest is of a text that is known to be right.
func readRequest(t *testing.T, text string) impl.Request {
	t.Helper()
	q, code := impl.ReadRequest(text)
	if code != impl.OK {
		t.Fatalf("ReadRequest(%.120q) = %d", text, code)
	}
	return q
}

// liveOf is one that read, so far, so many things of what the store told at its start.
func liveOf(t *testing.T, s impl.Store, id, tries, since int, text string, start, came int) impl.Live {
	t.Helper()
	q := readRequest(t, text)
	_, log, code := impl.Atomic(s, start, q.Doc, q.Vars)
	if code != impl.OK || came >= len(log) {
		t.Fatalf("%q does not read so many things: %v, %d", text, log, code)
	}
	return impl.Live{Id: id, Tries: tries, Since: since, Job: impl.Job{Doc: q.Doc, Vars: q.Vars, Start: start, Log: log[:came]}}
}

func doneOf(t *testing.T, id, since, ts int, wrote bool, text, answer string) impl.Done {
	t.Helper()
	return impl.Done{Id: id, Ts: ts, Since: since, Wrote: wrote, Request: readRequest(t, text), Text: answer}
}

func failedOf(id, since, code int) impl.Done {
	return impl.Done{Id: id, Code: code, Since: since, Text: `{"error":"` + words[code] + `"}`}
}

// busyServer has some of all sorts. Nobody has the ids 4 and 8.
func busyServer(t *testing.T) impl.Server {
	t.Helper()
	s := plainStore()
	return impl.Server{
		Store: s,
		Live: []impl.Live{
			liveOf(t, s, 12, 0, 2, "{ nodes { value } }", 2, 3),
			liveOf(t, s, 3, 2, 0, "x=2 b=true | mutation { add(id: $x by: 1) { value next { value } } }", 9, 1),
			liveOf(t, s, 19, 1, 5, "{ node(id: 2) { next { value } } }", 4, 0),
		},
		Done: []impl.Done{
			doneOf(t, 7, 0, 4, false, "x=1 | { node(id: $x) { value } }", `{"data":{"node":{"value":10}}}`),
			failedOf(2, 1, impl.ErrSpent),
			doneOf(t, 1, 0, 9, true, "mutation { link(id: 0 to: 7) { id } }", `{"data":{"link":{"id":0}}}`),
			failedOf(9, 3, impl.ErrForm),
			doneOf(t, 18, 2, 0, false, "{ size }", `{"data":{"size":8}}`),
		},
		Next: 20,
	}
}

// A change is one of a busy server, which is right with it or not.
type change struct {
	what string
	make func(v *impl.Server)
}

func (c change) of(t *testing.T) impl.Server {
	t.Helper()
	v := busyServer(t)
	c.make(&v)
	return v
}

func wantChanges(t *testing.T, want bool, list ...change) {
	t.Helper()
	for _, c := range list {
		if want {
			wantRightServer(t, c.what, c.of(t))
		} else {
			wantBadServer(t, c.what, c.of(t))
		}
	}
}

// each is a change for each of the numbers.
func each(what string, set func(v *impl.Server, n int), numbers ...int) (list []change) {
	for _, n := range numbers {
		list = append(list, change{fmt.Sprintf("%s %d", what, n), func(v *impl.Server) { set(v, n) }})
	}
	return list
}

func isZeroServer(v impl.Server) bool {
	return v.Store.Now == 0 && v.Next == 0 && len(v.Store.Chains)+len(v.Live)+len(v.Done) == 0
}

// tidyServer has nil for empty lists, so that DeepEqual holds servers against each other.
func tidyServer(v impl.Server) impl.Server {
	own := impl.Server{Store: tidyStore(v.Store), Next: v.Next}
	for _, l := range v.Live {
		l.Job = tidyJob(l.Job)
		own.Live = append(own.Live, l)
	}
	for _, d := range v.Done {
		d.Request = tidyRequest(d.Request)
		own.Done = append(own.Done, d)
	}
	return own
}

// serverTold is a server in some lines.
func serverTold(v impl.Server) string {
	text := fmt.Sprintf("now %d next %d chains %s\n", v.Store.Now, v.Next, brief(v.Store.Chains))
	for _, l := range v.Live {
		text += fmt.Sprintf("live %d tries %d since %d start %d log %.60s\n", l.Id, l.Tries, l.Since, l.Job.Start, fmt.Sprint(l.Job.Log))
	}
	for _, d := range v.Done {
		text += fmt.Sprintf("done %d code %d ts %d since %d wrote %v %.100q\n", d.Id, d.Code, d.Ts, d.Since, d.Wrote, d.Text)
	}
	return text
}

// wantServer fails unless the servers are alike in all.
func wantServer(t *testing.T, what string, got, want impl.Server) {
	t.Helper()
	if !reflect.DeepEqual(tidyServer(got), tidyServer(want)) {
		t.Errorf("%s =\n%swant\n%s", what, serverTold(got), serverTold(want))
	}
}

// wantRightServer fails unless each call of chapter 13 takes the server, and leaves one that is right.
func wantRightServer(t *testing.T, what string, v impl.Server) {
	t.Helper()
	if !impl.ServerOK(v) {
		t.Errorf("ServerOK of %s = false", what)
	}
	_, _, arrived := impl.Arrive(v, "{ size }")
	_, stepped := impl.StepOne(v, 0)
	_, cancelled := impl.CancelOne(v, 0)
	_, answered := impl.AnswerTo(v, 0)
	_, listed := impl.LiveIds(v)
	_, low := impl.Watermark(v)
	rest, _, ticked := impl.Tick(v)
	if arrived == impl.ErrBad || stepped != impl.ErrNone || cancelled != impl.ErrNone || answered != impl.ErrNone || listed != impl.OK || low != impl.OK || ticked != impl.OK || !impl.ServerOK(rest) {
		t.Errorf("calls of %s = %d, %d, %d, %d, %d, %d, %d", what, arrived, stepped, cancelled, answered, listed, low, ticked)
	}
}

// wantBadServer fails unless each call of chapter 13 says that the server is not right, whatever else
// could be told of it.
func wantBadServer(t *testing.T, what string, v impl.Server) {
	t.Helper()
	if impl.ServerOK(v) {
		t.Errorf("ServerOK of %s = true", what)
	}
	for _, text := range []string{"{ size }", "{", "{ node(id: 1) { value } }"} {
		if x, id, code := impl.Arrive(v, text); !isZeroServer(x) || id != 0 || code != impl.ErrBad {
			t.Errorf("Arrive at %s = %s, %d, %d", what, brief(x), id, code)
		}
	}
	for _, id := range []int{12, 7, 4, 0} {
		if x, code := impl.StepOne(v, id); !isZeroServer(x) || code != impl.ErrBad {
			t.Errorf("StepOne %d of %s = %s, %d", id, what, brief(x), code)
		}
		if x, code := impl.CancelOne(v, id); !isZeroServer(x) || code != impl.ErrBad {
			t.Errorf("CancelOne %d of %s = %s, %d", id, what, brief(x), code)
		}
		if text, code := impl.AnswerTo(v, id); text != "" || code != impl.ErrBad {
			t.Errorf("AnswerTo %d of %s = %.60q, %d", id, what, text, code)
		}
	}
	if x, gone, code := impl.Tick(v); !isZeroServer(x) || gone != 0 || code != impl.ErrBad {
		t.Errorf("Tick of %s = %s, %d, %d", what, brief(x), gone, code)
	}
	if ids, code := impl.LiveIds(v); len(ids) > 0 || code != impl.ErrBad {
		t.Errorf("LiveIds of %s = %v, %d", what, ids, code)
	}
	if low, code := impl.Watermark(v); low != 0 || code != impl.ErrBad {
		t.Errorf("Watermark of %s = %d, %d", what, low, code)
	}
}

func TestConstantsOfServers(t *testing.T) {
	if impl.MaxLive != 4 || impl.MaxTries != 3 || impl.MaxDone != 60 {
		t.Error("limits", impl.MaxLive, impl.MaxTries, impl.MaxDone)
	}
}

func TestNewServer(t *testing.T) {
	v, other := impl.NewServer(), impl.NewServer()
	wantServer(t, "NewServer", v, impl.Server{Store: impl.NewStore(), Next: 1})
	wantRightServer(t, "NewServer", v)
	wantOwnMemory(t, "NewServer", v, other)
	v.Store.Chains[3] = chain(1)
	if len(impl.NewServer().Store.Chains[3]) != 0 || len(other.Store.Chains[3]) != 0 {
		t.Error("NewServer hangs on what was made of an earlier one")
	}
}

func TestServersThatAreRight(t *testing.T) {
	wantRightServer(t, "a busy server", busyServer(t))
	for _, s := range rightStores() {
		wantRightServer(t, "a server of a right store", impl.Server{Store: s, Next: 1})
		wantRightServer(t, "a server of a right store", impl.Server{Store: s, Next: 7, Done: []impl.Done{failedOf(1, 0, impl.ErrForm), doneOf(t, 6, 0, s.Now, false, "{ size }", "")}})
	}
	wantChanges(t, true,
		change{"nobody that is live", func(v *impl.Server) { v.Live = nil }},
		change{"nobody that is done", func(v *impl.Server) {
			v.Done = nil
			for i := range v.Live {
				v.Live[i].Since = 0
			}
		}},
		change{"empty lists", func(v *impl.Server) { v.Live, v.Done = []impl.Live{}, []impl.Done{} }},
		change{"those that are live the other way round", func(v *impl.Server) { slices.Reverse(v.Live) }})
}

func TestServersOfStoresThatAreNotRight(t *testing.T) {
	for _, s := range wrongStores() {
		wantBadServer(t, "a server of a wrong store", impl.Server{Store: s, Next: 1})
		v := busyServer(t)
		v.Store = s
		wantBadServer(t, "a busy server of a wrong store", v)
	}
	wantBadServer(t, "nothing", impl.Server{})
	wantBadServer(t, "nothing but Next", impl.Server{Next: 1})
}

func TestNextOfServers(t *testing.T) {
	next := func(v *impl.Server, n int) { v.Next = n }
	wantChanges(t, true, each("Next", next, 20, 21, 1000, 999999, 1000000)...)
	wantChanges(t, false, each("Next", next, 19, 18, 13, 1, 0, -1, 1000001, hugeInt, tinyInt)...)
	for _, n := range []int{1, 2, 60, 999999, 1000000} {
		wantRightServer(t, fmt.Sprint("an empty server, Next ", n), impl.Server{Store: plainStore(), Next: n})
	}
	for _, n := range []int{0, -1, 1000001, hugeInt, tinyInt} {
		wantBadServer(t, fmt.Sprint("an empty server, Next ", n), impl.Server{Store: plainStore(), Next: n})
	}
}

func TestIdsOfServers(t *testing.T) {
	for i := range 3 {
		id := func(v *impl.Server, n int) { v.Live[i].Id = n }
		wantChanges(t, true, each("live id", id, 4, 5, 8, 16, busyServer(t).Live[i].Id)...)
		wantChanges(t, false, each("live id", id, 0, -1, 20, 21, hugeInt, tinyInt)...)
		// The ids of others, live and done.
		for _, n := range []int{12, 3, 19} {
			if n != busyServer(t).Live[i].Id {
				wantChanges(t, false, each("live id", id, n)...)
			}
		}
		wantChanges(t, false, each("live id", id, 7, 2, 1, 9, 18)...)
	}
	for i := range 5 {
		id := func(v *impl.Server, n int) { v.Done[i].Id = n }
		wantChanges(t, true, each("done id", id, 4, 8, 16, busyServer(t).Done[i].Id)...)
		wantChanges(t, false, each("done id", id, 0, -1, 20, 21, hugeInt, tinyInt, 12, 3, 19)...)
		for _, n := range []int{7, 2, 1, 9, 18} {
			if n != busyServer(t).Done[i].Id {
				wantChanges(t, false, each("done id", id, n)...)
			}
		}
	}
	// The least one and the greatest one.
	wantChanges(t, true,
		change{"ids at the ends", func(v *impl.Server) { v.Live[0].Id, v.Done[2].Id = 1, 12 }},
		change{"ids at the ends", func(v *impl.Server) { v.Next, v.Live[0].Id, v.Done[0].Id = 1000000, 999999, 999998 }})
	wantChanges(t, false,
		change{"an id of Next", func(v *impl.Server) { v.Next, v.Live[0].Id = 1000000, 1000000 }},
		change{"an id of Next", func(v *impl.Server) { v.Next, v.Done[4].Id = 1000000, 1000000 }})
}

// crowded has so many of each sort.
func crowded(t *testing.T, live, done int) impl.Server {
	t.Helper()
	s := plainStore()
	v := impl.Server{Store: s, Next: live + done + 1}
	l := liveOf(t, s, 0, 0, 0, "{ node(id: 2) { next { value } } }", 4, 1)
	d := doneOf(t, 0, 0, 9, true, "mutation { set(id: 1 value: 1) { id } }", `{"data":{"set":{"id":1}}}`)
	for i := range live {
		l.Id = done + 1 + i
		v.Live = append(v.Live, l)
	}
	for i := range done {
		d.Id, d.Since = done-i, i/2
		v.Done = append(v.Done, d)
		if i%3 == 1 {
			v.Done[i] = failedOf(d.Id, d.Since, 1+i%19)
		}
	}
	return v
}

func TestHowManyAServerHas(t *testing.T) {
	for _, n := range [][2]int{{0, 0}, {1, 0}, {3, 0}, {4, 0}, {0, 59}, {0, 60}, {1, 58}, {1, 59}, {2, 58}, {3, 57}, {4, 55}, {4, 56}} {
		wantRightServer(t, fmt.Sprint("a server of ", n), crowded(t, n[0], n[1]))
	}
	for _, n := range [][2]int{{5, 0}, {6, 0}, {5, 1}, {60, 0}, {5, 55}, {0, 61}, {1, 60}, {2, 59}, {3, 58}, {4, 57}, {4, 60}, {5, 56}, {0, 62}, {0, 1000}, {1000, 0}, {0, impl.MaxList + 1}} {
		wantBadServer(t, fmt.Sprint("a server of ", n), crowded(t, n[0], n[1]))
	}
}

func TestTriesAndSinceOfThoseThatAreLive(t *testing.T) {
	for i := range 3 {
		tries := func(v *impl.Server, n int) { v.Live[i].Tries = n }
		wantChanges(t, true, each("tries", tries, 0, 1, 2)...)
		wantChanges(t, false, each("tries", tries, -1, 3, 4, hugeInt, tinyInt)...)
		since := func(v *impl.Server, n int) { v.Live[i].Since = n }
		wantChanges(t, true, each("since", since, 0, 1, 2, 3, 4, 5)...)
		wantChanges(t, false, each("since", since, -1, 6, 7, 20, hugeInt, tinyInt)...)
	}
	wantRightServer(t, "one that came ahead of all", crowded(t, 1, 0))
	v := crowded(t, 1, 0)
	v.Live[0].Since = 1
	wantBadServer(t, "one that came behind nobody", v)
	v = crowded(t, 4, 56)
	v.Live[3].Since = 56
	wantRightServer(t, "one that came behind all", v)
	v.Live[3].Since = 57
	wantBadServer(t, "one that came behind more than all", v)
}

func TestJobsOfThoseThatAreLive(t *testing.T) {
	s := plainStore()
	for i := range 3 {
		set := func(j impl.Job) change {
			return change{"a job of " + brief(j), func(v *impl.Server) { v.Live[i].Job = j }}
		}
		for _, c := range jobCases() {
			for came := range len(c.log) + 1 {
				wantChanges(t, came < len(c.log), set(c.job(t, came)))
			}
			for k, log := range c.wrongLogs() {
				if j := c.job(t, 0); k%5 == i && len(log) < 1000 {
					j.Log = log
					wantChanges(t, false, set(j))
				}
			}
			for _, start := range wrongStarts(s.Now) {
				j := c.job(t, 0)
				j.Start = start
				wantChanges(t, false, set(j))
			}
		}
		for k, d := range runDocs(t) {
			if j := (impl.Job{Doc: d.doc, Vars: runVars(), Start: 9}); k%3 == i {
				wantChanges(t, d.with == impl.OK && d.reads > 0, set(j))
			}
		}
		wantChanges(t, false, set(impl.Job{}), set(impl.Job{Doc: wantDocRead(t, "{ node(id: 1) { value } }"), Vars: manyBindings(9)}), set(impl.Job{Doc: wantDocRead(t, "{ node(id: $x) { value } }")}))
	}
}

func TestHoursAndSinceOfThoseThatAreDone(t *testing.T) {
	for i, right := range busyServer(t).Done {
		since := func(v *impl.Server, n int) { v.Done[i].Since = n }
		for n := range 8 {
			wantChanges(t, n <= i, each(fmt.Sprint("at ", i, " since"), since, n)...)
		}
		wantChanges(t, false, each("since", since, -1, hugeInt, tinyInt)...)
		ts := func(v *impl.Server, n int) { v.Done[i].Ts = n }
		wantChanges(t, false, each("ts", ts, -1, 10, 11, impl.MaxTime, hugeInt, tinyInt)...)
		wantChanges(t, true, each("ts", ts, 0)...)
		wantChanges(t, right.Code == impl.OK, each("ts", ts, 1, 2, 8, 9)...)
	}
}

// With a code there is nothing but its text; without one an answer is any text, and who wrote is not
// worked out again.
func TestCodesOfThoseThatAreDone(t *testing.T) {
	for i, right := range busyServer(t).Done {
		set := func(what string, make func(d *impl.Done)) change {
			return change{what, func(v *impl.Server) { make(&v.Done[i]) }}
		}
		for code := 1; code < len(words); code++ {
			failed := failedOf(right.Id, right.Since, code)
			with := func(what string, make func(d *impl.Done)) change {
				return set(what+" with code "+words[code], func(d *impl.Done) {
					*d = failed
					make(d)
				})
			}
			wantChanges(t, true, with("all right", func(d *impl.Done) {}), with("empty lists", func(d *impl.Done) {
				d.Request = impl.Request{Doc: impl.Doc{Defs: []impl.Def{}}, Vars: []impl.Binding{}}
			}))
			wantChanges(t, false,
				with("an hour", func(d *impl.Done) { d.Ts = 1 }), with("Now", func(d *impl.Done) { d.Ts = 9 }), with("Wrote", func(d *impl.Done) { d.Wrote = true }),
				with("a request", func(d *impl.Done) { d.Request = request(sizeDoc) }), with("bindings", func(d *impl.Done) { d.Request.Vars = runVars() }), with("no definition", func(d *impl.Done) { d.Request.Doc.Defs = make([]impl.Def, 1) }),
				with("no text", func(d *impl.Done) { d.Text = "" }), with("an answer", func(d *impl.Done) { d.Text = `{"data":{"size":8}}` }), with("a word", func(d *impl.Done) { d.Text = words[code] }),
				with("a blank", func(d *impl.Done) { d.Text += " " }), with("a part", func(d *impl.Done) { d.Text = d.Text[:len(d.Text)-1] }), with("another code's text", func(d *impl.Done) { d.Text = failedOf(1, 0, 1+code%19).Text }),
				with("the text of ok", func(d *impl.Done) { d.Text = `{"error":"ok"}` }))
		}
		for _, code := range []int{-1, 20, 21, 100, hugeInt, tinyInt} {
			wantChanges(t, false, set("no code", func(d *impl.Done) { *d = impl.Done{Id: d.Id, Since: d.Since, Code: code} }),
				set("no code", func(d *impl.Done) { *d = impl.Done{Id: d.Id, Since: d.Since, Code: code, Text: `{"error":""}`} }),
				set("no code", func(d *impl.Done) {
					*d = impl.Done{Id: d.Id, Since: d.Since, Code: code, Text: "x", Request: request(sizeDoc)}
				}))
		}
		whole := impl.Done{Id: right.Id, Since: right.Since, Ts: 5, Request: request(sizeDoc), Text: "x"}
		without := func(what string, make func(d *impl.Done)) change {
			return set(what+" without a code", func(d *impl.Done) {
				*d = whole
				make(d)
			})
		}
		wantChanges(t, true,
			without("all right", func(d *impl.Done) {}), without("Wrote", func(d *impl.Done) { d.Wrote = true }), without("Wrote at 0", func(d *impl.Done) { d.Wrote, d.Ts = true, 0 }), without("no text", func(d *impl.Done) { d.Text = "" }),
			without("an error's text", func(d *impl.Done) { d.Text = `{"error":"spent"}` }), without("any bytes", func(d *impl.Done) { d.Text = "\x00\xff" }), without("many bytes", func(d *impl.Done) { d.Text = strings.Repeat("x", impl.MaxText+1) }),
			without("the most bytes", func(d *impl.Done) { d.Text = strings.Repeat("x", 1000000) }), without("one less", func(d *impl.Done) { d.Text = strings.Repeat("x", 999999) }))
		wantChanges(t, false,
			without("a byte too many", func(d *impl.Done) { d.Text = strings.Repeat("x", 1000001) }), without("many too many", func(d *impl.Done) { d.Text = strings.Repeat("x", 3000000) }),
			without("no request", func(d *impl.Done) { d.Request = impl.Request{} }), without("bindings alone", func(d *impl.Done) { d.Request.Doc = impl.Doc{} }))
	}
}

// The request of one that is done without a code can be run; whether it reads is no matter.
func TestRequestsOfThoseThatAreDone(t *testing.T) {
	came := map[bool]int{}
	for k, d := range runDocs(t) {
		for i, v := range varsCases() {
			right := d.codeOf(v) == impl.OK
			came[right]++
			c := change{d.text, func(w *impl.Server) { w.Done[k%5] = impl.Done{Id: 4, Request: request(d.doc, v.vars...)} }}
			if impl.ServerOK(c.of(t)) != right {
				t.Errorf("ServerOK of one that was asked %q = %v", d.text, !right)
			}
			if (k+i)%8 == 0 {
				wantChanges(t, right, c)
			}
		}
	}
	if came[true] < 20 || came[false] < 200 {
		t.Error("what is asked is of no use", came)
	}
	eachWrong(func(what string, d impl.Doc, vars []impl.Binding) {
		for _, c := range []change{
			{what, func(w *impl.Server) { w.Done[4].Request = request(d, vars...) }},
			{what, func(w *impl.Server) { w.Live[2].Job.Doc, w.Live[2].Job.Vars = d, vars }},
		} {
			if impl.ServerOK(c.of(t)) {
				t.Errorf("ServerOK of %s = true", what)
			}
		}
	})
}

// Every call ends, whatever holds itself, and however long lists within are.
func TestEndlessServers(t *testing.T) {
	for _, d := range endlessDocs() {
		wantBadServer(t, "an endless request", change{"", func(v *impl.Server) { v.Done[0].Request.Doc = d }}.of(t))
		wantBadServer(t, "an endless request with a code", change{"", func(v *impl.Server) { v.Done[1].Request.Doc = d }}.of(t))
		wantBadServer(t, "an endless job", change{"", func(v *impl.Server) { v.Live[0].Job.Doc = d }}.of(t))
		v := busyServer(t)
		v.Done = slices.Repeat([]impl.Done{{Id: 4, Request: request(d)}}, 100000)
		wantBadServer(t, "many endless requests", v)
		v = busyServer(t)
		v.Live = slices.Repeat([]impl.Live{{Id: 4, Job: impl.Job{Doc: d}}}, 100000)
		wantBadServer(t, "many endless jobs", v)
	}
	wantBadServer(t, "a log beyond MaxList", change{"", func(v *impl.Server) { v.Live[0].Job.Log = make([]int, 1000000) }}.of(t))
	wantBadServer(t, "bindings beyond MaxList", change{"", func(v *impl.Server) { v.Done[0].Request.Vars = manyBindings(impl.MaxList + 1) }}.of(t))
	wantBadServer(t, "bindings beyond MaxList", change{"", func(v *impl.Server) { v.Live[0].Job.Vars = manyBindings(impl.MaxList + 1) }}.of(t))
}
