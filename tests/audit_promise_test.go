package tests

import (
	"fmt"
	"math/rand"
	"slices"
	"strings"
	"testing"

	"loop.example/g00540/impl"
)

// compactTold is Compact told again: nobody that is live reads what two versions of a key are for.
func compactTold(v impl.Server) bool {
	low := v.Store.Now
	for _, l := range v.Live {
		low = min(low, l.Job.Start)
	}
	for _, list := range v.Store.Chains {
		behind := 0
		for _, x := range list {
			if x.Ts <= low {
				behind++
			}
		}
		if behind > 1 {
			return false
		}
	}
	return true
}

func storeLinesTold(s impl.Store) (lines []string) {
	for id := range 8 {
		value, _ := impl.ReadAt(s, 2*id, s.Now)
		next, _ := impl.ReadAt(s, 2*id+1, s.Now)
		switch {
		case next > 0:
			lines = append(lines, fmt.Sprintf("node %d value %d next %d", id, value, next-1))
		case value != 0:
			lines = append(lines, fmt.Sprintf("node %d value %d", id, value))
		}
	}
	return append(lines, fmt.Sprintf("now %d versions %d", s.Now, countVersions(s)))
}

func serverLinesTold(v impl.Server) (lines []string) {
	low := v.Store.Now
	for _, l := range v.Live {
		low = min(low, l.Job.Start)
		lines = append(lines, fmt.Sprintf("live %d start %d read %d tries %d", l.Id, l.Job.Start, len(l.Job.Log), l.Tries))
	}
	for _, d := range v.Done {
		lines = append(lines, fmt.Sprintf("done %d %s at %d", d.Id, words[d.Code], d.Ts))
	}
	return append(lines, fmt.Sprintf("low %d", low))
}

func answerLinesTold(v impl.Server) (lines []string) {
	for _, d := range v.Done {
		text, _ := impl.AnswerTo(v, d.Id)
		lines = append(lines, fmt.Sprintf("%d %s", d.Id, text))
	}
	return lines
}

// wantAudited fails unless all that is told of the right server is what it has.
func wantAudited(t *testing.T, v impl.Server) {
	t.Helper()
	wantCompact(t, "a server", v, compactTold(v))
	wantStoreLines(t, v.Store, storeLinesTold(v.Store)...)
	wantServerLines(t, v, serverLinesTold(v)...)
	wantAnswerLines(t, v, answerLinesTold(v)...)
}

// At every moment of many runs; of each right server, whatever it came of.
func TestAuditsOfRandomServers(t *testing.T) {
	random := rand.New(rand.NewSource(162))
	compact := map[bool]int{}
	for range 16 {
		v := impl.NewServer()
		for _, a := range randomActs(t, random, 60, 3+random.Intn(6)) {
			v, _ = impl.ActDo(v, a)
			wantAudited(t, v)
			compact[compactTold(v)]++
		}
	}
	for _, v := range serversForCalls(t) {
		if impl.ServerOK(v) {
			wantAudited(t, v)
			compact[compactTold(v)]++
		}
	}
	for _, s := range rightStores() {
		wantStoreLines(t, s, storeLinesTold(s)...)
	}
	if compact[true] < 100 || compact[false] < 100 {
		t.Error("what is random is of no use", compact)
	}
}

func TestFieldLinesOfRandomSchemas(t *testing.T) {
	random := rand.New(rand.NewSource(163))
	bang := map[bool]string{true: "!"}
	for range 500 {
		s := randomSchema(random)
		var lines []string
		for _, d := range s.Types {
			for _, f := range d.Fields {
				text := d.Name + "." + f.Name
				for _, a := range f.Args {
					text += " " + a.Name + bang[a.Need]
				}
				lines = append(lines, text+" : "+strings.TrimSpace(map[bool]string{true: "[ " + f.Type + " ]", false: f.Type}[f.List]+" "+bang[f.Bang]))
			}
		}
		wantFieldLines(t, s, lines...)
		// The lines tell all of the schema: it is made again of them, and its fields are found by them.
		again := schemaOfLines(lines)
		if !impl.SameSchema(again, s) {
			t.Errorf("a schema is another one than its lines tell: %q", lines)
		}
		wantFound(t, again)
	}
}

// schemaOfLines is of lines that stand type by type.
func schemaOfLines(lines []string) (s impl.Schema) {
	for _, text := range lines {
		head, kind, _ := strings.Cut(text, " : ")
		list := strings.Fields(head)
		owner, name, _ := strings.Cut(list[0], ".")
		f := impl.FieldDef{Name: name, Bang: strings.HasSuffix(kind, " !"), List: strings.HasPrefix(kind, "[ ")}
		f.Type = strings.Trim(kind, "[ ]!")
		for _, word := range list[1:] {
			f.Args = append(f.Args, impl.ArgDef{Name: strings.TrimSuffix(word, "!"), Need: strings.HasSuffix(word, "!")})
		}
		if len(s.Types) == 0 || s.Types[len(s.Types)-1].Name != owner {
			s.Types = append(s.Types, typeDef(owner))
		}
		at := &s.Types[len(s.Types)-1].Fields
		*at = append(*at, f)
	}
	return s
}

// withTicks puts ticks between the acts, so many ahead of each as are told of its place.
func withTicks(acts []impl.Act, ahead func(at int) int) (list []impl.Act) {
	for at, a := range acts {
		list = append(append(list, slices.Repeat([]impl.Act{ticks()}, ahead(at))...), a)
	}
	return append(list, slices.Repeat([]impl.Act{ticks()}, ahead(len(acts)))...)
}

func withoutTicks(acts []impl.Act) []impl.Act {
	return slices.DeleteFunc(slices.Clone(acts), func(a impl.Act) bool { return a == ticks() })
}

// waysOfTicks are ways to put them between acts: nowhere, here and there, everywhere.
func waysOfTicks(random *rand.Rand, n int) []func(at int) int {
	chosen := random.Intn(n + 1)
	places := map[int]int{}
	for at := range n + 1 {
		places[at] = max(random.Intn(6)-3, 0)
	}
	return []func(at int) int{
		func(int) int { return 0 }, func(int) int { return 1 }, func(at int) int { return at % 2 }, func(at int) int { return (at + 1) % 2 }, func(at int) int { return places[at] },
		func(at int) int { return map[bool]int{true: 2}[at == chosen] }, func(at int) int { return map[bool]int{true: 1}[at == n] },
	}
}

// wantTicksUnseen fails unless servers are alike in all, but for how many versions there are. It answers how many more the second has.
func wantTicksUnseen(t *testing.T, with, without impl.Server) int {
	t.Helper()
	lines, code := impl.AnswerLines(with)
	want, _ := impl.AnswerLines(without)
	wantLines(t, "AnswerLines with ticks", lines, code, want...)
	lines, code = impl.ServerLines(with)
	want, _ = impl.ServerLines(without)
	wantLines(t, "ServerLines with ticks", lines, code, want...)
	lines, code = impl.StoreLines(with.Store)
	want, _ = impl.StoreLines(without.Store)
	wantLines(t, "StoreLines with ticks", lines[:len(lines)-1], code, want[:len(want)-1]...)
	wantSameAt(t, with.Store, without.Store, true)
	same := with
	same.Store = without.Store
	wantServer(t, "a server without ticks", same, without)
	return countVersions(without.Store) - countVersions(with.Store)
}

// wantNobodyTwice fails unless whoever came is live or has one answer, and nobody else has.
func wantNobodyTwice(t *testing.T, v impl.Server) {
	t.Helper()
	told := map[string]int{}
	lines, code := impl.ServerLines(v)
	for _, text := range lines[:len(lines)-1] {
		told[strings.Fields(text)[1]]++
	}
	answers, answersCode := impl.AnswerLines(v)
	for _, text := range answers {
		id, _, _ := strings.Cut(text, " ")
		told["answer "+id]++
	}
	ids := idsOf(v)
	slices.Sort(ids)
	if code != impl.OK || answersCode != impl.OK || !slices.Equal(ids, placesUpTo(v.Next)[1:]) || len(answers) != len(v.Done) {
		t.Fatalf("ids are %v, answers are %d, codes %d, %d:\n%s", ids, len(answers), code, answersCode, serverTold(v))
	}
	for _, id := range ids {
		want := 1
		if slices.ContainsFunc(v.Live, func(l impl.Live) bool { return l.Id == id }) {
			want = 0
		}
		if told[fmt.Sprint(id)] != 1 || told[fmt.Sprint("answer ", id)] != want {
			t.Errorf("%d is told of otherwise than once: %v", id, told)
		}
	}
}

// wantAnswersStay fails unless whoever had an answer ahead has that one.
func wantAnswersStay(t *testing.T, ahead, v impl.Server) {
	t.Helper()
	had, _ := impl.AnswerLines(ahead)
	has, code := impl.AnswerLines(v)
	if code != impl.OK || len(has) < len(had) {
		t.Fatalf("answers %d, there were %d ahead, code %d", len(has), len(had), code)
	}
	wantLines(t, "answers that were there ahead", has[:len(had)], code, had...)
}

// Promise 16: at every moment of the run with ticks, which stands beside one without.
func TestTicksChangeNothing(t *testing.T) {
	random := rand.New(rand.NewSource(164))
	gone, ahead := 0, map[bool]int{}
	for range 4 {
		acts := withoutTicks(randomActs(t, random, 70, 3+random.Intn(5)))
		for _, way := range waysOfTicks(random, len(acts)) {
			with, without := impl.NewServer(), impl.NewServer()
			for at, a := range withTicks(acts, way) {
				next, code := impl.ActDo(with, a)
				if a != ticks() {
					wantCode := impl.OK
					without, wantCode = impl.ActDo(without, a)
					if code != wantCode {
						t.Errorf("%s with ticks has code %d, without %d", actTold(a), code, wantCode)
					}
				} else {
					is, _ := impl.Compact(with)
					ahead[is]++
					if is, code := impl.Compact(next); !is || code != impl.OK {
						t.Errorf("Compact behind a tick = %v, %d:\n%s", is, code, serverTold(next))
					}
				}
				wantAnswersStay(t, with, next)
				wantNobodyTwice(t, next)
				with = next
				if at%4 == 0 {
					gone += wantTicksUnseen(t, with, without)
				}
			}
			gone += wantTicksUnseen(t, with, without)
		}
	}
	if gone < 300 || ahead[true] < 40 || ahead[false] < 40 {
		t.Error("what is random is of no use", gone, ahead)
	}
}

// In every order of the steps of some that meet, with ticks here and there, run to their end.
func TestTicksInEveryOrder(t *testing.T) {
	random := rand.New(rand.NewSource(165))
	gone := 0
	for _, c := range meetings() {
		seen := map[string]bool{}
		everyOrder(c.ids, func(order []int) {
			if seen[fmt.Sprint(order)] {
				return
			}
			seen[fmt.Sprint(order)] = true
			var acts []impl.Act
			for _, text := range c.texts {
				acts = append(acts, comes(text))
			}
			for _, id := range order {
				if id < 0 {
					acts = append(acts, cancels(-id))
				} else {
					acts = append(acts, steps(id))
				}
			}
			without, _, _ := impl.ActsRun(acts)
			ended, n, _ := impl.DrainAll(without)
			for _, way := range waysOfTicks(random, len(acts)) {
				with, _, code := impl.ActsRun(withTicks(acts, way))
				if code != impl.OK {
					t.Fatal("ActsRun", code)
				}
				gone += wantTicksUnseen(t, with, without)
				z, m, _ := impl.DrainAll(with)
				wantNobodyTwice(t, z)
				gone += wantTicksUnseen(t, z, ended)
				if m != n {
					t.Errorf("with ticks there are %d steps, without %d", m, n)
				}
			}
		})
	}
	if gone < 50 {
		t.Error("what is random is of no use", gone)
	}
}

// ofCommitted are the acts of those that were committed alone, by the ids that they have then.
func ofCommitted(t *testing.T, acts []impl.Act, v impl.Server) (list []impl.Act) {
	t.Helper()
	now, next := map[int]int{}, 1
	x := impl.NewServer()
	for _, a := range acts {
		id := a.Id
		if a.Kind == impl.AcArrive {
			id = x.Next
		}
		came := x.Next
		x, _ = impl.ActDo(x, a)
		committed := slices.ContainsFunc(v.Done, func(d impl.Done) bool { return d.Id == id && d.Code == impl.OK })
		switch {
		case !committed || a.Kind == impl.AcTick:
		case a.Kind == impl.AcArrive && x.Next > came:
			now[id] = next
			next++
			list = append(list, a)
		case a.Kind == impl.AcStep:
			list = append(list, steps(now[id]))
		}
	}
	return list
}

// Of one who was not committed nothing is there: all is as if only the others had come.
func TestWhoIsNotCommittedLeavesNothing(t *testing.T) {
	random := rand.New(rand.NewSource(166))
	left := map[int]int{}
	for range 32 {
		acts := withoutTicks(randomActs(t, random, 120, 4+random.Intn(4)))
		v, _, code := impl.ActsRun(acts)
		if code != impl.OK {
			t.Fatal("ActsRun", code)
		}
		x, _, code := impl.ActsRun(ofCommitted(t, acts, v))
		if code != impl.OK || len(x.Live) > 0 {
			t.Fatalf("ActsRun = %d:\n%s", code, serverTold(x))
		}
		wantStore(t, "the store of those that were committed", x.Store, v.Store)
		lines, code := impl.StoreLines(x.Store)
		wantLines(t, "StoreLines of those that were committed", lines, code, storeLinesTold(v.Store)...)
		var texts, want []string
		hours := map[int]int{}
		for _, d := range x.Done {
			texts = append(texts, d.Text)
		}
		for _, d := range v.Done {
			left[d.Code]++
			if d.Code == impl.OK {
				want = append(want, d.Text)
			}
			if d.Wrote {
				hours[d.Ts] = d.Id
			}
		}
		if !slices.Equal(texts, want) {
			t.Errorf("without the others those that were committed are told %q, with them %q", texts, want)
		}
		for _, list := range v.Store.Chains {
			for _, w := range list {
				if hours[w.Ts] == 0 {
					t.Errorf("nobody that was committed wrote at %d:\n%s", w.Ts, serverTold(v))
				}
			}
		}
	}
	wantOften(t, left, impl.OK, impl.ErrCancelled)
	if left[impl.ErrSpent] < 10 {
		t.Error("what is random is of no use", left)
	}
}

// By hand: one that is cancelled, one that is spent, one with a fault; nothing of them is told of the store.
func TestWhoIsNotCommittedByHand(t *testing.T) {
	v, codes, code := impl.ActsRun([]impl.Act{
		comes("mutation { a: add(id: 2 by: 7) { value } b: set(id: 3 value: 1) { id } c: add(id: 4 by: 1) { value } }"), steps(1), cancels(1),
		comes(asksSum), comes(asksSet), steps(2), comes(asksSet), steps(2), comes(asksSet), steps(2),
		comes("mutation { a: set(id: 5 value: 1) { id } must { id } }"), comes("mutation { a: set(id: 5 value: 1) { id } b: set(id: 9 value: 1) { id } }"),
	})
	if code != impl.OK || slices.Max(codes) != impl.OK {
		t.Fatal("ActsRun", codes, code)
	}
	wantStoreLines(t, v.Store, "node 1 value 5", "now 3 versions 3")
	wantServerLines(t, v, "done 1 cancelled at 0", "done 3 ok at 1", "done 4 ok at 2", "done 5 ok at 3", "done 2 spent at 0", "done 6 field at 0", "done 7 ok at 3", "low 3")
	wantCompact(t, "three versions", v, false)
	x, gone, _ := impl.Tick(v)
	wantStoreLines(t, x.Store, "node 1 value 5", "now 3 versions 1")
	if gone != 2 {
		t.Error("a tick lets go", gone)
	}
}

// Promise 15: those that are live come to their end, and then nobody is told to be live.
func TestLinesOfADrainedServer(t *testing.T) {
	random := rand.New(rand.NewSource(167))
	live := 0
	for range 40 {
		v, _, _ := impl.ActsRun(randomActs(t, random, 20+random.Intn(60), 6))
		live += len(v.Live)
		z, _, code := impl.DrainAll(v)
		if code != impl.OK {
			t.Fatal("DrainAll", code)
		}
		wantAnswersStay(t, v, z)
		wantNobodyTwice(t, z)
		lines, _ := impl.ServerLines(z)
		answers, _ := impl.AnswerLines(z)
		if len(answers) != z.Next-1 || len(lines) != z.Next || lines[z.Next-1] != fmt.Sprint("low ", z.Store.Now) {
			t.Errorf("a drained server tells\n%s", strings.Join(lines, "\n"))
		}
		wantAudited(t, z)
	}
	if live < 40 {
		t.Error("what is random is of no use", live)
	}
}
