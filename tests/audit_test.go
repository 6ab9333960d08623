package tests

import (
	"fmt"
	"slices"
	"strings"
	"testing"

	"loop.example/g00540/impl"
)

// wantCompact fails unless Compact says so, and a tick lets go of something if it does not.
func wantCompact(t *testing.T, what string, v impl.Server, want bool) {
	t.Helper()
	if got, code := impl.Compact(v); got != want || code != impl.OK {
		t.Errorf("Compact of %s = %v, %d, want %v:\n%s", what, got, code, want, serverTold(v))
	}
	x, gone, _ := impl.Tick(v)
	if (gone == 0) != want {
		t.Errorf("Compact of %s = %v, a tick lets %d versions go", what, want, gone)
	}
	if got, code := impl.Compact(x); !got || code != impl.OK {
		t.Errorf("Compact of %s behind a tick = %v, %d:\n%s", what, got, code, serverTold(x))
	}
}

// startsAt has one that is live for each of the starts; none has read anything.
func startsAt(t *testing.T, s impl.Store, starts ...int) impl.Server {
	t.Helper()
	v := impl.Server{Store: s, Next: 9, Done: []impl.Done{failedOf(6, 0, impl.ErrForm)}}
	for i, start := range starts {
		v.Live = append(v.Live, liveOf(t, s, i+1, 0, 0, "{ node(id: 2) { next { value } } }", start, 0))
	}
	return v
}

// The versions of one chain, each chain in turn, at a watermark of 5.
func TestCompactByHand(t *testing.T) {
	for key := range 16 {
		for _, c := range []struct {
			hours []int
			want  bool
		}{
			{nil, true}, {[]int{1}, true}, {[]int{4}, true}, {[]int{5}, true}, {[]int{6}, true}, {[]int{9}, true},
			{[]int{1, 4}, false}, {[]int{1, 5}, false}, {[]int{1, 6}, true}, {[]int{1, 9}, true}, {[]int{4, 5}, false}, {[]int{5, 6}, true}, {[]int{6, 7}, true}, {[]int{8, 9}, true},
			{[]int{1, 2, 3}, false}, {[]int{3, 4, 5}, false}, {[]int{1, 5, 6}, false}, {[]int{1, 4, 9}, false}, {[]int{1, 6, 7}, true}, {[]int{5, 6, 7, 8, 9}, true}, {[]int{6, 7, 8, 9}, true}, {[]int{1, 2, 8, 9}, false}, {[]int{1, 2, 3, 4, 5, 6, 7, 8, 9}, false},
		} {
			chains := map[int][]impl.Version{key: versionsAt(c.hours)}
			for _, starts := range [][]int{{5}, {5, 9}, {9, 5}, {8, 5, 9}, {7, 6, 9, 5}, {5, 5, 5, 5}} {
				v := startsAt(t, storeAt(9, chains), starts...)
				wantCompact(t, fmt.Sprint("key ", key, " hours ", c.hours, " starts ", starts), v, c.want)
			}
			if len(c.hours) == 0 || c.hours[len(c.hours)-1] <= 5 {
				wantCompact(t, fmt.Sprint("key ", key, " hours ", c.hours, " at Now"), startsAt(t, storeAt(5, chains)), c.want)
			}
			wantCompact(t, fmt.Sprint("key ", key, " hours ", c.hours, ", nobody live"), startsAt(t, storeAt(9, chains)), len(c.hours) < 2)
			wantCompact(t, fmt.Sprint("key ", key, " hours ", c.hours, " from the first hour on"), startsAt(t, storeAt(9, chains), 9, 0), true)
		}
	}
}

// One chain that has two is enough, wherever it stands among chains that have not.
func TestCompactOfManyChains(t *testing.T) {
	few := map[int][]impl.Version{}
	for key := range 16 {
		few[key] = versionsAt([][]int{nil, {1}, {5}, {4, 6}, {6}, {6, 7}, {5, 6, 9}}[key%7])
	}
	wantCompact(t, "few versions", startsAt(t, storeAt(9, few), 7, 5), true)
	wantCompact(t, "few versions, nobody live", startsAt(t, storeAt(9, few)), false)
	wantCompact(t, "few versions, from a later hour on", startsAt(t, storeAt(9, few), 6), false)
	for key := range 16 {
		kept := few[key]
		few[key] = versionsAt([]int{4, 5})
		wantCompact(t, fmt.Sprint("two at ", key), startsAt(t, storeAt(9, few), 7, 5), false)
		wantCompact(t, fmt.Sprint("two at ", key, ", an hour ahead"), startsAt(t, storeAt(9, few), 7, 4), true)
		few[key] = kept
	}
}

// The watermark is of those that are live, whoever is done, and Now if nobody is.
func TestCompactFollowsTheWatermark(t *testing.T) {
	wantCompact(t, "a new server", impl.NewServer(), true)
	wantCompact(t, "a busy server", busyServer(t), false)
	v := wantAnswered(t, impl.NewServer(), asksSet, `{"data":{"set":{"value":5}}}`, put(2, 5))
	wantCompact(t, "one version", v, true)
	v = wantLive(t, v, asksValue)
	v = wantAnswered(t, v, asksSet, `{"data":{"set":{"value":5}}}`, put(2, 5))
	wantCompact(t, "two, of which one is read", v, true)
	v = wantLive(t, v, asksValue)
	wantCompact(t, "both are read", v, true)
	later := wantStepped(t, v, 2)
	wantCompact(t, "the later one is read", later, false)
	wantCompact(t, "it is cancelled", wantCancelled(t, v, 2), false)
	wantCompact(t, "the one that came last is cancelled", wantCancelled(t, v, 4), true)
	wantCompact(t, "nobody reads", wantStepped(t, later, 4), false)
	full := storeAt(impl.MaxTime, map[int][]impl.Version{3: fullChain(impl.MaxTime)})
	wantCompact(t, "the greatest chain", impl.Server{Store: full, Next: 1}, false)
	wantCompact(t, "the greatest chain, read from its first hour on", startsAt(t, full, impl.MaxTime, 1), true)
	wantCompact(t, "the greatest chain, read from its second hour on", startsAt(t, full, impl.MaxTime, 2), false)
	wantCompact(t, "the greatest chain, read from ahead of it on", startsAt(t, full, 0), true)
}

// wantLines fails unless the lines are these.
func wantLines(t *testing.T, what string, got []string, code int, want ...string) {
	t.Helper()
	if code != impl.OK || !slices.Equal(got, want) {
		t.Errorf("%s = %d,\n%.2000s\nwant\n%.2000s", what, code, strings.Join(got, "\n"), strings.Join(want, "\n"))
	}
}

func wantStoreLines(t *testing.T, s impl.Store, want ...string) {
	t.Helper()
	lines, code := impl.StoreLines(s)
	wantLines(t, "StoreLines", lines, code, want...)
}

func TestStoreLines(t *testing.T) {
	wantStoreLines(t, impl.NewStore(), "now 0 versions 0")
	wantStoreLines(t, impl.Store{Chains: slices.Repeat([][]impl.Version{{}}, 16)}, "now 0 versions 0")
	wantStoreLines(t, storeAt(impl.MaxTime, nil), "now 100000 versions 0")
	wantStoreLines(t, plainStore(),
		"node 0 value 70 next 7", "node 1 value 10", "node 2 value 90", "node 7 value 2147483647", "now 9 versions 20")
	wantStoreLines(t, storeAt(4, map[int][]impl.Version{6: {{Ts: 1, Value: 1}, {Ts: 3, Value: 5}}, 7: {{Ts: 2, Value: 3}}, 0: {{Ts: 4, Value: 0}}, 9: {{Ts: 2, Value: 4}, {Ts: 4, Value: 0}}}),
		"node 3 value 5 next 2", "now 4 versions 6")
	wantStoreLines(t, storeAt(impl.MaxTime, map[int][]impl.Version{3: fullChain(impl.MaxTime - 1)}), "node 1 value 0 next 7", "now 100000 versions 99999")
}

// A node with neither, with a value alone, with a next one alone, with both; a store of such nodes alone.
func TestStoreLinesOfEachNode(t *testing.T) {
	for id := range 8 {
		for _, value := range []int{0, 1, -1, 9, -10, leastInt, impl.MaxInt} {
			for next := range 9 {
				s := storeAt(3, map[int][]impl.Version{2 * id: {{Ts: 1, Value: 77}, {Ts: 2, Value: value}}, 2*id + 1: {{Ts: 2, Value: 3}, {Ts: 3, Value: next}}})
				text := fmt.Sprintf("node %d value %d next %d", id, value, next-1)
				switch {
				case next > 0:
					wantStoreLines(t, s, text, "now 3 versions 4")
				case value != 0:
					wantStoreLines(t, s, strings.TrimSuffix(text, " next -1"), "now 3 versions 4")
				default:
					wantStoreLines(t, s, "now 3 versions 4")
				}
			}
		}
	}
	wantStoreLines(t, storeAt(1, map[int][]impl.Version{
		0: {{Ts: 1, Value: -1}}, 3: {{Ts: 1, Value: 1}}, 5: {{Ts: 1, Value: 3}}, 6: {{Ts: 1, Value: leastInt}}, 7: {{Ts: 1, Value: 8}}, 8: {{Ts: 1, Value: 0}}, 11: {{Ts: 1, Value: 0}}, 14: {{Ts: 1, Value: 5}}, 15: {{Ts: 1, Value: 1}},
	}), "node 0 value -1", "node 1 value 0 next 0", "node 2 value 0 next 2", "node 3 value -2147483648 next 7", "node 7 value 5 next 0", "now 1 versions 9")
}

// What is told is what there is now, whatever was written ahead; no request changes it that does not write.
func TestStoreLinesOfServers(t *testing.T) {
	v := played(t, impl.NewServer(), []string{"mutation { set(id: 3 value: 5) { id } a: link(id: 3 to: 2) { id } b: link(id: 0 to: 7) { id } }", "{ nodes { value } }"}, 2, 2)
	wantStoreLines(t, v.Store, "node 0 value 0 next 7", "node 3 value 5 next 2", "now 1 versions 3")
	v = played(t, v, []string{"mutation { set(id: 3 value: 0) { id } link(id: 0) { id } }", "{", asksSum}, -2, 5)
	wantStoreLines(t, v.Store, "node 1 value 2", "node 3 value 0 next 2", "now 3 versions 6")
	x, _, _ := impl.Tick(v)
	wantStoreLines(t, x.Store, "node 1 value 2", "node 3 value 0 next 2", "now 3 versions 4")
}

func wantServerLines(t *testing.T, v impl.Server, want ...string) {
	t.Helper()
	lines, code := impl.ServerLines(v)
	wantLines(t, "ServerLines", lines, code, want...)
}

func wantAnswerLines(t *testing.T, v impl.Server, want ...string) {
	t.Helper()
	lines, code := impl.AnswerLines(v)
	wantLines(t, "AnswerLines", lines, code, want...)
}

func TestServerLines(t *testing.T) {
	wantServerLines(t, impl.NewServer(), "low 0")
	wantServerLines(t, impl.Server{Store: storeAt(impl.MaxTime, nil), Next: 1000000}, "low 100000")
	wantServerLines(t, busyServer(t),
		"live 12 start 2 read 3 tries 0", "live 3 start 9 read 1 tries 2", "live 19 start 4 read 0 tries 1",
		"done 7 ok at 4", "done 2 spent at 0", "done 1 ok at 9", "done 9 form at 0", "done 18 ok at 0", "low 2")
	only := busyServer(t)
	only.Done = nil
	for i := range only.Live {
		only.Live[i].Since = 0
	}
	wantServerLines(t, only, "live 12 start 2 read 3 tries 0", "live 3 start 9 read 1 tries 2", "live 19 start 4 read 0 tries 1", "low 2")
	only = busyServer(t)
	only.Live = nil
	wantServerLines(t, only, "done 7 ok at 4", "done 2 spent at 0", "done 1 ok at 9", "done 9 form at 0", "done 18 ok at 0", "low 9")
	wantServerLines(t, startsAt(t, storeAt(7, nil), 7, 5, 6), "live 1 start 7 read 0 tries 0", "live 2 start 5 read 0 tries 0", "live 3 start 6 read 0 tries 0", "done 6 form at 0", "low 5")
	late := storeAt(impl.MaxTime, nil)
	last := impl.Server{Store: late, Next: 1000000, Live: []impl.Live{liveOf(t, late, 999999, 2, 1, "{ nodes { value next { id } } }", impl.MaxTime, 15)}, Done: []impl.Done{doneOf(t, 999998, 0, impl.MaxTime, true, asksSet, "x")}}
	wantServerLines(t, last, "live 999999 start 100000 read 15 tries 2", "done 999998 ok at 100000", "low 100000")
}

// As many as there may be, in their order; each word of a code.
func TestServerLinesOfMany(t *testing.T) {
	v := impl.Server{Store: plainStore(), Next: 60}
	var done, answers []string
	for code := range 19 {
		word := words[code+1]
		v.Done = append(v.Done, failedOf(19-code, 0, code+1))
		done = append(done, fmt.Sprintf("done %d %s at 0", 19-code, word))
		answers = append(answers, fmt.Sprintf(`%d {"error":"%s"}`, 19-code, word))
	}
	wantServerLines(t, v, append(done, "low 9")...)
	wantAnswerLines(t, v, answers...)
	for _, n := range [][2]int{{4, 56}, {0, 60}, {3, 3}, {1, 0}, {0, 1}} {
		v := crowded(t, n[0], n[1])
		var lines, answers []string
		for i := range n[0] {
			lines = append(lines, fmt.Sprintf("live %d start 4 read 1 tries 0", n[1]+1+i))
		}
		for i := range n[1] {
			word, hour, answer := "ok", 9, `{"data":{"set":{"id":1}}}`
			if i%3 == 1 {
				word, hour = words[1+i%19], 0
				answer = `{"error":"` + word + `"}`
			}
			lines = append(lines, fmt.Sprintf("done %d %s at %d", n[1]-i, word, hour))
			answers = append(answers, fmt.Sprint(n[1]-i, " ", answer))
		}
		low := 9
		if n[0] > 0 {
			low = 4
		}
		wantServerLines(t, v, append(lines, fmt.Sprint("low ", low))...)
		wantAnswerLines(t, v, answers...)
	}
}

func TestAnswerLines(t *testing.T) {
	wantAnswerLines(t, impl.NewServer())
	wantAnswerLines(t, startsAt(t, plainStore(), 9), `6 {"error":"form"}`)
	v := startsAt(t, plainStore(), 9, 8)
	v.Done = nil
	wantAnswerLines(t, v)
	v = busyServer(t)
	wantAnswerLines(t, v, `7 {"data":{"node":{"value":10}}}`, `2 {"error":"spent"}`, `1 {"data":{"link":{"id":0}}}`, `9 {"error":"form"}`, `18 {"data":{"size":8}}`)
	// A text may be of any bytes, up to 1000000: they are told as they stand.
	for _, text := range []string{"", " ", "x", " x  y ", "a\nb", "\x00\xff", strings.Repeat("é", 500000)} {
		v.Done[2].Text = text
		wantAnswerLines(t, v, `7 {"data":{"node":{"value":10}}}`, `2 {"error":"spent"}`, "1 "+text, `9 {"error":"form"}`, `18 {"data":{"size":8}}`)
		v.Done[4].Text = text
		wantAnswerLines(t, v, `7 {"data":{"node":{"value":10}}}`, `2 {"error":"spent"}`, "1 "+text, `9 {"error":"form"}`, "18 "+text)
		v.Done[4].Text = `{"data":{"size":8}}`
	}
	great := crowded(t, 0, 60)
	var want []string
	for i, d := range great.Done {
		if d.Code == impl.OK {
			great.Done[i].Text = strings.Repeat("x", 1000000)
		}
		want = append(want, fmt.Sprint(d.Id, " ", great.Done[i].Text))
	}
	wantAnswerLines(t, great, want...)
}

// What a run says of itself, moment by moment.
func TestLinesOfARun(t *testing.T) {
	v := played(t, impl.NewServer(), []string{asksSum, readsThree, "{ nothing }", asksSum})
	wantServerLines(t, v, "live 1 start 0 read 0 tries 0", "live 2 start 0 read 0 tries 0", "live 4 start 0 read 0 tries 0", "done 3 field at 0", "low 0")
	v = played(t, v, nil, 2, 4, 1)
	wantServerLines(t, v, "live 1 start 1 read 0 tries 1", "live 2 start 0 read 1 tries 0", "done 3 field at 0", "done 4 ok at 1", "low 0")
	v = played(t, v, []string{asksSet}, 2, 2, 1)
	wantServerLines(t, v, "live 1 start 2 read 0 tries 2", "done 3 field at 0", "done 4 ok at 1", "done 5 ok at 2", "done 2 ok at 0", "low 2")
	wantAnswerLines(t, v, `3 {"error":"field"}`, `4 {"data":{"add":{"value":2}}}`, `5 {"data":{"set":{"value":5}}}`, `2 {"data":{"a":{"value":0},"b":{"value":0},"c":{"value":0}}}`)
	v = played(t, v, []string{asksSet}, 1)
	wantServerLines(t, v, "done 3 field at 0", "done 4 ok at 1", "done 5 ok at 2", "done 2 ok at 0", "done 6 ok at 3", "done 1 spent at 0", "low 3")
	wantStoreLines(t, v.Store, "node 1 value 5", "now 3 versions 3")
}

func wantFieldLines(t *testing.T, s impl.Schema, want ...string) {
	t.Helper()
	lines, code := impl.FieldLines(s)
	wantLines(t, "FieldLines", lines, code, want...)
}

func TestFieldLines(t *testing.T) {
	wantFieldLines(t, impl.PlainSchema(),
		"Query.node id! : Node", "Query.must id! : Node !", "Query.nodes : [ Node ]", "Query.size : Int !",
		"Mutation.set id! value! : Node", "Mutation.add id! by! : Node", "Mutation.link id! to : Node",
		"Node.id : Int !", "Node.value : Int", "Node.plus by! : Int", "Node.next : Node", "Node.need : Node !")
	a := func(kind string) impl.FieldDef { return fieldDef("a", kind) }
	wantFieldLines(t, querySchema(a("Int")), "Query.a : Int")
	wantFieldLines(t, querySchema(bangDef(a("Int"))), "Query.a : Int !")
	wantFieldLines(t, querySchema(listDef("a", "Int")), "Query.a : [ Int ]")
	wantFieldLines(t, querySchema(bangDef(listDef("a", "Int"))), "Query.a : [ Int ] !")
	wantFieldLines(t, querySchema(a("Query")), "Query.a : Query")
	wantFieldLines(t, querySchema(bangDef(a("Query"))), "Query.a : Query !")
	wantFieldLines(t, querySchema(listDef("a", "Query")), "Query.a : [ Query ]")
	wantFieldLines(t, querySchema(bangDef(listDef("a", "Query"))), "Query.a : [ Query ] !")
	wantFieldLines(t, querySchema(fieldDef("a", "Int", may("x"))), "Query.a x : Int")
	wantFieldLines(t, querySchema(fieldDef("a", "Int", need("x"))), "Query.a x! : Int")
	wantFieldLines(t, querySchema(fieldDef("a", "Int", may("x"), need("y"), may("Int"), need("a"))), "Query.a x y! Int a! : Int")
	wantFieldLines(t, querySchema(bangDef(listDef("a", "Query", need("y"), may("x"))), fieldDef("b", "Int", need("x"), need("z"))), "Query.a y! x : [ Query ] !", "Query.b x! z! : Int")
	// In the order of the types and of their fields, whatever their names.
	wantFieldLines(t, schemaOf(typeDef("Z", fieldDef("b", "Query"), fieldDef("a", "A"), fieldDef("Z", "Z")), typeDef("Query", fieldDef("b", "Z")), typeDef("A", listDef("b", "Int", may("b")), fieldDef("a", "Int"))),
		"Z.b : Query", "Z.a : A", "Z.Z : Z", "Query.b : Z", "A.b b : [ Int ]", "A.a : Int")
	long := strings.Repeat("n", 40)
	wantFieldLines(t, schemaOf(typeDef(long, fieldDef(long, long, need(long))), typeDef("Query", fieldDef("a", long))), long+"."+long+" "+long+"! : "+long, "Query.a : "+long)
	read, code := impl.ParseSchema(sizedText(8, 10, 4))
	lines, told := impl.FieldLines(read)
	if code != impl.OK || told != impl.OK || len(lines) != 80 || lines[79] != "T6.f9 x0 x1 x2 x3 : Int" {
		t.Error("FieldLines of the greatest schema", lines, code, told)
	}
}

// Nothing is told of what is not right.
func TestLinesOfWhatIsNotRight(t *testing.T) {
	fields := func(s impl.Schema) {
		t.Helper()
		if lines, code := impl.FieldLines(s); len(lines) > 0 || code != impl.ErrBad {
			t.Errorf("FieldLines of what is not right = %v, %d", lines, code)
		}
	}
	for _, list := range wrongFields() {
		fields(querySchema(list...))
		fields(schemaOf(typeDef("Query", fieldDef("a", "Int")), typeDef("A", list...)))
	}
	right := typeDef("A", fieldDef("a", "Int"))
	for _, s := range []impl.Schema{{}, {Types: []impl.TypeDef{}}, schemaOf(right), querySchema(), schemaOf(typeDef("Query", fieldDef("a", "Int")), typeDef("A")), schemaOf(typeDef("Query", fieldDef("a", "Int")), right, right), schemaOf(typeDef("Query", fieldDef("a", "Int")), typeDef("Int", fieldDef("a", "Int"))), schemaOf(slices.Repeat([]impl.TypeDef{right}, 5000)...)} {
		fields(s)
	}
	for _, s := range wrongStores() {
		if lines, code := impl.StoreLines(s); len(lines) > 0 || code != impl.ErrBad {
			t.Errorf("StoreLines of what is not right = %v, %d", lines, code)
		}
		wantNoAudit(t, impl.Server{Store: s, Next: 1})
	}
	wantNoAudit(t, impl.Server{})
	for _, n := range [][2]int{{5, 0}, {4, 57}, {0, 61}, {1, 60}} {
		wantNoAudit(t, crowded(t, n[0], n[1]))
	}
	for _, c := range []change{
		{"Next", func(v *impl.Server) { v.Next = 19 }}, {"an id", func(v *impl.Server) { v.Live[0].Id = 7 }}, {"tries", func(v *impl.Server) { v.Live[1].Tries = 3 }}, {"a log", func(v *impl.Server) { v.Live[1].Job.Log = []int{77} }},
		{"a start", func(v *impl.Server) { v.Live[2].Job.Start = 10 }}, {"an hour", func(v *impl.Server) { v.Done[0].Ts = 10 }}, {"a code", func(v *impl.Server) { v.Done[1].Code = 20 }}, {"a text", func(v *impl.Server) { v.Done[1].Text = "x" }}, {"a request", func(v *impl.Server) { v.Done[4].Request = impl.Request{} }},
		{"one that ended", func(v *impl.Server) { v.Live[2].Job.Log = []int{1, 10, 0, 0} }}, {"since", func(v *impl.Server) { v.Done[0].Since = 1 }}, {"a long text", func(v *impl.Server) { v.Done[0].Text = strings.Repeat("x", 1000001) }},
	} {
		wantNoAudit(t, c.of(t))
	}
}

// wantNoAudit fails unless the calls of a server tell that it is not right, and nothing else.
func wantNoAudit(t *testing.T, v impl.Server) {
	t.Helper()
	compact, code := impl.Compact(v)
	lines, linesCode := impl.ServerLines(v)
	answers, answersCode := impl.AnswerLines(v)
	if compact || len(lines)+len(answers) > 0 || code != impl.ErrBad || linesCode != impl.ErrBad || answersCode != impl.ErrBad {
		t.Errorf("Compact = %v, %d, ServerLines = %v, %d, AnswerLines = %v, %d of what is not right:\n%s", compact, code, lines, linesCode, answers, answersCode, serverTold(v))
	}
}
