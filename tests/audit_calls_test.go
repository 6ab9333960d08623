package tests

import (
	"math/rand"
	"reflect"
	"slices"
	"strings"
	"testing"

	"loop.example/g00540/impl"
)

// An auditCall is what the calls of chapter 16 are given.
type auditCall struct {
	v      impl.Server
	store  impl.Store
	schema impl.Schema
	text   string
}

// answers is all that the calls of chapter 16 answer, each with its code behind it.
func (c auditCall) answers() []any {
	compact, compactCode := impl.Compact(c.v)
	fields, fieldsCode := impl.FieldLines(c.schema)
	store, storeCode := impl.StoreLines(c.store)
	server, serverCode := impl.ServerLines(c.v)
	answers, answersCode := impl.AnswerLines(c.v)
	a, actCode := impl.ReadAct(c.text)
	return []any{compact, compactCode, fields, fieldsCode, store, storeCode, server, serverCode, answers, answersCode, a, actCode}
}

// tidyAuditAnswers has nil for empty lists, so that DeepEqual holds answers against each other.
func tidyAuditAnswers(answers []any) (out []any) {
	for _, x := range answers {
		if lines, is := x.([]string); is {
			x = append([]string(nil), lines...)
		}
		out = append(out, x)
	}
	return out
}

func (c auditCall) tidy() auditCall {
	return auditCall{tidyServer(c.v), tidyStore(c.store), tidySchema(c.schema), strings.Clone(c.text)}
}

var (
	typeBehind  = typeDef("behind", fieldDef("behind", "Int"))
	fieldBehind = fieldDef("behind", "Int", may("behind"))
	argBehind   = need("behind")
)

func roomySchema(s impl.Schema) impl.Schema {
	types := slices.Clone(s.Types)
	for i, d := range types {
		fields := slices.Clone(d.Fields)
		for k, f := range fields {
			fields[k].Args = append(slices.Clone(f.Args), argBehind)[:len(f.Args)]
		}
		types[i].Fields = append(fields, fieldBehind)[:len(fields)]
	}
	return impl.Schema{Types: append(types, typeBehind)[:len(types)]}
}

// roomy has room behind all lists.
func (c auditCall) roomy() auditCall {
	return auditCall{serverCall{v: c.v}.roomy().v, roomyStore(c.store), roomySchema(c.schema), c.text}
}

func (c auditCall) wantRoomAsItWas(t *testing.T) {
	t.Helper()
	serverCall{v: c.v}.wantRoomAsItWas(t)
	wantRoomyAsItWas(t, c.store)
	if !reflect.DeepEqual(behindLast(c.schema.Types)[0], typeBehind) {
		t.Fatal("a call wrote behind the types")
	}
	for _, d := range c.schema.Types {
		if !reflect.DeepEqual(behindLast(d.Fields)[0], fieldBehind) {
			t.Fatal("a call wrote behind the fields")
		}
		for _, f := range d.Fields {
			if behindLast(f.Args)[0] != argBehind {
				t.Fatal("a call wrote behind the arguments")
			}
		}
	}
}

// schemasForCalls are right and not.
func schemasForCalls() []impl.Schema {
	random := rand.New(rand.NewSource(168))
	list := []impl.Schema{impl.PlainSchema(), {}, querySchema(), querySchema(fieldDef("a", "Int")), querySchema(fieldDef("a", "Other")), schemaOf(typeDef("Query", fieldDef("a", "Int", may("x"), may("x"))))}
	for range 10 {
		list = append(list, randomSchema(random))
	}
	for _, fields := range wrongFields()[:12] {
		list = append(list, schemaOf(typeDef("A", fieldDef("a", "Query")), typeDef("Query", fields...)))
	}
	return list
}

func actTextsForCalls() []string {
	return []string{
		"", "ask", "ask x", "ask { size }", "  ask  x=1   | { size } ", "step 3", " step  1000000 ", "cancel 0", "cancel 1000001", "step", "step x", "tick", "tick 1", "x", "\xff",
		filled("ask\tx", impl.MaxText), filled("ask\tx", impl.MaxText+1), "ask " + strings.Repeat("x", impl.MaxText-4), strings.Repeat("x", impl.MaxText+1), "step -1",
	}
}

func callsForAudits(t *testing.T) (list []auditCall) {
	t.Helper()
	stores, schemas, texts := append(storesForCalls(), rightStores()...), schemasForCalls(), actTextsForCalls()
	for i, v := range serversForCalls(t) {
		list = append(list, auditCall{v, stores[i%len(stores)], schemas[i%len(schemas)], texts[i%len(texts)]})
	}
	if len(list) < len(schemas) || len(list) < len(texts) {
		t.Fatal("what is called is of no use", len(list))
	}
	return list
}

func TestArgumentsOfAuditsStay(t *testing.T) {
	for _, c := range callsForAudits(t) {
		room, ahead := c.roomy(), c.tidy()
		room.answers()
		if !reflect.DeepEqual(room.tidy(), ahead) {
			t.Fatalf("a call changed what it was given:\n%s", serverTold(c.v))
		}
		room.wantRoomAsItWas(t)
	}
}

func TestAnswersOfAuditsAreNew(t *testing.T) {
	came := map[int]int{}
	for _, c := range callsForAudits(t) {
		for _, c := range []auditCall{c, c.roomy()} {
			answers, again := c.answers(), c.answers()
			for i, a := range answers {
				if code, is := a.(int); is {
					came[code]++
				}
				wantOwnMemory(t, "a call of audits", a, c.v, c.store, c.schema, c.text, again[i])
			}
			wantOwnMemory(t, "the calls of audits", answers)
		}
	}
	wantOften(t, came, impl.OK, impl.ErrBad, impl.ErrForm, impl.ErrLong)
}

// Where a code is told all else is zero; where none is there are lines, but for answers of nobody.
func TestAnswersOfAuditsWithCodesAreZero(t *testing.T) {
	for _, c := range callsForAudits(t) {
		a := c.answers()
		right := map[int]bool{0: impl.ServerOK(c.v), 2: impl.SchemaOK(c.schema), 4: impl.StoreOK(c.store), 6: impl.ServerOK(c.v), 8: impl.ServerOK(c.v)}
		for i, is := range right {
			if code := a[i+1].(int); is != (code == impl.OK) || !is && code != impl.ErrBad {
				t.Errorf("code %d is %d, right is %v", i, code, is)
			}
			if lines, are := a[i].([]string); are && i < 8 && (len(lines) > 0) != is {
				t.Errorf("lines %d are %v, right is %v", i, lines, is)
			}
		}
		if !right[0] && (a[0] != false || len(a[8].([]string)) > 0) || right[0] && len(a[8].([]string)) != len(c.v.Done) {
			t.Errorf("Compact = %v, AnswerLines = %v, right is %v", a[0], a[8], right[0])
		}
		if got := a[10].(impl.Act); impl.ActOK(got) != (a[11] == impl.OK) || a[11] != impl.OK && got != (impl.Act{}) {
			t.Errorf("ReadAct(%.60q) = %s, %d", c.text, actTold(got), a[11])
		}
	}
}

func TestAlikeArgumentsHaveAlikeAnswersInAudits(t *testing.T) {
	random := rand.New(rand.NewSource(169))
	calls := callsForAudits(t)
	var ahead [][]any
	for _, c := range calls {
		ahead = append(ahead, tidyAuditAnswers(c.roomy().answers()))
	}
	for _, i := range random.Perm(len(calls)) {
		for _, c := range []auditCall{calls[i], calls[i].tidy()} {
			if !reflect.DeepEqual(tidyAuditAnswers(c.answers()), ahead[i]) {
				t.Errorf("answers hang on what was called ahead:\n%s", serverTold(c.v))
			}
		}
	}
}

// What is written into an answer is not seen in another one, nor in what it came of.
func TestAuditsAreNotTheirAnswers(t *testing.T) {
	c := auditCall{busyServer(t), plainStore(), impl.PlainSchema(), "ask { size }"}
	want := tidyAuditAnswers(c.tidy().answers())
	for range 3 {
		for _, x := range c.answers() {
			if lines, is := x.([]string); is {
				lines = lines[:cap(lines)]
				for i := range lines {
					lines[i] = "other"
				}
			}
		}
		if !reflect.DeepEqual(tidyAuditAnswers(c.answers()), want) {
			t.Error("answers hang on what was made of an earlier one")
		}
	}
	wantServer(t, "what was audited", c.v, busyServer(t))
}

// An empty list and nil are the same.
func TestEmptyListsInAudits(t *testing.T) {
	bare := auditCall{v: impl.Server{Store: impl.NewStore(), Next: 2, Done: []impl.Done{failedOf(1, 0, impl.ErrForm)}}, store: impl.NewStore(), schema: querySchema(fieldDef("a", "Int"))}
	full := bare.tidy()
	full.v.Store.Chains = slices.Repeat([][]impl.Version{{}}, 16)
	full.store.Chains = slices.Repeat([][]impl.Version{{}}, 16)
	full.v.Live = []impl.Live{}
	full.v.Done[0].Request = impl.Request{Doc: impl.Doc{Defs: []impl.Def{}}, Vars: make([]impl.Binding, 0, 3)}
	full.schema.Types[0].Fields[0].Args = []impl.ArgDef{}
	got, want := tidyAuditAnswers(full.answers()), tidyAuditAnswers(bare.answers())
	if !reflect.DeepEqual(got, want) || got[0] != true || got[1] != impl.OK || got[3] != impl.OK || got[5] != impl.OK {
		t.Errorf("answers to empty lists %v, to none %v", got, want)
	}
	none := auditCall{v: impl.Server{Store: impl.Store{Chains: [][]impl.Version{}}, Live: []impl.Live{}, Done: []impl.Done{}}, store: impl.Store{Chains: [][]impl.Version{}}, schema: impl.Schema{Types: []impl.TypeDef{}}}
	if got, want := tidyAuditAnswers(none.answers()), tidyAuditAnswers(auditCall{}.answers()); !reflect.DeepEqual(got, want) {
		t.Errorf("answers to empty lists %v, to none %v", got, want)
	}
}

// Chains and jobs that share memory are as others.
func TestAuditsOfWhatSharesMemory(t *testing.T) {
	q := readRequest(t, "x=2 | { node(id: $x) { value next { value } } }")
	list := chain(1, 2)
	s := storeAt(2, map[int][]impl.Version{2: list, 4: list, 6: list})
	j := impl.Job{Doc: q.Doc, Vars: q.Vars, Start: 2, Log: []int{20}}
	v := impl.Server{Store: s, Next: 9, Live: []impl.Live{{Id: 1, Job: j}, {Id: 2, Job: j}}, Done: []impl.Done{{Id: 4, Request: q, Text: "x"}, {Id: 5, Request: q, Text: "x"}}}
	wantStoreLines(t, s, "node 1 value 20", "node 2 value 20", "node 3 value 20", "now 2 versions 6")
	wantServerLines(t, v, "live 1 start 2 read 1 tries 0", "live 2 start 2 read 1 tries 0", "done 4 ok at 0", "done 5 ok at 0", "low 2")
	wantAnswerLines(t, v, "4 x", "5 x")
	wantCompact(t, "a server that shares memory", v, false)
	text := "ask ask step 3tick"
	for _, c := range []struct {
		from, to int
		want     impl.Act
	}{{0, 3, comes("")}, {0, 7, comes("ask")}, {4, 12, comes("step")}, {8, 14, steps(3)}, {14, 18, ticks()}} {
		wantAct(t, text[c.from:c.to], c.want)
	}
}

// Every call ends, whatever holds itself.
func TestEndlessAudits(t *testing.T) {
	for _, d := range endlessDocs() {
		v, w := busyServer(t), busyServer(t)
		v.Done[0].Request.Doc, w.Live[0].Job.Doc = d, d
		wantNoAudit(t, v)
		wantNoAudit(t, w)
	}
	full := fullChain(impl.MaxTime)
	for i := range full {
		full[i].Value = 1
	}
	great := impl.Server{Store: impl.Store{Chains: slices.Repeat([][]impl.Version{full}, 16), Now: impl.MaxTime}, Next: 1}
	wantCompact(t, "the greatest store", great, false)
	wantStoreLines(t, great.Store, storeLinesTold(great.Store)...)
	wantServerLines(t, great, "low 100000")
}
