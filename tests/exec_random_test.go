package tests

import (
	"cmp"
	"fmt"
	"math/rand"
	"slices"
	"strings"
	"testing"

	"loop.example/g00540/impl"
)

// A toldValue is a value as it would be if nothing had to be there: text is of what holds none.
type toldValue struct {
	text  string
	kind  byte
	keys  []string
	must  []bool
	items []toldValue
}

// told is the value's text; here, at last, an object that lacks what must be there is null.
func (v toldValue) told() string {
	var parts []string
	for i, x := range v.items {
		part := x.told()
		if v.kind == '{' {
			if v.must[i] && part == "null" {
				return "null"
			}
			part = `"` + v.keys[i] + `":` + part
		}
		parts = append(parts, part)
	}
	switch v.kind {
	case '{':
		return "{" + strings.Join(parts, ",") + "}"
	case '[':
		return "[" + strings.Join(parts, ",") + "]"
	}
	return v.text
}

// A toldRun is chapter 10 told again. It does not stop: tell has something of each key and
// place, and where the log ended is worked out when the run is over.
type toldRun struct {
	doc    impl.Doc
	values map[string]impl.Value
	vars   []impl.Binding
	tell   func(key, place int) int
	reads  []int
	kept   map[int]int
	writes []impl.Put
	errors []string
}

func (x *toldRun) read(key int) int {
	if n, there := x.kept[key]; there {
		return n
	}
	x.reads = append(x.reads, key)
	return x.tell(key, len(x.reads)-1)
}

func (x *toldRun) write(key, value int) {
	x.kept[key] = value
	x.writes = append(x.writes, put(key, value))
}

func (x *toldRun) fails(path []string) toldValue {
	x.errors = append(x.errors, strings.Join(path, "."))
	return toldValue{text: "null"}
}

// arg is null without the argument.
func (x *toldRun) arg(f impl.Sel, name string) impl.Value {
	for _, a := range f.Args {
		if a.Name == name && a.Value.Kind == impl.VaVar {
			return x.values[a.Value.T]
		} else if a.Name == name {
			return a.Value
		}
	}
	return null
}

func (x *toldRun) object(on string, id int, set []impl.Sel, path []string) toldValue {
	groups, _, _ := collectTold(x.doc, set, x.vars)
	v := toldValue{kind: '{'}
	for _, g := range groups {
		f, _ := impl.FieldAt(impl.PlainSchema(), on, g.Fields[0].Name)
		var within []impl.Sel
		for _, s := range g.Fields {
			within = append(within, s.Sels...)
		}
		v.keys = append(v.keys, g.Key)
		v.must = append(v.must, f.Bang)
		v.items = append(v.items, x.field(on, id, g.Fields[0], within, append(slices.Clone(path), g.Key)))
	}
	return v
}

func (x *toldRun) field(on string, id int, f impl.Sel, within []impl.Sel, path []string) toldValue {
	nothing := toldValue{text: "null"}
	number := func(n int) toldValue { return toldValue{text: fmt.Sprint(n)} }
	isNode := func(v impl.Value) bool { return v.Kind == impl.VaInt && v.N >= 0 && v.N < 8 }
	node := func(n int) toldValue { return x.object("Node", n, within, path) }
	given, by := x.arg(f, "id"), x.arg(f, "by")
	fits := func(n int) bool { return by.Kind == impl.VaInt && n+by.N < 1<<31 && n+by.N >= -1<<31 }
	switch on + "." + f.Name {
	case "Query.size":
		return number(8)
	case "Query.nodes":
		list := toldValue{kind: '['}
		for n := range 8 {
			list.items = append(list.items, x.object("Node", n, within, append(slices.Clone(path), fmt.Sprint(n))))
		}
		return list
	case "Query.node":
		if given.Kind == impl.VaInt && !isNode(given) {
			return nothing
		}
	case "Node.id":
		return number(id)
	case "Node.value":
		return number(x.read(2 * id))
	case "Node.plus":
		n := x.read(2 * id)
		if !fits(n) {
			return x.fails(path)
		}
		return number(n + by.N)
	case "Node.next", "Node.need":
		n := x.read(2*id + 1)
		if n == 0 && f.Name == "need" {
			return x.fails(path)
		} else if n < 1 || n > 8 {
			return nothing
		}
		return node(n - 1)
	case "Mutation.set":
		if v := x.arg(f, "value"); isNode(given) && v.Kind == impl.VaInt {
			x.write(2*given.N, v.N)
			return node(given.N)
		}
		return x.fails(path)
	case "Mutation.add":
		if isNode(given) && by.Kind == impl.VaInt {
			if n := x.read(2 * given.N); fits(n) {
				x.write(2*given.N, n+by.N)
				return node(given.N)
			}
		}
		return x.fails(path)
	case "Mutation.link":
		to := x.arg(f, "to")
		switch {
		case isNode(given) && to == null:
			x.write(2*given.N+1, 0)
		case isNode(given) && isNode(to):
			x.write(2*given.N+1, to.N+1)
		default:
			return x.fails(path)
		}
	case on + ".__typename":
		return toldValue{text: `"` + on + `"`}
	}
	if !isNode(given) {
		return x.fails(path)
	}
	return node(given.N)
}

// toldRunOf is a run to its end, and the text of its data.
func toldRunOf(d impl.Doc, vars []impl.Binding, tell func(key, place int) int) (*toldRun, string) {
	x := &toldRun{doc: d, values: map[string]impl.Value{}, vars: vars, tell: tell, kept: map[int]int{}}
	for _, b := range vars {
		x.values[b.Name] = b.Value
	}
	on, set := "", []impl.Sel(nil)
	for _, f := range d.Defs {
		if f.Kind != impl.DeFragment {
			on, set = []string{"", "Query", "Mutation"}[f.Kind], f.Sels
		}
	}
	return x, x.object(on, 0, set, nil).told()
}

// runOfLog is what Execute answers to a document that can be run, in one line as runTold has it, or a code.
func runOfLog(d impl.Doc, vars []impl.Binding, log []int) (string, int) {
	x, data := toldRunOf(d, vars, func(_, place int) int {
		if place < len(log) {
			return log[place]
		}
		return 0
	})
	switch {
	case len(x.reads) < len(log):
		return "", impl.ErrMany
	case len(x.reads) > len(log):
		return runTold(impl.Run{Need: x.reads[len(log)], Reads: x.reads[:len(log)]}), impl.OK
	}
	told := runTold(impl.Run{Need: -1, Reads: x.reads, Writes: x.writes, Errors: x.errors})
	// runTold has the data ahead of the errors; here it is empty, so that null stands in its place.
	head, tail, _ := strings.Cut(told, "null")
	return head + data + tail, impl.OK
}

// reargued gives the arguments of a random document other values, the same ones to those that were
// alike, so that fields that merged still do; what directives ask is another thing.
func reargued(random *rand.Rand, d impl.Doc) impl.Doc {
	other := map[impl.Arg]impl.Value{}
	mild := random.Intn(2) == 0
	for _, set := range setsOf(d) {
		for i := range set {
			for k, a := range set[i].Args {
				v, there := other[a]
				if !there {
					v = pick(random, intValue(random.Intn(8)), intValue(random.Intn(8)), varValue("x"), varValue("y"))
					if !mild {
						v = pick(random, v, v, intValue(pick(random, edgeNumbers()...)), varValue("n"), varValue("z"))
					}
					other[a] = v
				}
				set[i].Args[k].Value = v
			}
			for k := range set[i].Dirs {
				if set[i].Dirs[k].If.Kind == impl.VaVar {
					set[i].Dirs[k].If = varValue(pick(random, "t", "f"))
				}
			}
		}
	}
	return d
}

// runnable is a random document that can be run with runVars, as often a mutation as a query. Those
// that come ahead of it and cannot be run are held against the codes that are told of them.
func runnable(t *testing.T, random *rand.Rand) impl.Doc {
	t.Helper()
	kind := pick(random, impl.DeQuery, impl.DeMutation)
	for {
		a := asker{random: random, spoiled: 1000}
		d := reargued(random, a.doc())
		fault, _ := impl.Validate(impl.PlainSchema(), d)
		fit, _ := impl.VarsFit(d, runVars())
		if code := cmp.Or(fault, fit); code != impl.OK {
			wantNoRun(t, "a random document", d, runVars(), nil, code)
		} else if op, _ := impl.OpOf(d); op.Kind == kind {
			return d
		}
	}
}

// randomLog follows the run: of what it needs next it tells what such a key may, seldom another thing.
func randomLog(random *rand.Rand, d impl.Doc, vars []impl.Binding) (log []int) {
	wild := random.Intn(4) == 0
	for range random.Intn(40) + random.Intn(2)*4000 {
		r, code := impl.Execute(d, vars, log)
		if code != impl.OK || r.Need == -1 {
			break
		}
		n := pick(random, random.Intn(100)-50, pick(random, edgeNumbers()...))
		if r.Need%2 == 1 && !wild {
			n = max(0, random.Intn(11)-2)
		}
		log = append(log, n)
	}
	if random.Intn(8) == 0 {
		log = append(log, random.Intn(9))
	}
	return log
}

// Promise 10, of documents, logs and their beginnings as they come, held against the chapter told again.
func TestRandomRuns(t *testing.T) {
	random := rand.New(rand.NewSource(10))
	came, runs := map[int]int{}, map[string]int{}
	for range 1500 {
		d, vars := runnable(t, random), runVars()
		log := randomLog(random, d, vars)
		want, wantCode := runOfLog(d, vars, log)
		came[wantCode]++
		text, _ := impl.PrintDoc(d)
		r, code := impl.Execute(d, vars, log)
		if wantCode != impl.OK {
			wantNoRun(t, text, d, vars, log, wantCode)
			continue
		}
		if runTold(r) != want || code != impl.OK {
			t.Fatalf("Execute of %q by %v =\n%s, %d, want\n%s", text, log, runTold(r), code, want)
		}
		wantByLog(t, d, vars, log, r)
		for _, word := range []string{"needs", "writes", "errors", "[{", ".0."} {
			if strings.Contains(want, word) {
				runs[word]++
			}
		}
	}
	wantOften(t, came, impl.OK, impl.ErrMany)
	for _, word := range []string{"needs", "writes", "errors", "[{", ".0."} {
		if runs[word] < 20 {
			t.Errorf("runs with %q came %d times only: %v", word, runs[word], runs)
		}
	}
}

// Documents one after the other on one store, with versions forgotten between: what is read back is
// what was written by those without an error, in their order.
func TestRandomReplays(t *testing.T) {
	random := rand.New(rand.NewSource(110))
	came := map[string]int{}
	for range 30 {
		s, l := impl.NewStore(), newLedger()
		for range 40 {
			s = replayBeside(t, s, l, runnable(t, random), came)
			if random.Intn(10) == 0 {
				s, _, _ = impl.Forget(s, random.Intn(s.Now+1))
			}
		}
	}
	for _, word := range []string{"wrote", "errors", "read", "refused"} {
		if came[word] < 20 {
			t.Errorf("runs that %s came %d times only", word, came[word])
		}
	}
}

func replayBeside(t *testing.T, s impl.Store, l *ledger, d impl.Doc, came map[string]int) impl.Store {
	t.Helper()
	there := l.values[l.now()]
	next, text := holdReplay(t, s, d, runVars())
	r := holdAtomic(t, s, s.Now, d, runVars())
	var log []int
	for _, key := range r.Reads {
		log = append(log, there[key])
	}
	if told, code := runOfLog(d, runVars(), log); told != runTold(r) || code != impl.OK {
		t.Errorf("Atomic = %s, want %s, %d", runTold(r), told, code)
	}
	data, _ := impl.OutText(r.Out)
	want := `{"data":` + data + `}`
	if len(r.Errors) > 0 {
		if op, _ := impl.OpOf(d); op.Kind == impl.DeMutation {
			data = "null"
			came["refused"] += len(r.Writes)
		}
		want = `{"data":` + data + `,` + errorsText(r.Errors...) + `}`
		came["errors"]++
	} else if len(r.Writes) > 0 {
		l.write(r.Writes)
		came["wrote"]++
	} else {
		came["read"]++
	}
	if text != want || next.Now != l.now() {
		t.Errorf("Replay = %q at %d, want %q at %d", text, next.Now, want, l.now())
	}
	for key, n := range l.values[l.now()] {
		wantValue(t, next, key, next.Now, n)
	}
	return next
}
