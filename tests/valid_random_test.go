package tests

import (
	"cmp"
	"fmt"
	"math/rand"
	"regexp"
	"slices"
	"testing"

	"loop.example/g00540/impl"
)

// An asker makes right documents that are mostly right by PlainSchema, too; one choice of so many
// is spoiled. Names and values are few, so that fields often meet under one key.
type asker struct {
	random    *rand.Rand
	left      int
	spoiled   int
	fragments []impl.Def
}

func (a *asker) spoils() bool { return a.random.Intn(a.spoiled) == 0 }

func pick[T any](random *rand.Rand, list ...T) T { return list[random.Intn(len(list))] }

func (a *asker) doc() impl.Doc {
	a.left = 60
	a.fragments = nil
	for _, name := range []string{"f", "g", "h", "i"}[:a.random.Intn(5)] {
		if a.spoils() {
			name = "f"
		}
		on := pick(a.random, "Node", "Node", "Node", "Query", "Mutation")
		if a.spoils() {
			on = pick(a.random, "Int", "Other")
		}
		a.fragments = append(a.fragments, fragment(name, on))
	}
	defs := []impl.Def{query("", a.set("Query", 1, 0)...)}
	if a.random.Intn(4) == 0 {
		defs[0] = mutation("m", a.set("Mutation", 1, 0)...)
	}
	for i, f := range a.fragments {
		from := i + 1
		if a.random.Intn(8) == 0 {
			from = 0
		}
		f.Sels = a.set(f.On, 1, from)
		defs = append(defs, f)
	}
	if a.spoils() {
		defs = append(defs, query("", field("size")))
	}
	a.random.Shuffle(len(defs), func(i, j int) { defs[i], defs[j] = defs[j], defs[i] })
	return docOf(defs...)
}

// set has selections of a type; it spreads fragments from the number on, so that there is seldom a cycle.
func (a *asker) set(on string, deep, from int) (list []impl.Sel) {
	for range 1 + a.random.Intn(4) {
		if a.left--; a.left < 12 && len(list) > 0 {
			break
		}
		x := a.sel(on, deep, from)
		for a.random.Intn(8) == 0 && len(x.Dirs) < 4 {
			v := pick(a.random, yes, no, varValue("v"), varValue("w"))
			if a.spoils() {
				v = pick(a.random, null, intValue(0), intValue(1))
			}
			x.Dirs = append(x.Dirs, impl.Dir{Skip: a.random.Intn(2) == 0, If: v})
		}
		list = append(list, x)
	}
	return list
}

func (a *asker) sel(on string, deep, from int) impl.Sel {
	inner := deep < 7 && a.left > 12
	switch a.random.Intn(6) {
	case 0:
		if inner {
			name := pick(a.random, "", on)
			if a.spoils() {
				name = pick(a.random, "Query", "Node", "Other")
			}
			return inline(name, a.set(on, deep+1, from)...)
		}
	case 1, 2:
		if a.spoils() {
			return spread(pick(a.random, "f", "g", "h", "i", "none"))
		}
		for i, f := range a.fragments {
			if f.On == on && i >= from && a.random.Intn(2) == 0 {
				return spread(f.Name)
			}
		}
	}
	return a.field(on, deep, from, inner)
}

func (a *asker) field(on string, deep, from int, inner bool) impl.Sel {
	places := map[string]int{"Query": 0, "Mutation": 1, "Node": 2}
	at, known := places[on]
	x := field("__typename")
	if !known || a.random.Intn(8) == 0 {
		return x
	}
	f := pick(a.random, impl.PlainSchema().Types[at].Fields...)
	if a.spoils() {
		f = pick(a.random, impl.PlainSchema().Types[a.random.Intn(3)].Fields...)
	}
	if f.Type != "Int" && !inner && !a.spoils() {
		return x
	}
	x.Name = f.Name
	if a.random.Intn(4) == 0 {
		x.Alias = pick(a.random, "x", "id", "node")
	}
	for _, def := range f.Args {
		if (def.Need || a.random.Intn(2) == 0) && !a.spoils() {
			x.Args = append(x.Args, arg(def.Name, a.value(def.Need)))
		}
	}
	if a.spoils() {
		x.Args = append(x.Args, arg(pick(a.random, "id", "by", "z"), a.value(true)))
	}
	a.random.Shuffle(len(x.Args), func(i, j int) { x.Args[i], x.Args[j] = x.Args[j], x.Args[i] })
	if inner && (f.Type != "Int") != a.spoils() {
		x.Sels = a.set(f.Type, deep+1, from)
	}
	return x
}

func (a *asker) value(need bool) impl.Value {
	if a.spoils() {
		return pick(a.random, null, yes, no)
	}
	if !need && a.random.Intn(2) == 0 {
		return null
	}
	return pick(a.random, intValue(1), intValue(1), intValue(1), intValue(2), varValue("v"))
}

// A told is a document by chapter 5 told again: what it spreads is found by name anew each time.
type told struct {
	doc impl.Doc
	s   impl.Schema
}

func (d told) op() int {
	var names []string
	ops := 0
	for _, f := range d.doc.Defs {
		if f.Kind != impl.DeFragment {
			ops++
		} else {
			names = append(names, f.Name)
		}
	}
	slices.Sort(names)
	if len(slices.Compact(slices.Clone(names))) < len(names) {
		return impl.ErrTwice
	}
	return []int{impl.ErrNone, impl.OK, impl.ErrMany}[min(ops, 2)]
}

var spreadPattern = regexp.MustCompile(`\.\.\. ([A-Za-z_0-9]+)`)

// cyclic is by which name leads to which, by the texts of the fragments, and so on.
func (d told) cyclic() bool {
	leads := map[[2]string]bool{}
	var names []string
	for _, f := range d.doc.Defs {
		if f.Kind != impl.DeFragment || slices.Contains(names, f.Name) {
			continue
		}
		names = append(names, f.Name)
		text, _ := impl.PrintDoc(docOf(f))
		for _, m := range spreadPattern.FindAllStringSubmatch(text, -1) {
			leads[[2]string{f.Name, m[1]}] = true
		}
	}
	for _, over := range names {
		for _, a := range names {
			for _, b := range names {
				if leads[[2]string{a, over}] && leads[[2]string{over, b}] {
					leads[[2]string{a, b}] = true
				}
			}
		}
	}
	return slices.ContainsFunc(names, func(n string) bool { return leads[[2]string{n, n}] })
}

func (d told) fragment(name string) ([]impl.Sel, string) {
	i := slices.IndexFunc(d.doc.Defs, func(f impl.Def) bool { return f.Kind == impl.DeFragment && f.Name == name })
	if i < 0 {
		return nil, ""
	}
	return d.doc.Defs[i].Sels, d.doc.Defs[i].On
}

// A placed fault is ordered by where it stands: definition, then selections on the way, then which rule it breaks.
type placed struct {
	at   []int
	code int
}

// types has each fault that there is, of each rule by itself; the first one by its place counts.
func (d told) types() int {
	var faults []placed
	tell := func(at []int, rule, code int, broken bool) {
		if broken {
			faults = append(faults, placed{append(slices.Clone(at), -10+rule), code})
		}
	}
	var sets func(at []int, on string, list []impl.Sel)
	sets = func(at []int, on string, list []impl.Sel) {
		for i, x := range list {
			here := append(slices.Clone(at), i)
			f, found := impl.FieldAt(d.s, on, x.Name)
			isField, isName := x.Kind == impl.SeField, x.Name == "__typename"
			known := isField && found == impl.OK && !isName
			for _, r := range x.Dirs {
				tell(here, 0, impl.ErrArg, r.If.Kind == impl.VaInt || r.If.Kind == impl.VaNull)
			}
			_, of := d.fragment(x.Name)
			tell(here, 1, impl.ErrFragment, x.Kind == impl.SeSpread && of != on)
			tell(here, 1, impl.ErrFragment, x.Kind == impl.SeInline && x.Name != "" && x.Name != on)
			tell(here, 1, impl.ErrArg, isField && isName && len(x.Args) > 0)
			tell(here, 2, impl.ErrLeaf, isField && isName && len(x.Sels) > 0)
			tell(here, 3, impl.ErrField, isField && !isName && !known)
			tell(here, 4, impl.ErrArg, known && argsBySentence(x.Args, f.Args) != "")
			tell(here, 5, impl.ErrLeaf, known && f.Type == "Int" && len(x.Sels) > 0)
			tell(here, 5, impl.ErrLeaf, known && f.Type != "Int" && len(x.Sels) == 0)
			if isField {
				sets(here, f.Type, x.Sels)
			} else {
				sets(here, on, x.Sels)
			}
		}
	}
	for i, f := range d.doc.Defs {
		on := []string{"", "Query", "Mutation", f.On}[f.Kind]
		_, code := impl.TypeAt(d.s, on)
		tell([]int{i}, 0, impl.ErrFragment, code != impl.OK)
		sets([]int{i}, on, f.Sels)
	}
	if len(faults) == 0 {
		return impl.OK
	}
	return slices.MinFunc(faults, func(a, b placed) int { return slices.Compare(a.at, b.at) }).code
}

func argsBySentence(args []impl.Arg, defs []impl.ArgDef) (faults string) {
	count := map[string]int{}
	for _, a := range args {
		count[a.Name]++
		i := slices.IndexFunc(defs, func(def impl.ArgDef) bool { return def.Name == a.Name })
		if i < 0 || a.Value.Kind == impl.VaBool || defs[max(i, 0)].Need && a.Value.Kind == impl.VaNull || count[a.Name] > 1 {
			faults += a.Name + " is not right "
		}
	}
	for _, def := range defs {
		if def.Need && count[def.Name] == 0 {
			faults += def.Name + " is not there "
		}
	}
	return faults
}

// limits goes through a pile of what is still ahead, each with the fields that it is in.
func (d told) limits() int {
	type ahead struct {
		x      impl.Sel
		fields int
	}
	for _, f := range d.doc.Defs {
		var pile []ahead
		put := func(list []impl.Sel, fields int) {
			for i := len(list) - 1; i >= 0; i-- {
				pile = append(pile, ahead{list[i], fields})
			}
		}
		put(f.Sels, 0)
		for n := 1; len(pile) > 0; n++ {
			top := pile[len(pile)-1]
			pile = pile[:len(pile)-1]
			switch {
			case top.fields >= 12:
				return impl.ErrDeep
			case n == 401:
				return impl.ErrMany
			case top.x.Kind == impl.SeSpread:
				within, _ := d.fragment(top.x.Name)
				put(within, top.fields)
			case top.x.Kind == impl.SeField:
				put(top.x.Sels, top.fields+1)
			default:
				put(top.x.Sels, top.fields)
			}
		}
	}
	return impl.OK
}

// merge goes by the keys that lead to a field: whatever is at one such path must be one thing.
func (d told) merge() int {
	for _, f := range d.doc.Defs {
		asked := map[string]string{}
		clash := false
		var sets func(path string, list []impl.Sel)
		sets = func(path string, list []impl.Sel) {
			for _, x := range list {
				switch x.Kind {
				case impl.SeSpread:
					within, _ := d.fragment(x.Name)
					sets(path, within)
				case impl.SeInline:
					sets(path, x.Sels)
				case impl.SeField:
					key := x.Alias
					if key == "" {
						key = x.Name
					}
					var args []string
					for _, a := range x.Args {
						args = append(args, fmt.Sprint(a))
					}
					slices.Sort(args)
					at, thing := path+"."+key, fmt.Sprint(x.Name, args)
					if before, there := asked[at]; there && before != thing {
						clash = true
					}
					asked[at] = thing
					sets(at, x.Sels)
				}
			}
		}
		if sets("", f.Sels); clash {
			return impl.ErrMerge
		}
	}
	return impl.OK
}

var varPattern = regexp.MustCompile(`\$[A-Za-z_0-9]+`)

// vars are as they first come in the document's text.
func (d told) vars() (list []string) {
	text, _ := impl.PrintDoc(d.doc)
	for _, m := range varPattern.FindAllString(text, -1) {
		if !slices.Contains(list, m[1:]) {
			list = append(list, m[1:])
		}
	}
	return list
}

// holdAgainstTold answers the code of Validate.
func holdAgainstTold(t *testing.T, s impl.Schema, doc impl.Doc) int {
	t.Helper()
	d := told{doc, s}
	text, _ := impl.PrintDoc(doc)
	_, code := impl.OpOf(doc)
	if code != d.op() {
		t.Errorf("OpOf of %q = %d, want %d", text, code, d.op())
	}
	cyclic, code := impl.HasCycle(doc)
	if cyclic != d.cyclic() || code != impl.OK {
		t.Fatalf("HasCycle of %q = %v, %d", text, cyclic, code)
	}
	got, code := impl.CheckTypes(s, doc)
	wantCode(t, "CheckTypes", text, got, code, d.types())
	vars, code := impl.UsedVars(doc)
	if !slices.Equal(vars, d.vars()) || code != impl.OK {
		t.Errorf("UsedVars of %q = %q, %d", text, vars, code)
	}
	want := []int{d.op(), d.types()}
	limits, limited := impl.CheckLimits(doc)
	merge, merged := impl.CheckMerge(doc)
	if cyclic {
		wantSecond(t, "CheckLimits", text, limits, limited, impl.ErrCycle)
		wantSecond(t, "CheckMerge", text, merge, merged, impl.ErrCycle)
		want = append(want, impl.ErrCycle)
	} else if code := d.limits(); code != impl.OK {
		wantCode(t, "CheckLimits", text, limits, limited, code)
		wantSecond(t, "CheckMerge", text, merge, merged, code)
		want = append(want, code)
	} else {
		wantCode(t, "CheckLimits", text, limits, limited, impl.OK)
		wantCode(t, "CheckMerge", text, merge, merged, d.merge())
		want = append(want, d.merge())
	}
	got, code = impl.Validate(s, doc)
	wantCode(t, "Validate", text, got, code, cmp.Or(want...))
	return got
}

// greatDoc has fields in one another and spreads of later fragments, so that it is often too deep, or too much.
func greatDoc(random *rand.Rand) impl.Doc {
	names := []string{"f", "g", "h", "i", "j"}
	set := func(from, size int) (list []impl.Sel) {
		for range 1 + random.Intn(size) {
			x := pick(random, field("id"), inline("", field("value")))
			if from < len(names) && random.Intn(8) > 0 {
				x = spread(names[from+random.Intn(min(2, len(names)-from))])
			}
			for range random.Intn(6) * random.Intn(2) {
				x = pick(random, field("next", x), field("next", x), field("need", x), inline("", x))
			}
			list = append(list, x)
		}
		return list
	}
	size := 1 + random.Intn(6)
	d := docWith(field("nodes", set(0, size)...))
	for i, name := range names {
		d.Defs = append(d.Defs, fragment(name, "Node", set(i+1, size)...))
	}
	random.Shuffle(len(d.Defs), func(i, j int) { d.Defs[i], d.Defs[j] = d.Defs[j], d.Defs[i] })
	return d
}

// Documents that are spoiled seldom and often are held against chapter 5 told again.
func TestRandomDocumentsByTheSentences(t *testing.T) {
	random := rand.New(rand.NewSource(4))
	s := impl.PlainSchema()
	codes := map[int]int{}
	for i := range 3000 {
		a := asker{random: random, spoiled: []int{20, 100, 1000}[i%3]}
		codes[holdAgainstTold(t, s, a.doc())]++
	}
	wantOften(t, codes, impl.OK, impl.ErrMany, impl.ErrTwice, impl.ErrField, impl.ErrArg, impl.ErrLeaf, impl.ErrFragment, impl.ErrCycle, impl.ErrMerge)
	for range 500 {
		holdAgainstTold(t, s, randomDoc(random))
	}
}

func TestGreatDocumentsByTheSentences(t *testing.T) {
	random := rand.New(rand.NewSource(44))
	codes := map[int]int{}
	for range 2000 {
		if d := greatDoc(random); impl.DocOK(d) {
			codes[holdAgainstTold(t, impl.PlainSchema(), d)]++
		}
	}
	wantOften(t, codes, impl.OK, impl.ErrMany, impl.ErrDeep)
}

// wantOften fails unless each of the codes was come to, so that what is random is of use.
func wantOften(t *testing.T, came map[int]int, codes ...int) {
	t.Helper()
	for _, code := range codes {
		if came[code] < 20 {
			t.Errorf("code %d came %d times only: %v", code, came[code], came)
		}
	}
}
