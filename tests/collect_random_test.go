package tests

import (
	"math/rand"
	"reflect"
	"regexp"
	"slices"
	"strings"
	"testing"

	"loop.example/g00540/impl"
)

// randomBindings are of the names that random documents use, each bound or not.
func randomBindings(random *rand.Rand) (list []impl.Binding) {
	names := []string{"v", "w", "a", "_9", "true", "on", strings.Repeat("v", 40), "other"}
	for _, i := range random.Perm(len(names)) {
		if random.Intn(3) > 0 {
			list = append(list, binding(names[i], pick(random, yes, yes, no, no, null, intValue(0), intValue(1))))
		}
	}
	return list
}

// collectTold is chapter 6 told again: what is at the head of a pile is taken off, and what it has
// is laid on in its place. It also answers how many it left out, and how many spreads came again.
func collectTold(d impl.Doc, list []impl.Sel, vars []impl.Binding) (groups []impl.Group, out, again int) {
	values := map[string]impl.Value{}
	for _, b := range vars {
		values["$"+b.Name] = b.Value
	}
	isTrue := func(v impl.Value) bool {
		if v.Kind == impl.VaVar {
			v = values["$"+v.T]
		}
		return v == yes
	}
	spreadOnce := map[string]bool{}
	pile := slices.Clone(list)
	for len(pile) > 0 {
		x := pile[0]
		pile = pile[1:]
		if slices.ContainsFunc(x.Dirs, func(r impl.Dir) bool { return r.Skip && isTrue(r.If) || !r.Skip && !isTrue(r.If) }) {
			out++
			continue
		}
		switch x.Kind {
		case impl.SeInline:
			pile = slices.Concat(x.Sels, pile)
		case impl.SeSpread:
			f, code := impl.FragmentOf(d, x.Name)
			if spreadOnce[x.Name] {
				again++
			} else if code == impl.OK {
				pile = slices.Concat(f.Sels, pile)
			}
			spreadOnce[x.Name] = true
		case impl.SeField:
			key := x.Alias
			if key == "" {
				key = x.Name
			}
			at := slices.IndexFunc(groups, func(g impl.Group) bool { return g.Key == key })
			if at < 0 {
				at = len(groups)
				groups = append(groups, impl.Group{Key: key})
			}
			groups[at].Fields = append(groups[at].Fields, x)
		}
	}
	return groups, out, again
}

// tidyGroups has nil for empty lists, so that DeepEqual holds groups against each other.
func tidyGroups(list []impl.Group) (out []impl.Group) {
	for _, g := range list {
		out = append(out, impl.Group{Key: g.Key, Fields: tidied(docWith(g.Fields...)).Defs[0].Sels})
	}
	return out
}

var dirPattern = regexp.MustCompile(`@(skip|include)\(if: ([^ )]+)\)`)

// fitTold goes by the document's text: what stands in directives is cut out first, then what stands
// in parentheses is of arguments.
func fitTold(d impl.Doc, vars []impl.Binding) int {
	text, _ := impl.PrintDoc(d)
	words := map[string]impl.Value{"true": yes, "false": no, "null": null}
	for _, b := range vars {
		words["$"+b.Name] = b.Value
	}
	fits := true
	text = dirPattern.ReplaceAllStringFunc(text, func(part string) string {
		word := dirPattern.FindStringSubmatch(part)[2]
		fits = fits && words[word].Kind == impl.VaBool
		return ""
	})
	for _, part := range strings.Split(text, "(")[1:] {
		list := strings.Fields(part[:strings.Index(part, ")")])
		for i := 1; i < len(list); i += 2 {
			v, known := words[list[i]]
			isNumber := strings.Trim(list[i], "-0123456789") == ""
			fits = fits && (isNumber || known && v.Kind != impl.VaBool)
		}
	}
	if fits {
		return impl.OK
	}
	return impl.ErrVariable
}

// setsOf are all sets of a document, of definitions and of selections.
func setsOf(d impl.Doc) (sets [][]impl.Sel) {
	var add func(set []impl.Sel)
	add = func(set []impl.Sel) {
		sets = append(sets, set)
		for _, x := range set {
			if len(x.Sels) > 0 {
				add(x.Sels)
			}
		}
	}
	for _, f := range d.Defs {
		add(f.Sels)
	}
	return sets
}

// strewDirs puts directives on some selections, such as leave them out, and such as do not.
func strewDirs(random *rand.Rand, d impl.Doc) {
	for _, set := range setsOf(d) {
		for i := range set {
			for random.Intn(4) == 0 && len(set[i].Dirs) < 4 {
				v := pick(random, yes, no, varValue("v"), varValue("w"), varValue("a"))
				set[i].Dirs = append(set[i].Dirs, impl.Dir{Skip: random.Intn(2) == 0, If: v})
			}
		}
	}
}

// A tally is how often what chapter 6 tells apart came.
type tally struct{ met, out, again int }

// hold holds the groups of a set, and of what its groups have together, so many sets deep, against
// chapter 6 told again.
func (n *tally) hold(t *testing.T, d impl.Doc, set []impl.Sel, vars []impl.Binding, deep int) {
	t.Helper()
	groups, code := impl.Collect(d, set, vars)
	want, out, again := collectTold(d, set, vars)
	n.out += out
	n.again += again
	if code != impl.OK || !reflect.DeepEqual(tidyGroups(groups), tidyGroups(want)) {
		text, _ := impl.PrintDoc(d)
		t.Errorf("Collect of %q in %q with %v = %q, %d, want %q", selsText(set), text, vars, groupsText(groups), code, groupsText(want))
	}
	for _, g := range groups {
		n.met += len(g.Fields) - 1
		var want []impl.Sel
		for _, x := range g.Fields {
			want = slices.Concat(want, x.Sels)
		}
		merged, code := impl.MergedSels(g)
		if code != impl.OK || !reflect.DeepEqual(tidied(docWith(merged...)), tidied(docWith(want...))) {
			t.Errorf("MergedSels of %q = %q, %d, want %q", selsText(g.Fields), selsText(merged), code, selsText(want))
		}
		if deep > 0 {
			n.hold(t, d, merged, vars, deep-1)
		}
	}
}

// wantAsIncluded fails unless Collect of a selection alone has what Included says.
func wantAsIncluded(t *testing.T, d impl.Doc, x impl.Sel, vars []impl.Binding) {
	t.Helper()
	ok, code := impl.Included(x, vars)
	want := impl.OK
	for _, r := range x.Dirs {
		if _, asked := impl.ValueOf(r.If, vars); asked != impl.OK {
			want = impl.ErrVariable
		}
	}
	if code != want || code != impl.OK && ok {
		t.Errorf("Included of %q with %v = %v, %d", selsText([]impl.Sel{x}), vars, ok, code)
	}
	if groups, _ := impl.Collect(d, []impl.Sel{x}, vars); x.Kind == impl.SeField && code == impl.OK && ok != (len(groups) == 1) {
		t.Errorf("Included of %q with %v = %v, and Collect has %d groups", selsText([]impl.Sel{x}), vars, ok, len(groups))
	}
}

// skippedAway is the set without all that is skipped, and without directives.
func skippedAway(set []impl.Sel, vars []impl.Binding) (left []impl.Sel) {
	for _, x := range set {
		bare := x
		bare.Dirs = nil
		if _, out, _ := collectTold(docWith(field("a")), []impl.Sel{{Kind: impl.SeField, Name: "a", Dirs: x.Dirs}}, vars); out > 0 {
			continue
		}
		if bare.Sels = skippedAway(x.Sels, vars); x.Kind != impl.SeInline || len(bare.Sels) > 0 {
			left = append(left, bare)
		}
	}
	return left
}

// wantSkippedIsNot: a document from which all that is skipped was cut has the same keys.
func wantSkippedIsNot(t *testing.T, d impl.Doc, vars []impl.Binding) {
	t.Helper()
	var cut impl.Doc
	for _, f := range d.Defs {
		set := skippedAway(f.Sels, vars)
		if len(set) == 0 {
			set = []impl.Sel{spread("nothing_at_all")}
		}
		f.Sels = set
		cut.Defs = append(cut.Defs, f)
	}
	for i, f := range d.Defs {
		groups, code := impl.Collect(d, f.Sels, vars)
		others, cutCode := impl.Collect(cut, cut.Defs[i].Sels, nil)
		same := slices.EqualFunc(groups, others, func(a, b impl.Group) bool { return a.Key == b.Key && len(a.Fields) == len(b.Fields) })
		if code != impl.OK || cutCode != impl.OK || !same {
			t.Errorf("Collect of what is skipped = %q, without it %q", groupsText(groups), groupsText(others))
		}
	}
}

// Promise 6, and the rest of chapter 6, of documents that are right, whatever they spread.
func TestRandomDocumentsAreCollected(t *testing.T) {
	random := rand.New(rand.NewSource(6))
	fits := map[int]int{}
	var n tally
	for i := range 3000 {
		a := asker{random: random, spoiled: []int{10, 100, 1000}[i%3]}
		d := a.doc()
		switch i % 5 {
		case 0:
			d = randomDoc(random)
		case 1:
			if great := greatDoc(random); impl.DocOK(great) {
				d = great
			}
		}
		vars := randomBindings(random)
		if i%2 == 0 {
			d = tidied(d)
			strewDirs(random, d)
		}
		if i%7 == 0 {
			vars = []impl.Binding{binding("v", intValue(i)), binding("w", yes)}
		}
		for _, set := range setsOf(d) {
			n.hold(t, d, set, vars, 0)
			for _, x := range set {
				wantAsIncluded(t, d, x, vars)
			}
		}
		for _, f := range d.Defs {
			n.hold(t, d, f.Sels, vars, 3)
		}
		wantSkippedIsNot(t, d, vars)
		text, _ := impl.PrintDoc(d)
		got, code := impl.VarsFit(d, vars)
		wantCode(t, "VarsFit", text, got, code, fitTold(d, vars))
		fits[got]++
	}
	wantOften(t, fits, impl.OK, impl.ErrVariable)
	if min(n.met, n.out, n.again) < 1000 {
		t.Error("what is random is of no use", n)
	}
}
