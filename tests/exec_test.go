package tests

import (
	"fmt"
	"strings"
	"testing"

	"loop.example/g00540/impl"
)

// runVars are as many as there may be; x, y, z, m and b are numbers.
func runVars() []impl.Binding {
	return []impl.Binding{
		binding("x", intValue(1)), binding("y", intValue(7)), binding("z", intValue(8)), binding("m", intValue(-1)), binding("b", intValue(impl.MaxInt)),
		binding("n", null), binding("t", yes), binding("f", no),
	}
}

// runTold is a run in one line; what is empty is left out of it, and the data of a run that stops.
func runTold(r impl.Run) string {
	var parts []string
	if len(r.Reads) > 0 {
		parts = append(parts, "reads "+fmt.Sprint(r.Reads))
	}
	if len(r.Writes) > 0 {
		parts = append(parts, "writes "+fmt.Sprint(r.Writes))
	}
	if r.Need != -1 {
		parts = append(parts, fmt.Sprint("needs ", r.Need))
	}
	if r.Need == -1 || !isZeroOut(r.Out) {
		text, code := impl.OutText(r.Out)
		if code != impl.OK {
			text = brief(r.Out) + " which is not right"
		}
		parts = append(parts, text)
	}
	if len(r.Errors) > 0 {
		parts = append(parts, "errors "+fmt.Sprint(r.Errors))
	}
	return strings.Join(parts, " ")
}

func isZeroRun(r impl.Run) bool {
	return r.Need == 0 && len(r.Reads)+len(r.Writes)+len(r.Errors) == 0 && isZeroOut(r.Out)
}

func wantNoRun(t *testing.T, what string, d impl.Doc, vars []impl.Binding, log []int, want int) {
	t.Helper()
	if r, code := impl.Execute(d, vars, log); !isZeroRun(r) || code != want {
		t.Errorf("Execute of %s = %s, %d, want code %d", what, brief(r), code, want)
	}
}

// wantByLog holds a run of the whole log against the runs of each beginning of it: they tell what
// is needed next, and what was read so far, alone. More than is needed is too much.
func wantByLog(t *testing.T, d impl.Doc, vars []impl.Binding, log []int, r impl.Run) {
	t.Helper()
	text, _ := impl.PrintDoc(d)
	if len(r.Reads) != len(log) {
		t.Fatalf("Execute of %q by a log of %d reads %v", text, len(log), r.Reads)
	}
	for i := range log {
		part, code := impl.Execute(d, vars, log[:i:i])
		want := impl.Run{Need: r.Reads[i], Reads: r.Reads[:i]}
		if runTold(part) != runTold(want) || code != impl.OK {
			t.Errorf("Execute of %q by %v = %s, %d, want %s", text, log[:i], runTold(part), code, runTold(want))
		}
	}
	if r.Need == -1 {
		for _, more := range [][]int{{0}, {1, 2}, {impl.MaxInt}} {
			wantNoRun(t, text+" by more than it needs", d, vars, append(log[:len(log):len(log)], more...), impl.ErrMany)
		}
	}
}

// wantRun fails unless the document runs so with runVars.
func wantRun(t *testing.T, text string, log []int, want string) {
	t.Helper()
	d := wantDocRead(t, text)
	r, code := impl.Execute(d, runVars(), log)
	if runTold(r) != want || code != impl.OK {
		t.Errorf("Execute of %q by %v = %s, %d, want %s", text, log, runTold(r), code, want)
		return
	}
	wantByLog(t, d, runVars(), log, r)
}

// A numberArg is an argument's text and the number that it tells, if it tells one.
type numberArg struct {
	text string
	n    int
	told bool
}

func (a numberArg) isNode() bool { return a.told && a.n >= 0 && a.n <= 7 }

func numberArgs() []numberArg {
	return []numberArg{
		{"-1", -1, true}, {"0", 0, true}, {"1", 1, true}, {"3", 3, true}, {"7", 7, true}, {"8", 8, true}, {"-2", -2, true}, {"16", 16, true},
		{"2147483647", 2147483647, true}, {"-2147483648", -2147483648, true},
		{"$x", 1, true}, {"$y", 7, true}, {"$z", 8, true}, {"$m", -1, true}, {"$b", 2147483647, true}, {"$n", 0, false},
	}
}

func TestSize(t *testing.T) {
	wantRun(t, "{ size }", nil, `{"size":8}`)
	wantRun(t, "query q { a: size size }", nil, `{"a":8,"size":8}`)
}

func TestTypeName(t *testing.T) {
	wantRun(t, "{ __typename a: __typename }", nil, `{"__typename":"Query","a":"Query"}`)
	wantRun(t, "mutation { __typename }", nil, `{"__typename":"Mutation"}`)
	wantRun(t, "{ node(id: 3) { a: __typename __typename need { __typename } } }", []int{1}, `reads [7] {"node":{"a":"Node","__typename":"Node","need":{"__typename":"Node"}}}`)
	wantRun(t, "{ must(id: 3) { __typename } }", nil, `{"must":{"__typename":"Node"}}`)
	wantRun(t, "mutation { set(id: 3 value: 1) { __typename } }", nil, `writes [{6 1}] {"set":{"__typename":"Node"}}`)
	wantRun(t, "{ ... f } fragment f on Query { __typename ... on Query { a: __typename } }", nil, `{"__typename":"Query","a":"Query"}`)
}

func TestNodes(t *testing.T) {
	wantRun(t, "{ nodes { id } }", nil, `{"nodes":[{"id":0},{"id":1},{"id":2},{"id":3},{"id":4},{"id":5},{"id":6},{"id":7}]}`)
	wantRun(t, "{ a: nodes { v: value __typename } }", []int{3, 1, 4, 1, 5, 9, 2, 6}, `reads [0 2 4 6 8 10 12 14] {"a":[`+
		`{"v":3,"__typename":"Node"},{"v":1,"__typename":"Node"},{"v":4,"__typename":"Node"},{"v":1,"__typename":"Node"},`+
		`{"v":5,"__typename":"Node"},{"v":9,"__typename":"Node"},{"v":2,"__typename":"Node"},{"v":6,"__typename":"Node"}]}`)
	wantRun(t, "{ nodes { next { id } } }", []int{0, 1, 2, 3, 8, 9, -1, 0}, `reads [1 3 5 7 9 11 13 15] {"nodes":[`+
		`{"next":null},{"next":{"id":0}},{"next":{"id":1}},{"next":{"id":2}},{"next":{"id":7}},{"next":null},{"next":null},{"next":null}]}`)
}

func TestNodesByTheirNumbers(t *testing.T) {
	for _, id := range numberArgs() {
		node := fmt.Sprintf(`{"a":{"id":%d,"b":%d}}`, id.n, id.n)
		failed := `null errors [a]`
		wantNode, wantMust := node, node
		switch {
		case !id.told:
			wantNode, wantMust = `{"a":null} errors [a]`, failed
		case !id.isNode():
			wantNode, wantMust = `{"a":null}`, failed
		}
		wantRun(t, "{ a: node(id: "+id.text+") { id b: id } }", nil, wantNode)
		wantRun(t, "{ a: must(id: "+id.text+") { id b: id } }", nil, wantMust)
	}
}

func TestValue(t *testing.T) {
	for id := range 8 {
		for _, n := range []int{0, 1, -1, 9, impl.MaxInt, leastInt} {
			wantRun(t, fmt.Sprintf("{ node(id: %d) { value } }", id), []int{n}, fmt.Sprintf(`reads [%d] {"node":{"value":%d}}`, 2*id, n))
		}
	}
}

// sumTold is what a number and an argument come to, if it is one that may be.
func sumTold(n int, by numberArg) (int, bool) {
	sum := n + by.n
	return sum, by.told && sum >= -2147483648 && sum <= 2147483647
}

func edgeNumbers() []int {
	return []int{0, 1, -1, 2, 5, impl.MaxInt, impl.MaxInt - 1, impl.MaxInt - 3, leastInt, leastInt + 1, leastInt + 2}
}

func TestPlus(t *testing.T) {
	for _, by := range numberArgs() {
		for i, n := range edgeNumbers() {
			id := i % 8
			want := fmt.Sprintf(`reads [%d] {"node":{"plus":null}} errors [node.plus]`, 2*id)
			if sum, right := sumTold(n, by); right {
				want = fmt.Sprintf(`reads [%d] {"node":{"plus":%d}}`, 2*id, sum)
			}
			wantRun(t, fmt.Sprintf("{ node(id: %d) { plus(by: %s) } }", id, by.text), []int{n}, want)
		}
	}
	wantRun(t, "{ node(id: 2) { plus(by: 1) p: plus(by: 2) } }", []int{10, 20}, `reads [4 4] {"node":{"plus":11,"p":22}}`)
}

func TestNextAndNeed(t *testing.T) {
	for id := range 8 {
		for _, n := range []int{0, 1, 2, 3, 4, 5, 6, 7, 8, 9, 10, 16, 99, -1, -7, -8, impl.MaxInt, leastInt} {
			reads := fmt.Sprintf("reads [%d] ", 2*id+1)
			next, need := fmt.Sprintf(`{"node":{"a":null,"id":%d}}`, id), `{"node":null}`
			switch {
			case n >= 1 && n <= 8:
				next = fmt.Sprintf(`{"node":{"a":{"id":%d},"id":%d}}`, n-1, id)
				need = next
			case n == 0:
				need += " errors [node.a]"
			}
			wantRun(t, fmt.Sprintf("{ node(id: %d) { a: next { id } id } }", id), []int{n}, reads+next)
			wantRun(t, fmt.Sprintf("{ node(id: %d) { a: need { id } id } }", id), []int{n}, reads+need)
		}
	}
	wantRun(t, "{ node(id: 0) { next { value next { need { id value } } } } }", []int{3, 20, 8, 5, 40}, `reads [1 4 5 15 8] {"node":{"next":{"value":20,"next":{"need":{"id":4,"value":40}}}}}`)
}

func TestSet(t *testing.T) {
	for _, id := range numberArgs() {
		for _, value := range numberArgs() {
			want := `{"a":null} errors [a]`
			if id.isNode() && value.told {
				want = fmt.Sprintf(`writes [{%d %d}] {"a":{"id":%d,"value":%d}}`, 2*id.n, value.n, id.n, value.n)
			}
			wantRun(t, "mutation { a: set(id: "+id.text+" value: "+value.text+") { id value } }", nil, want)
			wantRun(t, "mutation { a: set(value: "+value.text+" id: "+id.text+") { id value } }", nil, want)
		}
	}
}

func TestAdd(t *testing.T) {
	for _, id := range numberArgs() {
		for _, by := range numberArgs() {
			text := "mutation { a: add(id: " + id.text + " by: " + by.text + ") { id value } }"
			// What is no node's, and what is no number, is told ahead of reading.
			if !id.isNode() || !by.told {
				wantRun(t, text, nil, `{"a":null} errors [a]`)
				continue
			}
			for _, n := range edgeNumbers() {
				want := fmt.Sprintf(`reads [%d] {"a":null} errors [a]`, 2*id.n)
				if sum, right := sumTold(n, by); right {
					want = fmt.Sprintf(`reads [%d] writes [{%d %d}] {"a":{"id":%d,"value":%d}}`, 2*id.n, 2*id.n, sum, id.n, sum)
				}
				wantRun(t, text, []int{n}, want)
			}
		}
	}
}

func TestLink(t *testing.T) {
	for _, id := range numberArgs() {
		for _, to := range append(numberArgs(), numberArg{text: "null"}) {
			want := `{"a":null} errors [a]`
			switch {
			case id.isNode() && to.isNode():
				want = fmt.Sprintf(`writes [{%d %d}] {"a":{"id":%d,"next":{"id":%d}}}`, 2*id.n+1, to.n+1, id.n, to.n)
			case id.isNode() && !to.told:
				want = fmt.Sprintf(`writes [{%d 0}] {"a":{"id":%d,"next":null}}`, 2*id.n+1, id.n)
			}
			wantRun(t, "mutation { a: link(id: "+id.text+" to: "+to.text+") { id next { id } } }", nil, want)
			wantRun(t, "mutation { a: link(to: "+to.text+" id: "+id.text+") { id next { id } } }", nil, want)
		}
		want := `{"link":null} errors [link]`
		if id.isNode() {
			want = fmt.Sprintf(`writes [{%d 0}] {"link":{"id":%d,"next":null}}`, 2*id.n+1, id.n)
		}
		wantRun(t, "mutation { link(id: "+id.text+") { id next { id } } }", nil, want)
	}
	wantRun(t, "mutation { link(id: 2) { need { id } } }", nil, `writes [{5 0}] {"link":null} errors [link.need]`)
	wantRun(t, "mutation { link(id: 2 to: 2) { need { need { need { id } } } } }", nil, `writes [{5 3}] {"link":{"need":{"need":{"need":{"id":2}}}}}`)
}

// Fields are told under their keys as these first come, whichever way they are asked.
func TestFragmentsAndFieldsAskedTwice(t *testing.T) {
	for text, want := range map[string]string{
		"{ size a: size size }": `{"size":8,"a":8}`,
		"{ size ... { b: size } a: size ... on Query { size b: size c: size } }":                                                `{"size":8,"b":8,"a":8,"c":8}`,
		"{ ... f size } fragment f on Query { a: size size }":                                                                   `{"a":8,"size":8}`,
		"{ ... f ... f size ... f } fragment f on Query { a: size }":                                                            `{"a":8,"size":8}`,
		"{ node(id: 1) { id } node(id: 1) { __typename id } }":                                                                  `{"node":{"id":1,"__typename":"Node"}}`,
		"{ node(id: 1) { id } size ... f } fragment f on Query { node(id: 1) { a: id ... g } } fragment g on Node { b: id id }": `{"node":{"id":1,"a":1,"b":1},"size":8}`,
		"{ node(id: $x) { id } node(id: $x) { a: id } }":                                                                        `{"node":{"id":1,"a":1}}`,
		// A fragment comes once in each object, and in each object again.
		"{ a: node(id: 1) { ... g ... g } b: node(id: 2) { ... g } } fragment g on Node { id }": `{"a":{"id":1},"b":{"id":2}}`,
		"fragment g on Node { id } { a: must(id: 1) { ... on Node { ... { ... g } } } }":        `{"a":{"id":1}}`,
		"{ size } fragment unused on Mutation { set(id: 1 value: 1) { value } }":                `{"size":8}`,
		"mutation m { ... f } fragment f on Mutation { __typename }":                            `{"__typename":"Mutation"}`,
	} {
		wantRun(t, text, nil, want)
	}
	wantRun(t, "{ node(id: 1) { next { id } } node(id: 1) { next { value } next { a: value } } }", []int{6, 50, 60}, `reads [3 10 10] {"node":{"next":{"id":5,"value":50,"a":60}}}`)
	wantRun(t, "{ node(id: 1) { value value ... { value } } }", []int{5}, `reads [2] {"node":{"value":5}}`)
	wantRun(t, "mutation { add(id: 1 by: 2) { id } ... { add(by: 2 id: 1) { value } } add(id: 1 by: 2) { a: id } }", []int{5}, `reads [2] writes [{2 7}] {"add":{"id":1,"value":7,"a":1}}`)
}

// What is skipped is not run: it reads nothing, writes nothing, has no errors, and is not told.
func TestFieldsThatAreSkipped(t *testing.T) {
	for text, want := range map[string]string{
		"{ size @skip(if: true) }":                                                            `{}`,
		"{ size @skip(if: $t) a: size @skip(if: $f) }":                                        `{"a":8}`,
		"{ size @include(if: $t) a: size @include(if: $f) }":                                  `{"size":8}`,
		"{ size @include(if: $t) @skip(if: $t) a: size }":                                     `{"a":8}`,
		"{ size @skip(if: $t) size }":                                                         `{"size":8}`,
		"{ size a: size ... @skip(if: $t) { b: size } c: size }":                              `{"size":8,"a":8,"c":8}`,
		"{ ... f @skip(if: $t) ... f } fragment f on Query { a: size }":                       `{"a":8}`,
		"{ ... f @include(if: $f) } fragment f on Query { a: size }":                          `{}`,
		"{ node(id: 1) { value @skip(if: $t) need @include(if: false) { id } } }":             `{"node":{}}`,
		"{ must(id: 9) @skip(if: $t) { id } size }":                                           `{"size":8}`,
		"{ node(id: 1) { need @skip(if: $t) { id } id } }":                                    `{"node":{"id":1}}`,
		"{ nodes { value @skip(if: true) } }":                                                 `{"nodes":[{},{},{},{},{},{},{},{}]}`,
		"mutation { set(id: 1 value: 2) @skip(if: $t) { id } }":                               `{}`,
		"mutation { set(id: 9 value: 2) @skip(if: $t) { id } a: set(id: 2 value: 2) { id } }": `writes [{4 2}] {"a":{"id":2}}`,
		"mutation { ... @skip(if: $t) { add(id: 1 by: 1) { id } } __typename }":               `{"__typename":"Mutation"}`,
	} {
		wantRun(t, text, nil, want)
	}
	// The first one that is not skipped is the one that is run; the selections of skipped ones do not join.
	wantRun(t, "{ node(id: 1) @skip(if: $t) { value } node(id: 1) { id } }", nil, `{"node":{"id":1}}`)
	wantRun(t, "{ node(id: 1) { id } node(id: 1) @include(if: $f) { value } node(id: 1) @include(if: $t) { a: value } }", []int{4}, `reads [2] {"node":{"id":1,"a":4}}`)
}
