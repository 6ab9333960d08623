package tests

import (
	"fmt"
	"reflect"
	"slices"
	"strconv"
	"strings"
	"testing"

	"loop.example/g00540/impl"
)

func outInt(n int) impl.Out               { return impl.Out{Kind: impl.OuInt, N: n} }
func outText(t string) impl.Out           { return impl.Out{Kind: impl.OuText, T: t} }
func outList(items ...impl.Out) impl.Out  { return impl.Out{Kind: impl.OuList, Items: items} }
func outsOf(n int, o impl.Out) []impl.Out { return slices.Repeat([]impl.Out{o}, n) }
func nameOfSize(size int) string          { return strings.Repeat("n", size) }
func isZeroOut(o impl.Out) bool           { return reflect.DeepEqual(tidyOut(o), impl.Out{}) }
func sameOuts(a, b impl.Out) bool         { return reflect.DeepEqual(tidyOut(a), tidyOut(b)) }

// outObject has the names that stand between blanks.
func outObject(names string, items ...impl.Out) impl.Out {
	return impl.Out{Kind: impl.OuObject, Keys: strings.Fields(names), Items: items}
}

// numberedObject has the names k0, k1, ..
func numberedObject(items ...impl.Out) impl.Out {
	o := impl.Out{Kind: impl.OuObject, Items: items}
	for i := range items {
		o.Keys = append(o.Keys, "k"+strconv.Itoa(i))
	}
	return o
}

// deepOut stands in so many others, each of which make puts around it.
func deepOut(others int, bottom impl.Out, make func(impl.Out) impl.Out) impl.Out {
	for range others {
		bottom = make(bottom)
	}
	return bottom
}

// wraps put a value into another one: as the one item, the first, a middle and the last one.
func wraps() []func(impl.Out) impl.Out {
	return []func(impl.Out) impl.Out{
		func(o impl.Out) impl.Out { return outList(o) },
		func(o impl.Out) impl.Out { return outObject("a", o) },
		func(o impl.Out) impl.Out { return outList(o, outInt(1), outList()) },
		func(o impl.Out) impl.Out { return outList(impl.Out{}, outList(outText("x"), outObject("")), o) },
		func(o impl.Out) impl.Out { return outObject("b a c", outInt(-1), o, outObject("a", impl.Out{})) },
		func(o impl.Out) impl.Out {
			return outObject("z a", outList(impl.Out{}), outObject("a b", outInt(0), o))
		},
	}
}

// tidyOut has nil for empty lists. The value is finite.
func tidyOut(o impl.Out) impl.Out {
	tidy := impl.Out{Kind: o.Kind, N: o.N, T: o.T, Keys: append([]string(nil), o.Keys...)}
	for _, x := range o.Items {
		tidy.Items = append(tidy.Items, tidyOut(x))
	}
	return tidy
}

// An outCase is a right value and its text.
type outCase struct {
	o    impl.Out
	text string
}

// plainOuts are right, no two of them alike.
func plainOuts() []outCase {
	inner := outObject("b a", outInt(-3), outList(impl.Out{}, outText("Node"), outObject("")))
	return []outCase{
		{impl.Out{}, `null`},
		{outInt(0), `0`}, {outInt(1), `1`}, {outInt(-1), `-1`}, {outInt(7), `7`}, {outInt(10), `10`}, {outInt(-10), `-10`}, {outInt(99), `99`}, {outInt(100), `100`}, {outInt(123456789), `123456789`},
		{outInt(impl.MaxInt), `2147483647`}, {outInt(impl.MaxInt - 1), `2147483646`}, {outInt(leastInt), `-2147483648`}, {outInt(leastInt + 1), `-2147483647`},
		{outText("a"), `"a"`}, {outText("_"), `"_"`}, {outText("Node"), `"Node"`}, {outText("null"), `"null"`}, {outText("z9_A"), `"z9_A"`}, {outText(nameOfSize(40)), `"` + nameOfSize(40) + `"`},
		{outList(), `[]`}, {outList(impl.Out{}), `[null]`}, {outList(outInt(0)), `[0]`}, {outList(outText("a")), `["a"]`}, {outList(outList()), `[[]]`}, {outList(outObject("")), `[{}]`},
		{outList(outInt(1), outInt(2)), `[1,2]`}, {outList(outInt(2), outInt(1)), `[2,1]`}, {outList(outInt(1), outInt(1), outInt(1)), `[1,1,1]`}, {outList(impl.Out{}, impl.Out{}), `[null,null]`},
		{outList(outList(outInt(1), outInt(2)), outInt(3)), `[[1,2],3]`}, {outList(outList(outInt(1)), outList(outInt(2), outInt(3))), `[[1],[2,3]]`}, {outList(outInt(1), outInt(2), outInt(3)), `[1,2,3]`},
		{outObject(""), `{}`}, {outObject("a", impl.Out{}), `{"a":null}`}, {outObject("b", impl.Out{}), `{"b":null}`}, {outObject("a", outInt(1)), `{"a":1}`}, {outObject("a", outText("a")), `{"a":"a"}`}, {outObject("a", outList()), `{"a":[]}`}, {outObject("a", outObject("")), `{"a":{}}`},
		{outObject("a b", outInt(1), outInt(2)), `{"a":1,"b":2}`}, {outObject("b a", outInt(1), outInt(2)), `{"b":1,"a":2}`}, {outObject("b a", outInt(2), outInt(1)), `{"b":2,"a":1}`}, {outObject("a A _", outInt(1), outInt(1), outInt(1)), `{"a":1,"A":1,"_":1}`},
		{outObject("z m a b10 b9", outInt(5), outText("m"), impl.Out{}, outList(outInt(9)), outObject("z", outInt(-5))), `{"z":5,"m":"m","a":null,"b10":[9],"b9":{"z":-5}}`},
		{outObject(nameOfSize(40)+" "+nameOfSize(39), outInt(1), outInt(2)), `{"` + nameOfSize(40) + `":1,"` + nameOfSize(39) + `":2}`},
		{inner, `{"b":-3,"a":[null,"Node",{}]}`}, {outList(inner, inner), `[{"b":-3,"a":[null,"Node",{}]},{"b":-3,"a":[null,"Node",{}]}]`}, {outObject("a", outObject("a", outObject("a", impl.Out{}))), `{"a":{"a":{"a":null}}}`},
		{deepOut(19, outInt(1), func(o impl.Out) impl.Out { return outList(o) }), strings.Repeat("[", 19) + "1" + strings.Repeat("]", 19)},
		{deepOut(19, outList(), func(o impl.Out) impl.Out { return outObject("a", o) }), strings.Repeat(`{"a":`, 19) + "[]" + strings.Repeat("}", 19)},
	}
}

// wrongOuts are not right by themselves: nothing within them is wrong, and they are not too great.
func wrongOuts() (list []impl.Out) {
	for _, n := range []int{impl.MaxInt + 1, leastInt - 1, 1 << 32, -1 << 32, 1<<32 + 5, hugeInt, tinyInt} {
		list = append(list, outInt(n))
	}
	for _, t := range append(wrongNames(), "", "a b", "9", "a.b", "a\"", "\xff", "é", nameOfSize(41), nameOfSize(impl.MaxText), nameOfSize(impl.MaxText+1)) {
		list = append(list, outText(t), impl.Out{Kind: impl.OuObject, Keys: []string{t}, Items: outsOf(1, impl.Out{})}, impl.Out{Kind: impl.OuObject, Keys: []string{"a", "b", t}, Items: outsOf(3, outInt(1))})
	}
	for _, kind := range []int{-1, -2, 5, 6, 255, 256, 1 << 32, 1<<32 + impl.OuInt, tinyInt, hugeInt} {
		list = append(list, impl.Out{Kind: kind}, impl.Out{Kind: kind, N: 1}, impl.Out{Kind: kind, T: "a"}, impl.Out{Kind: kind, Items: outsOf(1, impl.Out{})})
	}
	for _, keys := range []string{"a a", "a b a", "b a a", "a b c b", "a b c d e a", "aa a aa"} {
		list = append(list, outObject(keys, outsOf(len(strings.Fields(keys)), outInt(1))...))
	}
	for keys := range 4 {
		for items := range 4 {
			if keys != items {
				o := numberedObject(outsOf(keys, impl.Out{})...)
				o.Items = outsOf(items, outInt(2))
				list = append(list, o)
			}
		}
	}
	return append(list,
		impl.Out{N: 1}, impl.Out{N: -1}, impl.Out{T: "a"}, impl.Out{Keys: []string{"a"}}, impl.Out{Items: outsOf(1, impl.Out{})},
		impl.Out{Kind: impl.OuInt, T: "a"}, impl.Out{Kind: impl.OuText, N: 1, T: "a"}, impl.Out{Kind: impl.OuList, N: 1}, impl.Out{Kind: impl.OuList, T: "a"}, impl.Out{Kind: impl.OuObject, N: 1}, impl.Out{Kind: impl.OuObject, T: "a"},
		impl.Out{Kind: impl.OuList, Keys: []string{"a"}}, impl.Out{Kind: impl.OuList, Keys: []string{"a"}, Items: outsOf(1, impl.Out{})}, impl.Out{Kind: impl.OuList, Keys: []string{""}},
		impl.Out{Kind: impl.OuInt, Items: outsOf(1, impl.Out{})}, impl.Out{Kind: impl.OuText, T: "a", Keys: []string{"a"}}, impl.Out{Kind: impl.OuText, T: "a", Keys: []string{"a"}, Items: outsOf(1, impl.Out{})})
}

func wantOutOK(t *testing.T, what string, o impl.Out, want bool) {
	t.Helper()
	if got := impl.OutOK(o); got != want {
		t.Errorf("OutOK of %s = %v", what, got)
	}
}

// Each kind with each of its fields zero and not, all at once.
func TestOutOKByKindAndField(t *testing.T) {
	right := map[string]bool{
		"0": true,
		"1": true, "1 N": true,
		"2 T": true,
		"3":   true, "3 Items": true,
		"4": true, "4 Keys Items": true,
	}
	for kind := -2; kind <= 7; kind++ {
		for bits := range 16 {
			o, what := impl.Out{Kind: kind}, strconv.Itoa(kind)
			if bits&1 != 0 {
				o.N, what = 1, what+" N"
			}
			if bits&2 != 0 {
				o.T, what = "a", what+" T"
			}
			if bits&4 != 0 {
				o.Keys, what = []string{"a"}, what+" Keys"
			}
			if bits&8 != 0 {
				o.Items, what = outsOf(1, impl.Out{}), what+" Items"
			}
			wantOutOK(t, what, o, right[what])
			wantOutOK(t, what+" in a list", outList(outInt(1), o), right[what])
		}
	}
}

func TestOutOKOfNumbersAndTexts(t *testing.T) {
	for n, want := range map[int]bool{impl.MaxInt: true, impl.MaxInt + 1: false, leastInt: true, leastInt - 1: false, 0: true, -1: true, tinyInt: false, hugeInt: false} {
		wantOutOK(t, fmt.Sprint("the number ", n), outInt(n), want)
	}
	for size, want := range map[int]bool{0: false, 1: true, 39: true, 40: true, 41: false, impl.MaxText + 1: false} {
		wantOutOK(t, fmt.Sprintf("a text of %d bytes", size), outText(nameOfSize(size)), want)
		key := impl.Out{Kind: impl.OuObject, Keys: []string{"a", nameOfSize(size)}, Items: outsOf(2, impl.Out{})}
		wantOutOK(t, fmt.Sprintf("a key of %d bytes", size), key, want)
	}
}

func TestOutOKOfPlainAndWrongOnes(t *testing.T) {
	for _, c := range plainOuts() {
		wantOutOK(t, c.text, c.o, true)
	}
	for _, o := range wrongOuts() {
		wantOutOK(t, brief(o), o, false)
	}
}

// A name may stand again in another object, within or beside.
func TestOutOKOfNamesInOtherObjects(t *testing.T) {
	o := outObject("a b", outObject("a b", outInt(1), outInt(2)), outObject("b a", outInt(1), outInt(2)))
	wantOutOK(t, "names again within", o, true)
	wantOutOK(t, "names again beside", outList(o, o), true)
	wantOutOK(t, "a text of a name", outObject("a", outText("a")), true)
}

// What is wrong deep inside makes all of it wrong.
func TestOutOKOfWrongOnesInside(t *testing.T) {
	for _, o := range wrongOuts() {
		for _, wrap := range wraps() {
			for _, others := range []int{1, 2, 7} {
				wantOutOK(t, brief(o)+" inside", deepOut(others, o, wrap), false)
			}
		}
		wantOutOK(t, brief(o)+" in 18 others", deepOut(18, o, wraps()[0]), false)
		wantOutOK(t, brief(o)+" in 18 objects", deepOut(18, o, wraps()[1]), false)
	}
}

func TestOutOKByDepth(t *testing.T) {
	bottoms := []impl.Out{{}, outInt(1), outText("a"), outList(), outObject("")}
	turn := 0
	makers := append(wraps()[:3],
		func(o impl.Out) impl.Out { return outList(impl.Out{}, outObject(""), o) },
		func(o impl.Out) impl.Out { return outObject("b a c", outInt(-1), o, outList()) },
		func(o impl.Out) impl.Out {
			turn++
			return wraps()[turn%2](o)
		})
	for _, make := range makers {
		for _, bottom := range bottoms {
			for _, others := range []int{17, 18, 19, 20, 21, 40, 100} {
				wantOutOK(t, fmt.Sprintf("%s in %d others", brief(bottom), others), deepOut(others, bottom, make), others <= 19)
			}
		}
	}
	for _, others := range []int{18, 19} {
		o := deepOut(others, outList(outInt(1)), wraps()[0])
		wantOutOK(t, fmt.Sprintf("a list with a number in %d others", others), o, others < 19)
		o = deepOut(others, outObject("a", outInt(1)), wraps()[1])
		wantOutOK(t, fmt.Sprintf("an object with a number in %d others", others), o, others < 19)
	}
}

// sizedOuts have so many values in all, of at least 100: in one list, in many, in objects.
func sizedOuts(size int) map[string]impl.Out {
	outs := map[string]impl.Out{
		"a list":           outList(make([]impl.Out, size-1)...),
		"an object":        numberedObject(outsOf(size-1, outInt(3))...),
		"a list of lists":  outList(outsOf(size-1, outList())...),
		"one in another":   outList(outList(outsOf(size-2, outText("a"))...)),
		"one in an object": outObject("a", outList(outsOf(size-2, impl.Out{})...)),
		"deep inside":      deepOut(18, outList(outsOf(size-19, impl.Out{})...), wraps()[0]),
		"the last of many": outList(append(outsOf(10, outInt(1)), outList(outsOf(size-12, impl.Out{})...))...),
		"the first":        outList(outList(outsOf(size-5, impl.Out{})...), outInt(1), outInt(2), outInt(3)),
	}
	var lists, objects []impl.Out
	for range 9 {
		lists = append(lists, outList(outsOf(size/10, outInt(1))...))
		objects = append(objects, numberedObject(outsOf(size/10, impl.Out{})...))
	}
	rest := size - 1 - 9*(size/10+1)
	outs["many lists"] = outList(append(lists, outsOf(rest, impl.Out{})...)...)
	outs["many objects"] = numberedObject(append(objects, outsOf(rest, outInt(-1))...)...)
	outs["many objects in a list"] = outList(append(slices.Clone(objects), outsOf(rest, outText("T"))...)...)
	return outs
}

func TestOutOKBySize(t *testing.T) {
	for _, size := range []int{100, 3999, 4000, 4001, 4002, 4100, 8000, 20000} {
		for what, o := range sizedOuts(size) {
			if countOuts(o) != size {
				t.Fatalf("%s has %d values, not %d", what, countOuts(o), size)
			}
			wantOutOK(t, fmt.Sprintf("%s of %d values", what, size), o, size <= 4000)
		}
	}
}

func countOuts(o impl.Out) int {
	size := 1
	for _, x := range o.Items {
		size += countOuts(x)
	}
	return size
}

func wantOutText(t *testing.T, o impl.Out, want string) {
	t.Helper()
	if got, code := impl.OutText(o); got != want || code != impl.OK {
		t.Errorf("OutText of %s = %.300q, %d, want %.300q", brief(o), got, code, want)
	}
}

func TestOutText(t *testing.T) {
	for _, c := range plainOuts() {
		wantOutText(t, c.o, c.text)
	}
}

// A value's text is the same wherever it stands.
func TestOutTextWithin(t *testing.T) {
	for _, c := range plainOuts() {
		if strings.Count(c.text, "[")+strings.Count(c.text, "{") > 18 {
			continue
		}
		wantOutText(t, outList(c.o), "["+c.text+"]")
		wantOutText(t, outObject("a", c.o), `{"a":`+c.text+`}`)
		wantOutText(t, outList(c.o, outInt(1), c.o), "["+c.text+",1,"+c.text+"]")
		wantOutText(t, outObject("b a", c.o, outList(c.o)), `{"b":`+c.text+`,"a":[`+c.text+`]}`)
	}
}

// Names are told in the order of Keys, each with its own item, whatever that order is.
func TestOutTextKeepsTheOrderOfNames(t *testing.T) {
	everyOrder([]int{0, 1, 2, 3}, func(order []int) {
		o, want := impl.Out{Kind: impl.OuObject}, ""
		for _, i := range order {
			key := []string{"b", "a", "B", "_9"}[i]
			o.Keys, o.Items = append(o.Keys, key), append(o.Items, outInt(i))
			want += `,"` + key + `":` + strconv.Itoa(i)
		}
		wantOutText(t, o, "{"+want[1:]+"}")
		wantOutText(t, outList(o, o), "[{"+want[1:]+"},{"+want[1:]+"}]")
	})
	o := numberedObject(outsOf(3999, outInt(0))...)
	slices.Reverse(o.Keys)
	want := ""
	for i, key := range o.Keys {
		o.Items[i].N = i - 50
		want += `,"` + key + `":` + strconv.Itoa(i-50)
	}
	wantOutText(t, o, "{"+want[1:]+"}")
}

// everyOrder goes through all orders of the numbers.
func everyOrder(list []int, do func([]int)) {
	if len(list) == 0 {
		do(nil)
	}
	for i, first := range list {
		rest := slices.Delete(slices.Clone(list), i, i+1)
		everyOrder(rest, func(order []int) { do(append([]int{first}, order...)) })
	}
}

// No limit of a text holds for an answer.
func TestOutTextOfTheGreatest(t *testing.T) {
	wantOutText(t, outList(make([]impl.Out, 3999)...), "["+strings.Repeat("null,", 3998)+"null]")
	long := outText(nameOfSize(40))
	wantOutText(t, outList(outsOf(3999, long)...), "["+strings.Repeat(`"`+nameOfSize(40)+`",`, 3998)+`"`+nameOfSize(40)+`"]`)
	for what, o := range sizedOuts(4000) {
		if text, code := impl.OutText(o); len(text) < 4000 || code != impl.OK {
			t.Errorf("OutText of %s = %d bytes, %d", what, len(text), code)
		}
	}
}

func wantSameOut(t *testing.T, what string, a, b impl.Out, want bool) {
	t.Helper()
	if impl.SameOut(a, b) != want || impl.SameOut(b, a) != want {
		t.Errorf("SameOut of %s = %v, %v", what, impl.SameOut(a, b), impl.SameOut(b, a))
	}
}

func TestSameOut(t *testing.T) {
	outs, others := plainOuts(), plainOuts()
	for i, a := range outs {
		for k, b := range others {
			wantSameOut(t, a.text+" and "+b.text, a.o, b.o, i == k)
			wantSameOut(t, a.text+" and "+b.text+" tidied", a.o, tidyOut(b.o), i == k)
		}
	}
}

// outVariants differ from the first one in one thing each: a number, a text, a name, the order of
// names, a length, a kind. No two are alike.
func outVariants() []impl.Out {
	return []impl.Out{
		outObject("a b c", outInt(1), outText("T"), outList(outInt(1), outInt(2))),
		outObject("a b c", outInt(2), outText("T"), outList(outInt(1), outInt(2))),
		outObject("a b c", outInt(-1), outText("T"), outList(outInt(1), outInt(2))),
		outObject("a b c", outInt(1), outText("t"), outList(outInt(1), outInt(2))),
		outObject("a b c", outInt(1), outText("TT"), outList(outInt(1), outInt(2))),
		outObject("a b c", impl.Out{}, outText("T"), outList(outInt(1), outInt(2))),
		outObject("a b C", outInt(1), outText("T"), outList(outInt(1), outInt(2))),
		outObject("b a c", outInt(1), outText("T"), outList(outInt(1), outInt(2))),
		outObject("b a c", outText("T"), outInt(1), outList(outInt(1), outInt(2))),
		outObject("a b c", outInt(1), outText("T"), outList(outInt(1), outInt(2), outInt(2))),
		outObject("a b c", outInt(1), outText("T"), outList(outInt(1))),
		outObject("a b c", outInt(1), outText("T"), outList()),
		outObject("a b c", outInt(1), outText("T"), outObject("")),
		outObject("a b c", outInt(1), outText("T"), outObject("a b", outInt(1), outInt(2))),
		outObject("a b c", outInt(1), outText("T"), outList(outInt(2), outInt(1))),
		outObject("a b", outInt(1), outText("T")),
		outObject("a b c d", outInt(1), outText("T"), outList(outInt(1), outInt(2)), impl.Out{}),
		outList(outInt(1), outText("T"), outList(outInt(1), outInt(2))),
		outInt(0), {}, outList(), outObject(""), outText("a"),
	}
}

func TestSameOutOfWhatDiffersInOneThing(t *testing.T) {
	for _, others := range []int{0, 1, 4, 17} {
		for _, wrap := range wraps()[:4] {
			for i, a := range outVariants() {
				for k, b := range outVariants() {
					wantSameOut(t, fmt.Sprintf("variants %d and %d in %d others", i, k, others), deepOut(others, a, wrap), deepOut(others, b, wrap), i == k)
				}
			}
		}
	}
}

// An empty list and nil are the same.
func TestSameOutOfEmptyLists(t *testing.T) {
	for _, c := range []outCase{{impl.Out{}, "null"}, {outInt(1), "1"}, {outText("a"), `"a"`}, {outList(), "[]"}, {outObject(""), "{}"}} {
		bare := impl.Out{Kind: c.o.Kind, N: c.o.N, T: c.o.T}
		for _, o := range []impl.Out{
			{Kind: c.o.Kind, N: c.o.N, T: c.o.T, Keys: []string{}, Items: []impl.Out{}}, {Kind: c.o.Kind, N: c.o.N, T: c.o.T, Keys: make([]string, 0, 9)}, {Kind: c.o.Kind, N: c.o.N, T: c.o.T, Items: make([]impl.Out, 0, 9)},
		} {
			wantOutOK(t, c.text+" with empty lists", o, true)
			wantOutText(t, o, c.text)
			wantSameOut(t, c.text+" with empty lists and without", o, bare, true)
			wantSameOut(t, c.text+" with empty lists and without, inside", outObject("a", outList(o)), outObject("a", outList(bare)), true)
		}
	}
}

// What is not right is the same as nothing, itself included.
func TestSameOutOfWrongOnes(t *testing.T) {
	for _, o := range wrongOuts() {
		wantSameOut(t, brief(o)+" and itself", o, o, false)
		wantSameOut(t, brief(o)+" and itself inside", outList(o), outList(o), false)
		for _, c := range plainOuts() {
			wantSameOut(t, brief(o)+" and "+c.text, o, c.o, false)
		}
	}
	for _, o := range greatOuts() {
		wantSameOut(t, "one that is too great and itself", o, o, false)
	}
	for what, o := range sizedOuts(4000) {
		wantSameOut(t, what+" of 4000 values", o, tidyOut(o), true)
	}
	for what, o := range sizedOuts(4001) {
		wantSameOut(t, what+" of 4001 values", o, o, false)
	}
}

// greatOuts have too many values, or too many in one another; all of them are finite.
func greatOuts() (list []impl.Out) {
	for _, wrap := range wraps()[:2] {
		for _, bottom := range []impl.Out{{}, outList(), outObject(""), outText("a")} {
			list = append(list, deepOut(20, bottom, wrap), deepOut(21, bottom, wrap))
		}
	}
	for _, o := range sizedOuts(4001) {
		list = append(list, o)
	}
	return append(list, outList(make([]impl.Out, 4000)...), numberedObject(make([]impl.Out, 4000)...), outList(make([]impl.Out, 10000)...))
}
