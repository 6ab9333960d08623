package tests

import (
	"slices"
	"strconv"
	"strings"
	"testing"

	"loop.example/g00540/impl"
)

func wantOutAt(t *testing.T, o impl.Out, key string, want impl.Out) {
	t.Helper()
	if got, code := impl.OutAt(o, key); !sameOuts(got, want) || code != impl.OK {
		t.Errorf("OutAt of %s, %q = %s, %d, want %s", brief(o), key, brief(got), code, brief(want))
	}
}

func wantNoOutAt(t *testing.T, what string, o impl.Out, key string, want int) {
	t.Helper()
	if got, code := impl.OutAt(o, key); !isZeroOut(got) || code != want {
		t.Errorf("OutAt of %s, %.60q = %s, %d, want code %d", what, key, brief(got), code, want)
	}
}

// Promise 9: each name finds its own item, the first, a middle and the last one.
func TestValuesAreFoundByTheirNames(t *testing.T) {
	var items []impl.Out
	for _, c := range plainOuts() {
		if !strings.Contains(c.text, strings.Repeat("[", 19)) && strings.Count(c.text, "{") < 19 {
			items = append(items, c.o)
		}
	}
	for _, turn := range []int{0, 1, 7, len(items) - 1} {
		list := append(slices.Clone(items[turn:]), items[:turn]...)
		o := numberedObject(list...)
		for i, key := range o.Keys {
			wantOutAt(t, o, key, list[i])
		}
	}
	for _, x := range items {
		wantOutAt(t, outObject("a", x), "a", x)
		wantOutAt(t, outObject("b a", x, outInt(5)), "b", x)
		wantOutAt(t, outObject("b a", outInt(5), x), "a", x)
		wantOutAt(t, outObject("_ A a", outInt(5), x, outText("a")), "A", x)
	}
}

// Promise 9, whatever the order of the names.
func TestValuesAreFoundInEachOrder(t *testing.T) {
	names := []string{"a", "A", "aa", "_", "a1"}
	everyOrder([]int{0, 1, 2, 3, 4}, func(order []int) {
		o := impl.Out{Kind: impl.OuObject}
		for _, i := range order {
			o.Keys, o.Items = append(o.Keys, names[i]), append(o.Items, outInt(i))
		}
		for i, key := range names {
			wantOutAt(t, o, key, outInt(i))
		}
	})
}

func TestValuesAreFoundAtTheLimits(t *testing.T) {
	o := numberedObject(outsOf(3999, impl.Out{})...)
	for i := range o.Items {
		o.Items[i] = outInt(-i)
	}
	for _, i := range []int{0, 1, 9, 10, 1999, 2000, 3997, 3998} {
		wantOutAt(t, o, "k"+strconv.Itoa(i), outInt(-i))
	}
	wantNoOutAt(t, "3999 names", o, "k3999", impl.ErrNone)
	long := outObject(nameOfSize(39)+" "+nameOfSize(40), outInt(1), outInt(2))
	wantOutAt(t, long, nameOfSize(39), outInt(1))
	wantOutAt(t, long, nameOfSize(40), outInt(2))
	wantNoOutAt(t, "long names", long, nameOfSize(41), impl.ErrNone)
	deep := deepOut(18, outList(), wraps()[1])
	wantOutAt(t, outObject("b", deep), "b", deep)
	great := outList(outsOf(3998, outText("a"))...)
	wantOutAt(t, outObject("great", great), "great", great)
}

// Only the object's own names count, and they are taken byte by byte.
func TestNamesThatAreNotThere(t *testing.T) {
	inner := outObject("deep deeper", outInt(1), outObject("deepest", outText("told")))
	o := outObject("a bb _c", inner, outList(outObject("listed", outInt(3))), outText("text"))
	for _, key := range []string{"c", "A", "aa", "b", "bbb", "_", "_C", "deep", "deeper", "deepest", "listed", "text", "told", "a.deep", "null"} {
		wantNoOutAt(t, "names that are not there", o, key, impl.ErrNone)
		wantNoOutAt(t, "an object of nothing", outObject(""), key, impl.ErrNone)
	}
	wantOutAt(t, o, "a", inner)
	wantOutAt(t, inner, "deeper", outObject("deepest", outText("told")))
}

// What is no name is no object's name, so there is none.
func TestKeysThatAreNoNames(t *testing.T) {
	o := outObject("a b", outInt(1), outInt(2))
	short := slices.DeleteFunc(wrongNames(), func(t string) bool { return len(t) > impl.MaxText })
	for _, key := range append(short, "", " ", "0", "1", "9a", "a ", " a", "a b", "a,b", "a.b", `"a"`, "a\x00", "\xff", "é", nameOfSize(41), strings.Repeat("a", impl.MaxText)) {
		wantNoOutAt(t, "a key that is no name", o, key, impl.ErrNone)
		wantNoOutAt(t, "a key that is no name, of an object of nothing", outObject(""), key, impl.ErrNone)
	}
}

func TestOutAtOfWhatIsNoObject(t *testing.T) {
	for _, c := range plainOuts() {
		if c.o.Kind != impl.OuObject {
			for _, key := range []string{"a", "none", "", "0", nameOfSize(41)} {
				wantNoOutAt(t, c.text, c.o, key, impl.ErrBad)
			}
		}
	}
}

// The object must be right as a whole, wherever the name stands.
func TestOutAtOfWhatIsNotRight(t *testing.T) {
	for _, bad := range wrongOuts() {
		for _, o := range []impl.Out{bad, outObject("a", bad), outObject("a b", outInt(1), bad), outObject("b a", outList(outInt(1), bad), outInt(1)), outObject("a b", outInt(1), outObject("c", outList(bad)))} {
			for _, key := range []string{"a", "b", "none", "", "0"} {
				wantNoOutAt(t, brief(o), o, key, impl.ErrBad)
			}
		}
	}
	for _, great := range greatOuts() {
		wantNoOutAt(t, "an object with too much", outObject("a b", outInt(1), great), "a", impl.ErrBad)
		wantNoOutAt(t, "an object with too much", outObject("a b", outInt(1), great), "none", impl.ErrBad)
	}
	deep := outObject("a b", outInt(1), deepOut(19, impl.Out{}, wraps()[0]))
	wantNoOutAt(t, "an object that is too deep", deep, "a", impl.ErrBad)
	twice := outObject("a b a", outInt(1), outInt(2), outInt(3))
	for _, key := range []string{"a", "b", "c"} {
		wantNoOutAt(t, "a name twice", twice, key, impl.ErrBad)
	}
}

// Too long is told ahead of all else.
func TestOutAtOfLongKeys(t *testing.T) {
	for _, size := range []int{impl.MaxText + 1, 3 * impl.MaxText} {
		key := nameOfSize(size)
		for _, o := range []impl.Out{outObject("a", outInt(1)), outObject(""), outInt(1), {}, {N: 1}, {Kind: impl.OuObject, Keys: []string{key}, Items: outsOf(1, impl.Out{})}} {
			wantNoOutAt(t, brief(o), o, key, impl.ErrLong)
		}
	}
	key := nameOfSize(impl.MaxText)
	wantNoOutAt(t, "a key of MaxText bytes", outObject("a", outInt(1)), key, impl.ErrNone)
	wantNoOutAt(t, "a key of MaxText bytes, of no object", outInt(1), key, impl.ErrBad)
}
