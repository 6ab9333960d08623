package tests

import (
	"math/rand"
	"reflect"
	"slices"
	"strings"
	"testing"

	"loop.example/g00540/impl"
)

// answersOfOut is all that the calls of chapter 9 answer, each with its code behind it.
func answersOfOut(o impl.Out, key string, paths []string) []any {
	text, textCode := impl.OutText(o)
	at, atCode := impl.OutAt(o, key)
	data, dataCode := impl.DataText(o, paths)
	fault, faultCode := impl.ErrorText(len(paths))
	plain := outObject("a", outList(outInt(1)))
	return []any{
		impl.OutOK(o), text, textCode, tidyOut(at), atCode, data, dataCode, fault, faultCode,
		impl.SameOut(o, o), impl.SameOut(o, plain), impl.SameOut(plain, o),
	}
}

// wantBadOut fails unless each call that takes the value answers ErrBad alone, ahead of all other codes.
func wantBadOut(t *testing.T, what string, o impl.Out) {
	t.Helper()
	wantOutOK(t, what, o, false)
	if text, code := impl.OutText(o); text != "" || code != impl.ErrBad {
		t.Errorf("OutText of %s = %.100q, %d", what, text, code)
	}
	for _, key := range []string{"a", "b", "none", ""} {
		wantNoOutAt(t, what, o, key, impl.ErrBad)
	}
	wantNoData(t, what, o, impl.ErrBad)
	wantNoData(t, what, o, impl.ErrBad, "a", "")
	wantSameOut(t, what+" and itself", o, o, false)
	wantSameOut(t, what+" and null", o, impl.Out{}, false)
}

func TestOutsThatAreNotRight(t *testing.T) {
	for _, o := range append(wrongOuts(), greatOuts()...) {
		wantBadOut(t, "what is not right", o)
		for _, wrap := range wraps() {
			wantBadOut(t, "what is not right inside", wrap(o))
		}
	}
}

// endlessOuts hold themselves, or share memory so that they are too great to be gone through.
func endlessOuts() []impl.Out {
	ring := []impl.Out{outInt(1), {Kind: impl.OuList}}
	ring[1].Items = ring
	lone := []impl.Out{{Kind: impl.OuList}}
	lone[0].Items = lone
	object := outObject("a b", outInt(1), outObject("a b"))
	object.Items[1].Items = object.Items
	bad := []impl.Out{{Kind: impl.OuInt}}
	bad[0].Items = bad
	wide := outList(outInt(1))
	for range 100 {
		wide = outObject("a b", wide, outList(wide, wide))
	}
	broad := outList(outsOf(1000, impl.Out{})...)
	for range 15 {
		broad = outList(outsOf(1000, broad)...)
	}
	rows := outList(outsOf(1<<20, outList())...)
	names := impl.Out{Kind: impl.OuObject, Keys: slices.Repeat([]string{"a"}, 1<<20), Items: rows.Items}
	return []impl.Out{
		outList(ring...), lone[0], object, bad[0], wide, broad, rows, names, outList(outsOf(3999, names)...),
		deepOut(200000, outInt(1), wraps()[0]), deepOut(200000, impl.Out{}, wraps()[1]),
	}
}

func TestEndlessOuts(t *testing.T) {
	for _, o := range endlessOuts() {
		wantBadOut(t, "an endless one", o)
		wantBadOut(t, "an endless one inside", outObject("a b", outInt(1), outList(impl.Out{}, o)))
	}
	a, b := endlessOuts(), endlessOuts()
	for i := range a {
		wantSameOut(t, "two endless ones", a[i], b[i], false)
	}
}

// Lists that share memory are as others, if they are finite and not too great.
func TestOutsThatShareMemory(t *testing.T) {
	o := outList(outInt(1))
	for range 6 {
		o = outObject("a b", o, o)
	}
	wantOutOK(t, "lists that share memory", o, true)
	text, code := impl.OutText(o)
	if strings.Count(text, "[1]") != 64 || code != impl.OK {
		t.Errorf("OutText of lists that share memory = %q, %d", text, code)
	}
	at, code := impl.OutAt(o, "b")
	if code != impl.OK || !sameOuts(at, o.Items[1]) {
		t.Error("OutAt of lists that share memory", at, code)
	}
	wantOwnMemory(t, "OutAt", at, o)
	wantSameOut(t, "lists that share memory and others", o, tidyOut(o), true)
	wantSameOut(t, "lists that share memory and what is in them", o, o.Items[0], false)
}

// roomyOut is the value with room behind its lists.
func roomyOut(o impl.Out) impl.Out {
	o.Keys, o.Items = withRoom(o.Keys, "behind"), withRoom(o.Items, outText("behind"))
	for i := range o.Items {
		o.Items[i] = roomyOut(o.Items[i])
	}
	return o
}

func wantRoomyOutAsItWas(t *testing.T, o impl.Out) {
	t.Helper()
	if behind(o.Keys) != "behind" || !reflect.DeepEqual(behind(o.Items), outText("behind")) {
		t.Error("a call wrote behind a list's end")
	}
	for _, x := range o.Items {
		wantRoomyOutAsItWas(t, x)
	}
}

// outsForCalls are right and not; all of them are finite.
func outsForCalls() (list []impl.Out) {
	for _, c := range plainOuts() {
		list = append(list, c.o)
	}
	list = append(list, outVariants()...)
	list = append(list, wrongOuts()...)
	for _, o := range wrongOuts()[:9] {
		list = append(list, outObject("a b", outList(o), outInt(1)))
	}
	return append(list, greatOuts()[:8]...)
}

func pathsForCalls() [][]string {
	return [][]string{nil, {}, {"a"}, {"a.b", "c", "0"}, {"c", "a..b"}, {""}, slices.Repeat([]string{"a"}, 4096), slices.Repeat([]string{"a"}, 4097)}
}

func TestArgumentsOfOutStay(t *testing.T) {
	for i, o := range outsForCalls() {
		room, ahead := roomyOut(o), tidyOut(o)
		for _, list := range pathsForCalls()[:6+i%3] {
			paths := withRoom(list, "behind")
			for _, key := range []string{"a", "b", "none"} {
				answersOfOut(room, key, paths)
			}
			if !slices.Equal(paths, list) || behind(paths) != "behind" {
				t.Fatal("a call changed its paths, or what is behind them")
			}
		}
		if !reflect.DeepEqual(tidyOut(room), ahead) {
			t.Fatalf("a call changed its value %s", brief(o))
		}
		wantRoomyOutAsItWas(t, room)
	}
}

func TestAnswersOfOutAreNew(t *testing.T) {
	paths := []string{"a.b", "c"}
	for _, o := range outsForCalls() {
		text, _ := impl.OutText(o)
		more, _ := impl.OutText(o)
		wantOwnMemory(t, "OutText", text, o, more)
		data, _ := impl.DataText(o, paths)
		again, _ := impl.DataText(o, paths)
		wantOwnMemory(t, "DataText", data, o, paths, again, text)
		for _, whole := range []impl.Out{o, outObject("a b", o, o), roomyOut(outObject("b a", outInt(1), o))} {
			at, _ := impl.OutAt(whole, "a")
			twin, _ := impl.OutAt(whole, "a")
			wantOwnMemory(t, "OutAt", at, whole, o, twin)
		}
	}
	for code := range 21 {
		text, _ := impl.ErrorText(code)
		again, _ := impl.ErrorText(code)
		wantOwnMemory(t, "ErrorText", text, again, impl.CodeWord(code))
	}
}

// What is written into an answer is not seen in what it came of, nor in another answer.
func TestOutAtIsNotItsArgument(t *testing.T) {
	o := outObject("a b", outObject("c", outList(outInt(1), outInt(2))), outInt(3))
	first, _ := impl.OutAt(o, "a")
	second, _ := impl.OutAt(o, "a")
	first.Keys[0], first.Items[0].Items[1].N = "d", 9
	first.Items[0].Items[0] = outText("x")
	wantOutText(t, o, `{"a":{"c":[1,2]},"b":3}`)
	wantOutText(t, second, `{"c":[1,2]}`)
	o.Items[0].Keys[0], o.Items[0].Items[0].Items[0].N = "e", 8
	wantOutText(t, second, `{"c":[1,2]}`)
}

func TestAlikeArgumentsHaveAlikeAnswersInOut(t *testing.T) {
	random := rand.New(rand.NewSource(91))
	outs, lists := outsForCalls(), pathsForCalls()
	keys := []string{"a", "b", "c", "z", "none", ""}
	ask := func(i int, change func(impl.Out) impl.Out) []any {
		return answersOfOut(change(outs[i%len(outs)]), keys[i%len(keys)], lists[i/3%len(lists)])
	}
	var ahead [][]any
	for i := range 900 {
		ahead = append(ahead, ask(i, roomyOut))
	}
	for _, i := range random.Perm(900) {
		same := func(o impl.Out) impl.Out { return o }
		for _, change := range []func(impl.Out) impl.Out{same, tidyOut, roomyOut} {
			if !reflect.DeepEqual(ask(i, change), ahead[i]) {
				t.Errorf("answers to %s hang on what was called ahead", brief(outs[i%len(outs)]))
			}
		}
	}
}
