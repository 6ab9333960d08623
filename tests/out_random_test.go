package tests

import (
	"encoding/json"
	"math/rand"
	"reflect"
	"slices"
	"strconv"
	"strings"
	"testing"

	"loop.example/g00540/impl"
)

// randomOut is right; it stands in at most so many others as there is room for.
func randomOut(random *rand.Rand, room int) impl.Out {
	kind := random.Intn(5)
	if room == 0 && kind >= impl.OuList {
		kind -= impl.OuList
	}
	switch kind {
	case impl.OuInt:
		return outInt(pick(random, 0, 1, -1, 7, leastInt, impl.MaxInt, random.Intn(1000)))
	case impl.OuText:
		return outText(pick(random, "a", "Node", "_", "null", "true", nameOfSize(40)))
	case impl.OuList:
		return outList(randomOuts(random, room-1)...)
	case impl.OuObject:
		o := impl.Out{Kind: impl.OuObject, Items: randomOuts(random, room-1)}
		names := []string{"a", "b", "A", "_", "z9", nameOfSize(40)}
		for _, i := range random.Perm(len(names))[:len(o.Items)] {
			o.Keys = append(o.Keys, names[i])
		}
		return o
	}
	return impl.Out{}
}

func randomOuts(random *rand.Rand, room int) (list []impl.Out) {
	for range pick(random, 0, 1, 1, 2, 3, 5, 6) {
		list = append(list, randomOut(random, room))
	}
	return list
}

// readJSON reads a value of an answer's text back, names in their order.
func readJSON(d *json.Decoder) impl.Out {
	k, err := d.Token()
	if err != nil {
		return impl.Out{Kind: -1}
	}
	switch x := k.(type) {
	case json.Number:
		n, _ := strconv.Atoi(x.String())
		return outInt(n)
	case string:
		return outText(x)
	case json.Delim:
		return readInside(d, x)
	}
	return impl.Out{}
}

func readInside(d *json.Decoder, open json.Delim) impl.Out {
	o := impl.Out{Kind: impl.OuList}
	for d.More() {
		if open == '{' {
			key, _ := d.Token()
			o.Kind = impl.OuObject
			o.Keys = append(o.Keys, key.(string))
		}
		o.Items = append(o.Items, readJSON(d))
	}
	d.Token()
	if open == '{' {
		o.Kind = impl.OuObject
	}
	return o
}

// outOfText is what the text tells, by a reader that is not the program's.
func outOfText(text string) impl.Out {
	d := json.NewDecoder(strings.NewReader(text))
	d.UseNumber()
	return readJSON(d)
}

// Promise 9 and the texts, of values as they come: what is told is read back, names find their items.
func TestRandomOuts(t *testing.T) {
	random := rand.New(rand.NewSource(9))
	came := map[int]int{}
	for range 4000 {
		o := randomOut(random, random.Intn(6))
		came[o.Kind]++
		if countOuts(o) > 4000 {
			wantBadOut(t, "too many values", o)
			continue
		}
		text, code := impl.OutText(o)
		if code != impl.OK || !json.Valid([]byte(text)) || strings.Contains(text, " ") || !sameOuts(outOfText(text), o) {
			t.Errorf("OutText of %s = %.300q, %d", brief(o), text, code)
		}
		wantSameOut(t, "what was read back", o, outOfText(text), true)
		if o.Kind == impl.OuObject {
			holdNames(t, o)
		}
		wantData(t, o, `{"data":`+text+`}`)
		wantData(t, o, `{"data":`+text+`,"errors":["a.0","b"]}`, "a.0", "b")
	}
	wantOften(t, came, impl.OuNull, impl.OuInt, impl.OuText, impl.OuList, impl.OuObject)
}

// holdNames asks for each name that an object has, or might have.
func holdNames(t *testing.T, o impl.Out) {
	t.Helper()
	for _, key := range []string{"a", "b", "A", "_", "z9", nameOfSize(40), nameOfSize(39), "Node", ""} {
		if at := slices.Index(o.Keys, key); at >= 0 {
			wantOutAt(t, o, key, o.Items[at])
		} else {
			wantNoOutAt(t, brief(o), o, key, impl.ErrNone)
		}
	}
}

// rightOutTold is chapter 9's sentence told again, of a value that stands in so many others.
func rightOutTold(o impl.Out, others int) bool {
	plain := impl.Out{Kind: o.Kind}
	switch o.Kind {
	case impl.OuNull:
	case impl.OuInt:
		plain.N = o.N
	case impl.OuText:
		plain.T = o.T
	case impl.OuList:
		plain.Items = o.Items
	case impl.OuObject:
		plain.Keys, plain.Items = o.Keys, o.Items
		if len(o.Keys) != len(o.Items) || twice(o.Keys) {
			return false
		}
	default:
		return false
	}
	names := slices.Clone(o.Keys)
	if o.Kind == impl.OuText {
		names = append(names, o.T)
	}
	for _, name := range names {
		if !namePattern.MatchString(name) || len(name) > 40 {
			return false
		}
	}
	for _, x := range o.Items {
		if !rightOutTold(x, others+1) {
			return false
		}
	}
	return others <= 19 && o.N == int(int32(o.N)) && reflect.DeepEqual(tidyOut(o), tidyOut(plain))
}

// spoilOut changes one thing somewhere in the value, which is its own.
func spoilOut(random *rand.Rand, o *impl.Out) {
	for len(o.Items) > 0 && random.Intn(3) > 0 {
		o = &o.Items[random.Intn(len(o.Items))]
	}
	switch random.Intn(9) {
	case 0:
		o.Kind = random.Intn(7) - 1
	case 1:
		o.N = pick(random, 0, 1, -1, leastInt-1, impl.MaxInt+1, leastInt, impl.MaxInt)
	case 2:
		o.T = pick(random, "", "a", "9", nameOfSize(40), nameOfSize(41))
	case 3:
		o.Keys = append(o.Keys, pick(random, "a", "b", "", "q"))
	case 4:
		o.Items = append(o.Items, pick(random, impl.Out{}, outInt(1), outList()))
	case 5:
		o.Items, o.Keys = append(o.Items, outInt(1)), append(o.Keys, pick(random, "a", "b", "q", "9"))
	case 6:
		if n := len(o.Keys); n > 0 {
			o.Keys[random.Intn(n)] = pick(random, "a", "b", "q", "", "a b", nameOfSize(41))
		}
	case 7:
		o.Keys, o.Items = nil, nil
	default:
		*o = deepOut(12+random.Intn(9), *o, wraps()[random.Intn(2)])
	}
}

// What is right once something was changed is told by the sentence, not by the call that is tested.
func TestSpoiledOuts(t *testing.T) {
	random := rand.New(rand.NewSource(99))
	came := map[int]int{}
	for range 20000 {
		o := tidyOut(randomOut(random, random.Intn(4)))
		for range 1 + random.Intn(2) {
			spoilOut(random, &o)
		}
		if !rightOutTold(o, 0) || countOuts(o) > 4000 {
			came[impl.ErrBad]++
			wantBadOut(t, brief(o), o)
			continue
		}
		came[impl.OK]++
		wantOutOK(t, brief(o), o, true)
		text, code := impl.OutText(o)
		if code != impl.OK || !sameOuts(outOfText(text), o) {
			t.Errorf("OutText of %s = %.300q, %d", brief(o), text, code)
		}
	}
	wantOften(t, came, impl.OK, impl.ErrBad)
}
