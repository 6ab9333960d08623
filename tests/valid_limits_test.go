package tests

import (
	"strconv"
	"strings"
	"testing"

	"loop.example/g00540/impl"
)

// chainName is the name of the fragment of that number.
func chainName(n int) string { return "c" + strconv.Itoa(n) }

// chainText is a definition's text whose set leads, over fragments, to what stands in so many fields.
func chainText(head string, inFields int, bottom string) string {
	text, rest := "", ""
	for n := 0; ; n++ {
		here := min(inFields, 4)
		inFields -= here
		inside := bottom
		if inFields > 0 {
			inside = "... " + chainName(n+1)
		}
		set := "{ " + strings.Repeat("a { ", here) + inside + strings.Repeat(" }", here) + " }"
		if n == 0 {
			text = head + " " + set
		} else {
			rest += " fragment " + chainName(n) + " on T " + set
		}
		if inFields == 0 {
			return text + rest + " "
		}
	}
}

func TestFieldsInFields(t *testing.T) {
	for _, head := range []string{"query", "mutation m", "fragment x on T"} {
		for _, bottom := range []string{"b", "b b", "... none", "... e", "... { b }", "... on T { ... { b } }", "x: b(y: 1) @skip(if: true)", "... e @include(if: false)"} {
			for inFields := range 16 {
				want := impl.OK
				if inFields > 11 {
					want = impl.ErrDeep
				}
				chain := chainText(head, inFields, bottom)
				for _, text := range []string{chain + "fragment e on T { b }", "fragment e on T { ... { b } } " + chain} {
					wantLimits(t, text, want)
				}
			}
		}
	}
	// What an inline one or a spread holds is in the same fields as it.
	wantLimits(t, chainText("query", 10, "... { a { b } }"), impl.OK)
	wantLimits(t, chainText("query", 10, "... { a { a { b } } }"), impl.ErrDeep)
	wantLimits(t, chainText("query", 11, "... { a }"), impl.OK)
	wantLimits(t, chainText("query", 11, "... { a { b } }"), impl.ErrDeep)
	wantLimits(t, chainText("query", 11, "... { ... e }")+"fragment e on T { ... { a } }", impl.OK)
	wantLimits(t, chainText("query", 11, "... { ... e }")+"fragment e on T { ... { a { b } } }", impl.ErrDeep)
	wantLimits(t, chainText("query", 10, "a { b } b a { b { c } }"), impl.ErrDeep)
}

// manyText is a text whose first definition comes to so many selections, fragments being what they
// spread; each of the fragment m is 20 with its spread.
func manyText(head string, sels int, last string) string {
	spreads := strings.Repeat(" ... m", sels/20)
	if last == "fields first" {
		return head + " {" + strings.Repeat(" a", sels%20) + spreads + " } fragment m on T {" + strings.Repeat(" a", 19) + " } "
	}
	return head + " {" + spreads + strings.Repeat(" a", sels%20) + " " + last + " } fragment m on T {" + strings.Repeat(" a", 19) + " } "
}

func TestHowManySelections(t *testing.T) {
	for _, head := range []string{"query", "mutation m", "fragment x on T"} {
		for sels := 395; sels <= 405; sels++ {
			want := impl.OK
			if sels > 400 {
				want = impl.ErrMany
			}
			wantLimits(t, manyText(head, sels, ""), want)
			wantLimits(t, manyText(head, sels, "fields first"), want)
			wantLimits(t, "{ a } "+manyText(head, sels, ""), want)
			wantLimits(t, manyText(head, sels-1, "b"), want)
			wantLimits(t, manyText(head, sels-1, "... none"), want)
			wantLimits(t, manyText(head, sels-2, "... { b }"), want)
			wantLimits(t, manyText(head, sels-3, "... on T { ... none ... none }"), want)
			wantLimits(t, manyText(head, sels-3, "b { b { b } }"), want)
		}
	}
	// One of 400 and others beside it: each definition is counted by itself.
	full := "{" + strings.Repeat(" ... m", 20) + " }"
	wantLimits(t, full+" mutation "+full+" fragment m on T {"+strings.Repeat(" a", 19)+" }", impl.OK)
	wantLimits(t, "{ ... n } fragment n on T "+full+" fragment m on T {"+strings.Repeat(" a", 19)+" }", impl.ErrMany)
	wantLimits(t, "fragment n on T "+full+" fragment m on T {"+strings.Repeat(" a", 19)+" } { ... n }", impl.ErrMany)
	wantLimits(t, "fragment n on T "+full+" fragment m on T {"+strings.Repeat(" a", 19)+" } { ... none }", impl.OK)
	// Of two fragments of one name the first is spread, and the second one counted too.
	wantLimits(t, "{"+strings.Repeat(" ... m", 20)+" } fragment m on T { a } fragment m on T {"+strings.Repeat(" a", 30)+" }", impl.OK)
	wantLimits(t, "{"+strings.Repeat(" ... m", 20)+" } fragment m on T {"+strings.Repeat(" a", 30)+" } fragment m on T { a }", impl.ErrMany)
}

// Selections are gone through in their order; the first fault gives the code.
func TestWhichLimitComesFirst(t *testing.T) {
	chain := chainText("fragment deep on T", 12, "b")
	for text, want := range map[string]int{
		"{ ... deep" + strings.Repeat(" ... m", 20) + " }":                          impl.ErrDeep,
		"{" + strings.Repeat(" ... m", 20) + " ... deep }":                          impl.ErrMany,
		"{" + strings.Repeat(" ... m", 19) + " ... deep" + " ... m ... m }":         impl.ErrDeep,
		"{ a { ... deep }" + strings.Repeat(" ... m", 20) + " }":                    impl.ErrDeep,
		"{ a {" + strings.Repeat(" ... m", 20) + " ... deep } }":                    impl.ErrMany,
		"{" + strings.Repeat(" ... m", 20) + " } { ... deep }":                      impl.ErrDeep,
		"{" + strings.Repeat(" ... m", 20) + " a } { ... deep }":                    impl.ErrMany,
		"{ ... deep } {" + strings.Repeat(" ... m", 20) + " a }":                    impl.ErrDeep,
		"{ a { ... { ... deep } } } {" + strings.Repeat(" ... m", 20) + " a }":      impl.ErrDeep,
		"{" + strings.Repeat(" ... m", 20) + " ... none } { a { a { ... deep } } }": impl.ErrMany,
	} {
		wantLimits(t, text+" fragment m on T {"+strings.Repeat(" a", 19)+" } "+chain, want)
	}
	// The chain's last one is the first too deep, and the 16th of it: the spread, 12 fields, two
	// spreads, itself. Where it is also the first too many, what is named first counts.
	for ahead, want := range map[int]int{383: impl.ErrDeep, 384: impl.ErrDeep, 385: impl.ErrDeep, 386: impl.ErrMany} {
		wantLimits(t, manyText("query", ahead, "... deep")+chain, want)
	}
	for _, last := range []string{"b", "... none", "... { b }", "b { b }"} {
		wantLimits(t, manyText("query", 385, "... deep")+chainText("fragment deep on T", 12, last), impl.ErrDeep)
	}
	// Of the same places, but not too deep.
	for ahead, want := range map[int]int{383: impl.OK, 384: impl.OK, 385: impl.ErrMany} {
		wantLimits(t, manyText("query", ahead, "... deep")+chainText("fragment deep on T", 11, "... { ... none }"), want)
	}
}

// Too deep, or too many, is told as CheckMerge's second answer.
func TestLimitsAheadOfMerging(t *testing.T) {
	for text, want := range map[string]int{
		chainText("query", 12, "b"): impl.ErrDeep, chainText("query", 12, "b: a b: c"): impl.ErrDeep, manyText("query", 401, ""): impl.ErrMany, manyText("query", 399, "a: b a: c"): impl.ErrMany,
		"{ a: b a: c } " + manyText("mutation", 401, ""): impl.ErrMany, "{ a: b a: c } fragment f on T { ... f }": impl.ErrCycle,
		"{ ... deep } fragment f on T { ... f } " + chainText("fragment deep on T", 12, "b"): impl.ErrCycle, manyText("query", 401, "... f") + "fragment f on T { a { ... f } }": impl.ErrCycle,
	} {
		got, code := impl.CheckMerge(wantDocRead(t, text))
		wantSecond(t, "CheckMerge", text, got, code, want)
	}
	wantMerge(t, chainText("query", 11, "b: a b: a"), impl.OK)
	wantMerge(t, chainText("query", 11, "b: a b: c"), impl.ErrMerge)
	wantMerge(t, manyText("query", 400, ""), impl.OK)
	wantMerge(t, manyText("query", 399, "a: b"), impl.ErrMerge)
}

// multiplyingDocs have fragments that spread the next one many times each, so that all of it is great.
func multiplyingDocs(t *testing.T) []impl.Doc {
	t.Helper()
	var docs []impl.Doc
	for _, unit := range []string{"... N", "... { ... N }", "a { ... N }", "... N @skip(if: true)", "b: a(x: $v) { ... { ... N } }"} {
		size := len(strings.Split(unit, "{"))
		for _, bottom := range []string{"a", "... none", "a: b"} {
			text := "{ " + strings.Repeat(strings.ReplaceAll(unit, "N", "f1")+" ", 9/size) + "}"
			for n := 1; n < 5; n++ {
				name, next := "f"+strconv.Itoa(n), "f"+strconv.Itoa(n+1)
				text += " fragment " + name + " on T { " + strings.Repeat(strings.ReplaceAll(unit, "N", next)+" ", 9/size) + "}"
			}
			docs = append(docs, wantDocRead(t, text+" fragment f5 on T { "+bottom+" }"))
		}
	}
	return docs
}

func TestSpreadsThatMultiply(t *testing.T) {
	for _, d := range multiplyingDocs(t) {
		text, _ := impl.PrintDoc(d)
		if ok, code := impl.HasCycle(d); ok || code != impl.OK {
			t.Errorf("HasCycle of %q = %v, %d", text, ok, code)
		}
		k, code := impl.CheckLimits(d)
		wantCode(t, "CheckLimits", text, k, code, impl.ErrMany)
		k, code = impl.CheckMerge(d)
		wantSecond(t, "CheckMerge", text, k, code, impl.ErrMany)
		if k, code := impl.Validate(impl.PlainSchema(), d); k != impl.ErrField && k != impl.ErrFragment || code != impl.OK {
			t.Errorf("Validate of %q = %d, %d", text, k, code)
		}
		d.Defs[5].Sels = append(d.Defs[5].Sels, spread("f1"))
		if ok, code := impl.HasCycle(d); !ok || code != impl.OK {
			t.Errorf("HasCycle of %q with a cycle = %v, %d", text, ok, code)
		}
	}
}
