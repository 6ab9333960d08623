package tests

import (
	"math/big"
	"math/rand"
	"regexp"
	"slices"
	"strings"
	"testing"

	"loop.example/g00540/impl"
)

// requestBindings are right ones of all sorts, as many as there may be at most.
func requestBindings(random *rand.Rand) (list []impl.Binding) {
	names := append([]string{"a", "b", "v", "x", "_", "Z9", strings.Repeat("n", 40), strings.Repeat("n", 39)}, languageWords...)
	random.Shuffle(len(names), func(i, j int) { names[i], names[j] = names[j], names[i] })
	for _, name := range names[:random.Intn(9)] {
		n := pick(random, 0, 1, -1, 7, impl.MaxInt, leastInt, random.Intn(impl.MaxInt), -random.Intn(impl.MaxInt))
		list = append(list, binding(name, pick(random, intValue(n), intValue(n), yes, no, null)))
	}
	return list
}

// Promise 12, over documents and bindings of all sorts.
func TestRandomRequestsAreReadBack(t *testing.T) {
	random := rand.New(rand.NewSource(121))
	bound := map[int]int{}
	for i := range 3000 {
		d := randomDoc(random)
		if i%3 == 0 {
			a := asker{random: random, spoiled: 50}
			d = a.doc()
		}
		q := request(d, requestBindings(random)...)
		bound[len(q.Vars)]++
		text, code := impl.RequestText(q)
		if code != impl.OK {
			t.Fatalf("RequestText of %s = %d", brief(q), code)
		}
		wantRequest(t, text, q)
		told, _ := impl.PrintDoc(d)
		if !strings.HasSuffix(text, told) || strings.Count(text, "|") != min(len(q.Vars), 1) || strings.Count(text, "=") != len(q.Vars) {
			t.Fatalf("RequestText = %q", text)
		}
		wantRequest(t, spacious(random, text), q)
	}
	wantOften(t, bound, 0, 1, 2, 3, 4, 5, 6, 7, 8)
}

// spacious has many blanks where a request's text has one, and none around its bar.
func spacious(random *rand.Rand, text string) string {
	ahead, doc, barred := strings.Cut(text, "|")
	if !barred {
		ahead, doc = "", text
	}
	out := strings.Repeat(" ", random.Intn(4))
	for _, word := range strings.Fields(ahead) {
		out += word + strings.Repeat(" ", 1+random.Intn(4))
	}
	if random.Intn(2) == 0 {
		out = strings.TrimRight(out, " ")
	}
	if barred || random.Intn(2) == 0 {
		out += "|"
	}
	return out + strings.ReplaceAll(doc, " ", pick(random, " ", "\t", "\n,", " # x=1 =\n"))
}

var (
	wordPattern  = regexp.MustCompile(`^([A-Za-z_][A-Za-z_0-9]{0,39})=(true|false|null|0|-?[1-9][0-9]*)$`)
	aheadPattern = regexp.MustCompile(`[^ ]+`)
)

// valueTold is of a text that is a value's by its pattern.
func valueTold(text string) (impl.Value, bool) {
	switch text {
	case "true":
		return yes, true
	case "false":
		return no, true
	case "null":
		return null, true
	}
	n, _ := new(big.Int).SetString(text, 10)
	if n.CmpAbs(big.NewInt(1<<31)) > 0 || n.Cmp(big.NewInt(1<<31)) == 0 {
		return impl.Value{}, false
	}
	return intValue(int(n.Int64())), true
}

// requestTold is chapter 12's sentence of ReadRequest told again, but for what is a document.
func requestTold(text string) (impl.Request, int) {
	if len(text) > impl.MaxText {
		return impl.Request{}, impl.ErrLong
	}
	parts := strings.Split(text, "|")
	if len(parts) > 2 {
		return impl.Request{}, impl.ErrForm
	}
	var q impl.Request
	names := map[string]int{}
	if len(parts) == 2 {
		for _, word := range aheadPattern.FindAllString(parts[0], -1) {
			m := wordPattern.FindStringSubmatch(word)
			if m == nil {
				return impl.Request{}, impl.ErrForm
			}
			v, fits := valueTold(m[2])
			if !fits {
				return impl.Request{}, impl.ErrForm
			}
			names[m[1]]++
			q.Vars = append(q.Vars, binding(m[1], v))
		}
	}
	d, code := impl.ParseDoc(parts[len(parts)-1])
	if code != impl.OK {
		return impl.Request{}, code
	}
	if len(q.Vars) > 8 || len(names) < len(q.Vars) {
		return impl.Request{}, impl.ErrTwice
	}
	q.Doc = d
	return q, impl.OK
}

// holdAgainstRequestTold is the code. What is read is told by a text from which it is read again.
func holdAgainstRequestTold(t *testing.T, text string) int {
	t.Helper()
	want, code := requestTold(text)
	if code != impl.OK {
		wantNoRequest(t, text, code)
		return code
	}
	wantRequest(t, text, want)
	told, code := impl.RequestText(want)
	if code != impl.OK {
		t.Errorf("RequestText of what is read from %.120q = %d", text, code)
	}
	wantRequest(t, told, want)
	return impl.OK
}

// All short lists of signs, ahead of a document and around it.
func TestShortRequestsByTheSentences(t *testing.T) {
	came := map[int]int{}
	everyList([]string{"x", "=", "1", "0", "-", " ", "|"}, 6, func(list []string) {
		came[holdAgainstRequestTold(t, strings.Join(list, "")+"|{a}")]++
	})
	everyList([]string{"x=1", "y=true", " ", "|", "{a}", "#"}, 6, func(list []string) {
		came[holdAgainstRequestTold(t, strings.Join(list, ""))]++
	})
	everyList([]string{"x=1 ", "y=null ", "z=false ", "z"}, 5, func(list []string) {
		for _, rest := range []string{"|{a}", "| {", "|{a{a{a{a{a{a{a{a", "|{a}{a}{a}{a}{a}{a}{a}", "{a}", "a=1 b=1 c=1 d=1 e=1|{a}"} {
			came[holdAgainstRequestTold(t, strings.Join(list, "")+rest)]++
		}
	})
	wantOften(t, came, impl.OK, impl.ErrForm, impl.ErrDeep, impl.ErrMany, impl.ErrTwice)
}

// Texts of right requests are spoiled here and there.
func TestSpoiledRequestsByTheSentences(t *testing.T) {
	random := rand.New(rand.NewSource(122))
	came := map[int]int{}
	signs := []string{" ", "  ", "\t", "\n", ",", "|", " | ", "=", "$", "-", "0", "1", "x=1 ", "a=null ", "x=$a ", "true", "#", "{", "}", "{ a }", "2147483648", "\xff", "é"}
	for range 20000 {
		sels := pick(random, "{ a }", "{ a { b } }", "query q { ... f } fragment f on T { a(b: $x) }", "{a{a{a{a{a{a{a{a}}}}}}}}", "{a}{a}{a}{a}{a}{a}{a}")
		vars := requestBindings(random)
		if random.Intn(8) == 0 {
			vars = append(vars, vars...)
		}
		text := ""
		for _, b := range vars {
			told, _ := impl.RequestText(request(sizeDoc, b))
			text += strings.TrimSuffix(told, "| query { size }")
		}
		text += "| " + sels
		for range random.Intn(3) {
			at := random.Intn(len(text) + 1)
			to := min(len(text), at+random.Intn(2))
			text = text[:at] + pick(random, append(signs, "")...) + text[to:]
		}
		came[holdAgainstRequestTold(t, text)]++
	}
	wantOften(t, came, impl.OK, impl.ErrForm, impl.ErrDeep, impl.ErrMany, impl.ErrTwice)
}

// Requests that are spoiled are right if both of their parts are.
func TestRandomRequestsByTheSentences(t *testing.T) {
	random := rand.New(rand.NewSource(123))
	wrong := wrongBindings()
	came := map[int]int{}
	for i := range 1500 {
		a := asker{random: random, spoiled: []int{20, 1000}[i%2]}
		q := request(a.doc(), runVars()[:random.Intn(9)]...)
		if random.Intn(3) == 0 {
			q.Vars = requestBindings(random)
		}
		if random.Intn(20) == 0 {
			q.Doc.Defs[random.Intn(len(q.Doc.Defs))].Sels = nil
		}
		if random.Intn(20) == 0 {
			q.Vars = slices.Concat(q.Vars, pick(random, wrong...))
		}
		if !impl.DocOK(q.Doc) || !impl.BindingsOK(q.Vars) {
			came[impl.ErrBad]++
			wantBadRequest(t, "a spoiled request", q)
			continue
		}
		want, _ := impl.Validate(impl.PlainSchema(), q.Doc)
		if want == impl.OK {
			want, _ = impl.VarsFit(q.Doc, q.Vars)
		}
		came[want]++
		wantRequestCode(t, q, want)
		text, _ := impl.RequestText(q)
		wantRequest(t, text, q)
	}
	wantOften(t, came, impl.OK, impl.ErrBad, impl.ErrField, impl.ErrArg, impl.ErrVariable)
}

func FuzzReadRequest(f *testing.F) {
	for _, seed := range []string{"", "|", "x=1 | { size }", "x=1 x=1 | {a}", " b=true  n=null|{a}#", "x=-0 | {a}", richText, "v=3 b=true | " + richText, "x=1 | {a} # |"} {
		f.Add(seed)
	}
	f.Fuzz(func(t *testing.T, text string) { holdAgainstRequestTold(t, text) })
}
