package tests

import (
	"math/rand"
	"regexp"
	"slices"
	"strings"
	"testing"

	"loop.example/g00540/impl"
)

// randomDoc makes a right document of few names.
func randomDoc(random *rand.Rand) impl.Doc {
	names := append([]string{"a", "b", "_", "Z9", strings.Repeat("n", 40)}, languageWords...)
	pick := func() string { return names[random.Intn(len(names))] }
	value := func() impl.Value { v := rightValues(); return v[random.Intn(len(v))] }
	fragmentName := func() string {
		if t := pick(); t != "on" {
			return t
		}
		return "f"
	}
	dirs := func() (list []impl.Dir) {
		for range random.Intn(5) * random.Intn(2) {
			list = append(list, impl.Dir{Skip: random.Intn(2) == 0, If: value()})
		}
		return list
	}
	left := 60
	var set func(deep int) []impl.Sel
	set = func(deep int) (list []impl.Sel) {
		for range 1 + random.Intn(4) {
			if left--; left < 10 && len(list) > 0 {
				return list
			}
			x := impl.Sel{Kind: 1 + random.Intn(3), Dirs: dirs()}
			inner := deep < 7 && left > 10
			if x.Kind == impl.SeInline && !inner {
				x.Kind = impl.SeField
			}
			switch x.Kind {
			case impl.SeField:
				x.Name = pick()
				if random.Intn(2) == 0 {
					x.Alias = pick()
				}
				for range random.Intn(5) * random.Intn(2) {
					x.Args = append(x.Args, arg(pick(), value()))
				}
				inner = inner && random.Intn(2) == 0
			case impl.SeSpread:
				x.Name = fragmentName()
				inner = false
			default:
				if random.Intn(2) == 0 {
					x.Name = pick()
				}
			}
			if inner {
				x.Sels = set(deep + 1)
			}
			list = append(list, x)
		}
		return list
	}
	var d impl.Doc
	for range 1 + random.Intn(6) {
		f := impl.Def{Kind: 1 + random.Intn(3), Sels: set(1)}
		if f.Kind == impl.DeFragment {
			f.Name, f.On = fragmentName(), pick()
		} else if random.Intn(2) == 0 {
			f.Name = pick()
		}
		d.Defs = append(d.Defs, f)
	}
	return d
}

// braceDepth is how many braces stand open at most.
func braceDepth(text string) (deepest int) {
	deep := 0
	for _, c := range text {
		switch c {
		case '{':
			deep++
		case '}':
			deep--
		}
		deepest = max(deepest, deep)
	}
	return deepest
}

func TestRandomDocumentsAreReadBack(t *testing.T) {
	random := rand.New(rand.NewSource(3))
	for range 2000 {
		d := randomDoc(random)
		text, code := impl.PrintDoc(d)
		if code != impl.OK {
			t.Fatalf("PrintDoc = %d of %v", code, d)
		}
		wantDoc(t, text, d)
		tokens, _ := impl.Lex(text)
		joined, _ := impl.JoinTokens(tokens)
		wantDoc(t, joined, d)
		wantDoc(t, strings.ReplaceAll(joined, " ", "\n,# }\n"), d)
		if n, code := impl.DocDepth(d); n != braceDepth(text) || code != impl.OK {
			t.Errorf("DocDepth of %q = %d, %d", text, n, code)
		}
	}
}

// docPattern is the document's rule of texts, told again by patterns: parts are put out of the way
// from the inside, directives (0D), arguments (0A), then the sets that hold no other one (0S).
type docPattern struct{ dir, args, set, doc *regexp.Regexp }

func newDocPattern() docPattern {
	const (
		name  = `[A-Za-z_][A-Za-z_0-9]* `
		noOn  = `(?:o|on[A-Za-z_0-9]+|o[A-Za-mo-z_0-9][A-Za-z_0-9]*|[A-Za-np-z_][A-Za-z_0-9]*) `
		value = `(?:-?[0-9]+|true|false|null|\$[A-Za-z_][A-Za-z_0-9]*) `
		sel   = `(?:(?:` + name + `: )?` + name + `(?:0A )?(?:0D )*(?:0S )?|\.\.\. ` + noOn + `(?:0D )*|\.\.\. (?:on ` + name + `)?(?:0D )*0S )`
		def   = `(?:0S |(?:query|mutation) (?:` + name + `)?0S |fragment ` + noOn + `on ` + name + `0S )`
	)
	return docPattern{
		dir:  regexp.MustCompile(`@ (?:skip|include) \( if : ` + value + `\) `),
		args: regexp.MustCompile(`\( (?:` + name + `: ` + value + `)+\) `),
		set:  regexp.MustCompile(`\{ ` + sel + `+\} `),
		doc:  regexp.MustCompile(`^` + def + `+$`),
	}
}

func (p docPattern) holds(texts []string) bool {
	text := strings.Join(texts, " ") + " "
	text = p.dir.ReplaceAllString(text, "0D ")
	text = p.args.ReplaceAllString(text, "0A ")
	for {
		less := p.set.ReplaceAllString(text, "0S ")
		if less == text {
			return p.doc.MatchString(text)
		}
		text = less
	}
}

// code is what ParseDoc should answer to these tokens, but for ErrMany: a set too deep counts if
// what stands ahead of it could have been the beginning of a document.
func (p docPattern) code(texts []string) int {
	open := 0
	for i, text := range texts {
		switch text {
		case "{":
			if open++; open > 7 {
				whole := append(slices.Clone(texts[:i+1]), "a")
				if p.holds(append(whole, slices.Repeat([]string{"}"}, open)...)) {
					return impl.ErrDeep
				}
				return impl.ErrForm
			}
		case "}":
			if open--; open < 0 {
				return impl.ErrForm
			}
		}
	}
	if p.holds(texts) {
		return impl.OK
	}
	return impl.ErrForm
}

// holdAgainstDocPattern also tells whether what was read is told by the same tokens again.
func holdAgainstDocPattern(t *testing.T, p docPattern, texts []string) {
	t.Helper()
	source := strings.Join(texts, " ")
	d, code := impl.ParseDoc(source)
	want := p.code(texts)
	if code != want && !(code == impl.ErrMany && want == impl.OK) {
		t.Fatalf("ParseDoc(%q) = %d, want %d", source, code, want)
	}
	if code != impl.OK {
		return
	}
	told, _ := impl.PrintDoc(d)
	again, _ := impl.Lex(told)
	open := 0
	var with []string
	for i, text := range texts {
		if text == "{" && open == 0 && (i == 0 || texts[i-1] == "}") {
			with = append(with, "query")
		}
		open += strings.Count(text, "{") - strings.Count(text, "}")
		with = append(with, text)
	}
	joined, _ := impl.JoinTokens(again)
	if joined != strings.Join(with, " ") {
		t.Fatalf("%q is told as %q", source, told)
	}
}

// everyList calls do with every list of at most size of the words.
func everyList(words []string, size int, do func([]string)) {
	var grow func([]string)
	grow = func(list []string) {
		do(list)
		if len(list) < size {
			for _, w := range words {
				grow(append(slices.Clone(list), w))
			}
		}
	}
	grow(nil)
}

func TestShortDocumentsByPatterns(t *testing.T) {
	p := newDocPattern()
	check := func(before, after string) func([]string) {
		return func(list []string) {
			whole := append(strings.Fields(before), list...)
			holdAgainstDocPattern(t, p, append(whole, strings.Fields(after)...))
		}
	}
	everyList([]string{"query", "fragment", "on", "a", "{", "}"}, 5, check("", ""))
	everyList([]string{"fragment", "on", "a"}, 5, check("", "{ a }"))
	everyList([]string{"a", "on", ":", "...", "{", "}"}, 5, check("{", "}"))
	everyList([]string{"a", "on", "...", "{", "}"}, 5, check("{ a { a { a { a { a { a {", "b } } } } } } }"))
	everyList([]string{"a", ":", "1", "$a", "true", ")"}, 5, check("{ a (", ") }"))
	everyList([]string{"skip", "if", "(", ":", "true", ")", "@"}, 5, check("{ a @", "}"))
	everyList([]string{"@", "include", "( if : 1 )", "{ a }", "on", "a"}, 5, func(list []string) {
		check("{ ...", "}")(strings.Fields(strings.Join(list, " ")))
	})
}

func TestSpoiledDocumentsByPatterns(t *testing.T) {
	p := newDocPattern()
	random := rand.New(rand.NewSource(33))
	words := []string{"{", "}", "(", ")", "[", "]", ":", "!", "@", "...", "a", "on", "query", "fragment", "skip", "if", "true", "1", "-2", "$v"}
	for range 4000 {
		d := randomDoc(random)
		text, _ := impl.PrintDoc(docOf(d.Defs[random.Intn(len(d.Defs))]))
		tokens, _ := impl.Lex(text)
		joined, _ := impl.JoinTokens(tokens)
		list := strings.Fields(joined)
		for range 1 + random.Intn(3) {
			at := random.Intn(len(list))
			switch random.Intn(4) {
			case 0:
				list = slices.Delete(list, at, at+1)
			case 1:
				list = slices.Insert(list, at, words[random.Intn(len(words))])
			case 2:
				list[at] = words[random.Intn(len(words))]
			case 3:
				list = slices.Insert(list, at, "a", "{", "a", "{", "a", "{")
			}
			if len(list) == 0 {
				break
			}
			holdAgainstDocPattern(t, p, list)
		}
	}
}

func FuzzParseDoc(f *testing.F) {
	for _, seed := range append(deepTexts(7), append(deepTexts(8), richText, "", "{", "fragment f on on { ... on on { on } }", "{a(x:$on)@skip(if:1)@skip(if:2)}")...) {
		f.Add(seed)
	}
	p := newDocPattern()
	f.Fuzz(func(t *testing.T, text string) {
		tokens, lexed := impl.Lex(text)
		d, code := impl.ParseDoc(text)
		if lexed != impl.OK {
			if code != lexed {
				t.Fatal("ParseDoc", code, lexed)
			}
			return
		}
		texts := make([]string, len(tokens))
		for i, k := range tokens {
			texts[i], _ = impl.TokenText(k)
		}
		if len(texts) < 300 {
			holdAgainstDocPattern(t, p, texts)
		}
		if code == impl.OK {
			told, _ := impl.PrintDoc(d)
			wantDoc(t, told, d)
		}
	})
}
