package tests

import (
	"math"
	"math/rand"
	"regexp"
	"slices"
	"strconv"
	"strings"
	"testing"

	"loop.example/g00540/impl"
)

var puncts = []string{"{", "}", "(", ")", "[", "]", ":", "!", "@", "..."}

func name(t string) impl.Token     { return impl.Token{Kind: impl.TkName, T: t} }
func variable(t string) impl.Token { return impl.Token{Kind: impl.TkVar, T: t} }
func punct(t string) impl.Token    { return impl.Token{Kind: impl.TkPunct, T: t} }
func number(n int) impl.Token      { return impl.Token{Kind: impl.TkInt, N: n} }

// rightTokens has tokens of every kind, at the edges of each.
func rightTokens() []impl.Token {
	list := []impl.Token{
		name("a"), name("Z"), name("_"), name("_0"), name("true"), name("on"), name(strings.Repeat("n", 40)),
		variable("a"), variable("_"), variable("Z9"), variable(strings.Repeat("v", 40)),
		number(0), number(1), number(-1), number(9), number(10), number(-10), number(1000000007),
		number(2147483647), number(-2147483647), number(-2147483648),
	}
	for _, p := range puncts {
		list = append(list, punct(p))
	}
	return list
}

func wrongTokens() []impl.Token {
	list := []impl.Token{
		{}, {Kind: 5}, {Kind: -1, T: "a"}, {Kind: 5, T: "a"}, {Kind: math.MinInt}, {T: "a"}, {N: 1},
		name(""), name("9"), name("a b"), name("$a"), name("a-"), name("{"), name(strings.Repeat("n", 41)),
		name(strings.Repeat("n", impl.MaxText+1)), {Kind: impl.TkName, T: "a", N: 1},
		variable(""), variable("9"), variable("$a"), variable(strings.Repeat("v", 41)), {Kind: impl.TkVar, T: "a", N: -1},
		number(2147483648), number(-2147483649), number(math.MaxInt), number(math.MinInt), {Kind: impl.TkInt, N: 1, T: "1"}, {Kind: impl.TkInt, T: "a"},
		punct(""), punct("."), punct(".."), punct("...."), punct("{}"), punct("$"), punct("-"), punct(","), punct("#"), punct(" "), punct("%"), punct("="), punct("|"), punct("\""), punct("a"), punct("1"), {Kind: impl.TkPunct, T: "{", N: 1},
	}
	return list
}

// wantTokens fails unless the text is read as these tokens.
func wantTokens(t *testing.T, text string, want ...impl.Token) {
	t.Helper()
	list, code := impl.Lex(text)
	if code != impl.OK || !slices.Equal(list, want) {
		t.Errorf("Lex(%.60q) = %v, %d, want %v", text, list, code, want)
	}
}

// wantFault fails unless the text is refused with the code, and nothing else is answered.
func wantFault(t *testing.T, text string, want int) {
	t.Helper()
	list, code := impl.Lex(text)
	if code != want || len(list) != 0 {
		t.Errorf("Lex(%.60q) = %d tokens, code %d, want code %d", text, len(list), code, want)
	}
}

func TestConstantsOfTokens(t *testing.T) {
	if impl.TkName != 1 || impl.TkInt != 2 || impl.TkVar != 3 || impl.TkPunct != 4 {
		t.Error("kinds")
	}
	if impl.MaxInt != 2147483647 || impl.MaxTokens != 4000 {
		t.Error("limits")
	}
}

func TestIsInt(t *testing.T) {
	for n, want := range map[int]bool{
		0: true, 1: true, -1: true, 2147483646: true, 2147483647: true, 2147483648: false, 4294967296: false,
		-2147483647: true, -2147483648: true, -2147483649: false, -4294967296: false, math.MaxInt: false, math.MinInt: false,
	} {
		if impl.IsInt(n) != want {
			t.Errorf("IsInt(%d) = %v", n, !want)
		}
	}
}

func TestTokenTextIsReadBack(t *testing.T) {
	for _, k := range rightTokens() {
		if !impl.TokenOK(k) {
			t.Errorf("TokenOK(%v) = false", k)
		}
		text, code := impl.TokenText(k)
		if code != impl.OK {
			t.Errorf("TokenText(%v) = code %d", k, code)
		}
		wantTokens(t, text, k)
	}
}

func TestTokenTextAsItIsTold(t *testing.T) {
	for text, k := range map[string]impl.Token{
		"a": name("a"), "$a": variable("a"), "0": number(0), "-1": number(-1), "120": number(120), "2147483647": number(2147483647),
		"-2147483648": number(-2147483648), "...": punct("..."), "}": punct("}"), "@": punct("@"),
	} {
		if got, code := impl.TokenText(k); got != text || code != impl.OK {
			t.Errorf("TokenText(%v) = %q, %d, want %q", k, got, code, text)
		}
	}
}

func TestWrongTokens(t *testing.T) {
	for _, k := range wrongTokens() {
		if impl.TokenOK(k) {
			t.Errorf("TokenOK(%.60v) = true", k)
		}
		if text, code := impl.TokenText(k); text != "" || code != impl.ErrBad {
			t.Errorf("TokenText(%.60v) = %q, %d", k, text, code)
		}
		for _, list := range [][]impl.Token{{k}, {name("a"), k}, {k, name("a")}} {
			if text, code := impl.JoinTokens(list); text != "" || code != impl.ErrBad {
				t.Errorf("JoinTokens(%.60v) = %q, %d", list, text, code)
			}
		}
	}
}

func TestJoinTokens(t *testing.T) {
	if text, code := impl.JoinTokens([]impl.Token{name("a"), punct("("), variable("b"), number(-3), punct("..."), punct(")")}); text != "a ( $b -3 ... )" || code != impl.OK {
		t.Errorf("JoinTokens = %q, %d", text, code)
	}
	for _, list := range [][]impl.Token{nil, {}} {
		if text, code := impl.JoinTokens(list); text != "" || code != impl.OK {
			t.Errorf("JoinTokens of nothing = %q, %d", text, code)
		}
	}
	text, code := impl.JoinTokens(rightTokens())
	if code != impl.OK {
		t.Fatal("JoinTokens", code)
	}
	wantTokens(t, text, rightTokens()...)
}

func TestJoinTokensByLength(t *testing.T) {
	for size, want := range map[int]int{1: impl.ErrBad, 4000: impl.ErrBad, 4001: impl.ErrMany, 4096: impl.ErrMany, 4097: impl.ErrLong, 10000: impl.ErrLong} {
		if text, code := impl.JoinTokens(make([]impl.Token, size)); text != "" || code != want {
			t.Errorf("JoinTokens of %d wrong tokens = %.20q, %d, want %d", size, text, code, want)
		}
		right := slices.Repeat([]impl.Token{name("a")}, size)
		if want == impl.ErrBad {
			want = impl.OK
		}
		if _, code := impl.JoinTokens(right); code != want {
			t.Errorf("JoinTokens of %d tokens = %d, want %d", size, code, want)
		}
	}
}

func TestJoinTokensBeyondMaxText(t *testing.T) {
	list := slices.Repeat([]impl.Token{variable(strings.Repeat("v", 40))}, 4000)
	text, code := impl.JoinTokens(list)
	if len(text) != 4000*41+3999 || code != impl.OK {
		t.Error("JoinTokens", len(text), code)
	}
	wantFault(t, text, impl.ErrLong)
}

func TestBlanksBetween(t *testing.T) {
	gaps := []string{
		" ", "\t", "\n", "\r", ",", "  ", ",,", " , ", "\r\n", " \t\n\r,", "#\n", "# a { 1 $ % \" . \x00\xff é\n",
		"#a\n#b\n", " #\n ", "# a\r b\n", "###\n,\n#,\n", strings.Repeat(" ", 500),
	}
	for _, gap := range gaps {
		text := gap
		for _, k := range rightTokens() {
			told, _ := impl.TokenText(k)
			text += told + gap
		}
		wantTokens(t, text, rightTokens()...)
		wantTokens(t, gap)
	}
	for _, text := range []string{"", "#", "# a", ",#", "\n\n#%", "#\r1"} {
		wantTokens(t, text)
	}
	wantTokens(t, "a# b", name("a"))
	wantTokens(t, "1#2\n3", number(1), number(3))
	for _, b := range []string{"\x00", "\v", "\f", "\x1f", "\x7f", "\x80", "\u00a0", "\u2028", "\ufeff", ";", "=", "|", "&", "\"", "+", "/", "\\", "'", "`", "~", "^", "*", "<", ">", "?", "%"} {
		wantFault(t, b, impl.ErrForm)
		wantFault(t, "a "+b+" b", impl.ErrForm)
		wantFault(t, "a"+b, impl.ErrForm)
		wantFault(t, "1"+b, impl.ErrForm)
	}
}

func TestNothingBetween(t *testing.T) {
	wantTokens(t, "a$b", name("a"), variable("b"))
	wantTokens(t, "$a$b", variable("a"), variable("b"))
	wantTokens(t, "a-1", name("a"), number(-1))
	wantTokens(t, "1-2", number(1), number(-2))
	wantTokens(t, "0-1", number(0), number(-1))
	wantTokens(t, "$a-1", variable("a"), number(-1))
	wantTokens(t, "1$a", number(1), variable("a"))
	wantTokens(t, "a...b", name("a"), punct("..."), name("b"))
	wantTokens(t, "1...2", number(1), punct("..."), number(2))
	wantTokens(t, "......", punct("..."), punct("..."))
	wantTokens(t, strings.Join(puncts, ""), rightTokens()[len(rightTokens())-len(puncts):]...)
	wantTokens(t, "a:1!b9@c", name("a"), punct(":"), number(1), punct("!"), name("b9"), punct("@"), name("c"))
}

func TestNumbersAtTheirEdges(t *testing.T) {
	for _, n := range []int{0, 1, 9, 10, 99, 2147483646, 2147483647, -1, -9, -10, -2147483647, -2147483648} {
		wantTokens(t, strconv.Itoa(n), number(n))
	}
	wrong := []string{
		"-", "- 1", "-,1", "--1", "-a", "-_", "-$a", "-.", "-{", "-#\n1", "-0", "-00", "-01", "-0a", "00", "01", "007", "0000000000", "00a",
		"0x1", "0b1", "0o7", "1a", "9_", "1_000", "1e3", "12345678901a", "-1a", "-1_", "1.5", "1.", ".1", "+1", "1é", "1\xff",
		"2147483648", "-2147483649", "4294967296", "4294967297", "-4294967295", "9999999999",
		"9223372036854775807", "9223372036854775808", "-9223372036854775808", "-9223372036854775809", "18446744073709551616", "18446744073709551617",
		strings.Repeat("9", 18), strings.Repeat("9", 19), strings.Repeat("1", impl.MaxText), "-" + strings.Repeat("1", impl.MaxText-1), strings.Repeat("0", impl.MaxText),
	}
	for _, text := range wrong {
		wantFault(t, text, impl.ErrForm)
		if len(text) < 100 {
			wantFault(t, "a { "+text, impl.ErrForm)
			wantFault(t, text+" a", impl.ErrForm)
		}
	}
}

func TestNamesAtTheirEdges(t *testing.T) {
	name40 := strings.Repeat("aB9_", 10)
	wantTokens(t, name40, name(name40))
	wantTokens(t, "$"+name40, variable(name40))
	wantTokens(t, "{"+name40+"}", punct("{"), name(name40), punct("}"))
	for _, more := range []string{"a", "Z", "_", "0"} {
		wantFault(t, name40+more, impl.ErrForm)
		wantFault(t, "$"+name40+more, impl.ErrForm)
	}
	for _, text := range []string{"$", "$ a", "$,a", "$1", "$9a", "$$a", "$-1", "a $", "${", "$é", "é", "aé", "a\xff", strings.Repeat("a", impl.MaxText)} {
		wantFault(t, text, impl.ErrForm)
	}
}

func TestPoints(t *testing.T) {
	wantTokens(t, "...", punct("..."))
	for _, text := range []string{".", "..", "....", ".....", ". ..", ".. .", ". . .", "..,.", "a.b", "..a", ".#\n..", "... .", "{.."} {
		wantFault(t, text, impl.ErrForm)
	}
}

func TestHowManyTokens(t *testing.T) {
	for _, one := range []string{"a ", "{", "1,", "$a\n", "...", "-1", "#\na ", "a#a a a\n"} {
		full := strings.Repeat(one, 4000)
		list, code := impl.Lex(full)
		if len(list) != 4000 || code != impl.OK {
			t.Errorf("Lex of 4000 %q = %d, %d", one, len(list), code)
		}
		wantFault(t, full+one, impl.ErrMany)
		wantFault(t, full+one+"%", impl.ErrMany)
		if list, code := impl.Lex(full + " , # % a\n#"); len(list) != 4000 || code != impl.OK {
			t.Errorf("Lex of 4000 %q and blanks = %d, %d", one, len(list), code)
		}
	}
	full := strings.Repeat("a ", 4000)
	for _, wrong := range []string{"%", "01", "-", "-0", "9a", "$", "..", "2147483648", strings.Repeat("n", 41), "$" + strings.Repeat("n", 41), "\xff"} {
		wantFault(t, full+wrong, impl.ErrForm)
		wantFault(t, full+wrong+" a", impl.ErrForm)
		wantFault(t, full+"a "+wrong, impl.ErrMany)
		wantFault(t, wrong+" "+full+"a", impl.ErrForm)
	}
	wantFault(t, strings.Repeat("{", impl.MaxText), impl.ErrMany)
}

func TestTextsThatAreLong(t *testing.T) {
	for _, one := range []string{" ", "%", "{", "a", "1", "#", "\n", "é", "\xff"} {
		text := strings.Repeat(one, impl.MaxText+1)
		wantFault(t, text, impl.ErrLong)
		wantFault(t, text[:impl.MaxText+1], impl.ErrLong)
	}
	wantTokens(t, strings.Repeat(" ", impl.MaxText))
	wantTokens(t, "#"+strings.Repeat("\xff", impl.MaxText-1))
	wantTokens(t, strings.Repeat(",", impl.MaxText-1)+"a", name("a"))
	wantTokens(t, "..."+strings.Repeat("\n", impl.MaxText-3), punct("..."))
}

// lexByPatterns is the document's rule of tokens, told again by patterns: what is read is held against it.
func lexByPatterns(text string) ([]impl.Token, int) {
	gap := regexp.MustCompile("^(?:[ \t\n\r,]|#[^\n]*)+")
	word := regexp.MustCompile("^[-$]?[a-zA-Z_0-9]*")
	isName := regexp.MustCompile("^[a-zA-Z_][a-zA-Z_0-9]{0,39}$")
	isNumber := regexp.MustCompile("^(?:0|-?[1-9][0-9]{0,9})$")
	mark := regexp.MustCompile(`^(?:[{}()\[\]:!@]|\.\.\.)`)
	var list []impl.Token
	for {
		text = text[len(gap.FindString(text)):]
		if text == "" {
			return list, impl.OK
		}
		w := word.FindString(text)
		if w == "" {
			w = mark.FindString(text)
		}
		n, _ := strconv.Atoi(w)
		switch {
		case isName.MatchString(w):
			list = append(list, name(w))
		case strings.HasPrefix(w, "$") && isName.MatchString(w[1:]):
			list = append(list, variable(w[1:]))
		case isNumber.MatchString(w) && n <= 2147483647 && n >= -2147483648:
			list = append(list, number(n))
		case mark.MatchString(w):
			list = append(list, punct(w))
		default:
			return nil, impl.ErrForm
		}
		text = text[len(w):]
	}
}

func holdAgainstPatterns(t *testing.T, text string) {
	t.Helper()
	want, wantCode := lexByPatterns(text)
	got, code := impl.Lex(text)
	if code != wantCode || !slices.Equal(got, want) {
		t.Errorf("Lex(%q) = %v, %d, want %v, %d", text, got, code, want, wantCode)
	}
}

// everyText calls do with every text of at most size bytes of the alphabet.
func everyText(alphabet string, size int, do func(string)) {
	var grow func(string)
	grow = func(text string) {
		do(text)
		if len(text) < size {
			for i := range len(alphabet) {
				grow(text + alphabet[i:i+1])
			}
		}
	}
	grow("")
}

func TestShortTextsByPatterns(t *testing.T) {
	everyText("aZ_09-$.#\n\r ,{%\xc3", 3, func(text string) { holdAgainstPatterns(t, text) })
	everyText("a01-.$", 5, func(text string) { holdAgainstPatterns(t, text) })
	everyText("a#\n,", 6, func(text string) { holdAgainstPatterns(t, text) })
}

// The seed is fixed, so that every run of the test is the same.
func TestTokensAreReadBackWhateverIsBetween(t *testing.T) {
	random := rand.New(rand.NewSource(540))
	gaps := []string{" ", "\t", "\n", "\r", ",", "#\n", "# 1 a ... }\n", "#\r$\n"}
	right := rightTokens()
	for range 300 {
		var list []impl.Token
		text := ""
		for range random.Intn(60) {
			k := right[random.Intn(len(right))]
			if random.Intn(3) == 0 {
				k = number(int(int32(random.Uint32())))
			}
			list = append(list, k)
			told, _ := impl.TokenText(k)
			text += told + gaps[random.Intn(len(gaps))]
			for range random.Intn(3) {
				text += gaps[random.Intn(len(gaps))]
			}
		}
		wantTokens(t, text, list...)
		joined, _ := impl.JoinTokens(list)
		wantTokens(t, joined, list...)
	}
}

func TestArgumentsStayAsTheyWere(t *testing.T) {
	for _, more := range [][]impl.Token{rightTokens(), wrongTokens(), make([]impl.Token, 5000)} {
		backing := append(rightTokens(), more...)
		ahead := slices.Clone(backing)
		list := backing[:len(backing)-1]
		impl.JoinTokens(list)
		impl.JoinTokens(list[:3])
		if !slices.Equal(backing, ahead) {
			t.Error("JoinTokens changed its argument, or what is behind it")
		}
	}
}

func TestAnswersAreNew(t *testing.T) {
	text := "a { $b 1 ... }"
	first, _ := impl.Lex(text)
	second, _ := impl.Lex(text)
	for i := range first {
		first[i] = number(7)
	}
	first = append(first, number(8))
	third, _ := impl.Lex(text)
	want := []impl.Token{name("a"), punct("{"), variable("b"), number(1), punct("..."), punct("}")}
	if !slices.Equal(second, want) || !slices.Equal(third, want) || len(first) != 7 {
		t.Error("answers of Lex share memory", second, third)
	}
}

// firstStage is all that the calls of chapters 1 and 2 answer to a text, a number and a token.
func firstStage(text string, n int, k impl.Token) []any {
	list, code := impl.Lex(text)
	told, toldCode := impl.TokenText(k)
	joined, joinedCode := impl.JoinTokens([]impl.Token{k, k})
	answers := []any{impl.NameOK(text), impl.CodeWord(n), impl.CodeOf(text), impl.IsInt(n), impl.TokenOK(k), len(list), code, told, toldCode, joined, joinedCode}
	for _, k := range list {
		answers = append(answers, k)
	}
	return answers
}

func TestAlikeArgumentsHaveAlikeAnswers(t *testing.T) {
	texts := []string{"", "ok", "a 1 $b ...", "%", "01", "#", "\xff", strings.Repeat("a ", 4001), strings.Repeat("a", impl.MaxText+1)}
	numbers := []int{0, 1, 19, 20, -1, math.MaxInt, math.MinInt, 2147483648}
	tokens := append(rightTokens(), wrongTokens()...)
	for i, text := range texts {
		n, k := numbers[i%len(numbers)], tokens[i%len(tokens)]
		ahead := firstStage(text, n, k)
		for _, between := range texts {
			for _, other := range tokens {
				if len(between) < 100 {
					firstStage(between, -n, other)
				}
			}
			firstStage(between, n, k)
		}
		if !slices.Equal(firstStage(text, n, k), ahead) {
			t.Errorf("answers to %.20q, %d, %v hang on what was called ahead", text, n, k)
		}
	}
}

// No call panics and every call ends, whatever bytes it is given.
func FuzzLex(f *testing.F) {
	for _, seed := range []string{"", "a", "$", "-", "...", "#\n", "01", "\xff\xc3#", "query q { a: b(c: -1) @skip(if: $d) }"} {
		f.Add(seed)
	}
	f.Fuzz(func(t *testing.T, text string) {
		list, code := impl.Lex(text)
		if code != impl.OK {
			if len(list) != 0 || len(text) > impl.MaxText != (code == impl.ErrLong) {
				t.Fatal("Lex", len(list), code)
			}
			return
		}
		joined, code := impl.JoinTokens(list)
		if code != impl.OK {
			t.Fatal("JoinTokens", code)
		}
		if len(joined) <= impl.MaxText {
			wantTokens(t, joined, list...)
		}
		if len(text) < 300 {
			holdAgainstPatterns(t, text)
		}
	})
}
