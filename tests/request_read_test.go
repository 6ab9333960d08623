package tests

import (
	"cmp"
	"strings"
	"testing"

	"loop.example/g00540/impl"
)

var (
	sizeDoc = docWith(field("size"))
	boundX  = binding("x", intValue(1))
	boundY  = binding("y", no)
)

// Without a bar all of the text is a document.
func TestRequestsWithoutABar(t *testing.T) {
	for _, text := range []string{"{ size }", "{size}", "query{size}", " { size } ", "\t,{size}\n", "#x=1\n{size}", "{size}# x=1 y", "{#x=1\nsize}"} {
		wantRequest(t, text, request(sizeDoc))
	}
	wantRequest(t, richText, request(wantDocRead(t, richText)))
	for _, text := range []string{"", " ", "\n", "#", "x=1", "x=1 ", "x=1 { size }", "{ size } x=1", "x=1 query { size }", "x=1, { size }", "size", "{", "{ size } }", "x=1 x=1 { size }", "x = 1 { size }", "x=1 / { size }", "x=1 ! { size }", "x=1 \u00a6 { size }"} {
		wantNoRequest(t, text, impl.ErrForm)
	}
}

func TestRequestsWithABar(t *testing.T) {
	for _, text := range []string{"| { size }", " | { size }", "|{size}", "     |     {size}     ", "|\n{\tsize,}", "|#\n{size}", "| # x=1\n{ size } # y=2"} {
		wantRequest(t, text, request(sizeDoc))
	}
	for _, text := range []string{"x=1 | { size }", "x=1 |{size}", "x=1| { size }", "x=1|{size}", " x=1 | { size }", "   x=1   |   { size }   ", "x=1 |\t\r\n,{,size,}", "x=1 | # a remark, y=2\n{ size }", "x=1 | query { size } #"} {
		wantRequest(t, text, request(sizeDoc, boundX))
	}
	for _, text := range []string{"x=1 y=false | { size }", "x=1    y=false| {size}", "  x=1  y=false  |{ size }", "x=1 y=false |\n\n{size}"} {
		wantRequest(t, text, request(sizeDoc, boundX, boundY))
	}
	wantRequest(t, "y=false x=1 | { size }", request(sizeDoc, boundY, boundX))
	for _, text := range []string{"|", " | ", "x=1 |", "x=1 | ", "x=1 | # { size }", "x=1 | x=1", "x=1 | y=2 { size }", "| x=1 { size }", "{ size } |", "{ size } | ", "{ size } | { size }", "| }", "x=1 | {", "x=1 | { size } {", "x=1 | size"} {
		wantNoRequest(t, text, impl.ErrForm)
	}
}

// The bar is one wherever it stands: in a remark too.
func TestRequestsWithMoreBars(t *testing.T) {
	for _, text := range []string{
		"||", "| |", "|| { size }", "| | { size }", "x=1 || { size }", "x=1 | | { size }", "x=1 | y=2 | { size }", "x=1 | { size } |", "x=1 | { size | }", "x=1 | {| size }", "| { size } | { size }", "{ size } | | ", "||| { size }", strings.Repeat("|", 1000), strings.Repeat("x=1 | ", 1000) + "{ size }",
		"x=1 | { size } # |", "x=1 | # |\n{ size }", "x=1 | { # a | b\nsize }", "| { size } #|", "|#|\n{ size }", "x=1 | { size } # a\n# b | c",
		"{ size } # |", "{ size } #|", "# | { size }", "#|\n{ size }", "# a | b\n{ size }", "{ size # |\n}", "{ size } # | #", "{ size } # | { size }", "# x=1 | { size }", "#x=1 | { size }", "x=1 # | { size }", "x=1 #\n| { size }",
	} {
		wantNoRequest(t, text, impl.ErrForm)
	}
}

// Words stand between blanks of the number 32 alone.
func TestOtherSignsThanBlanks(t *testing.T) {
	for _, sign := range []string{"\t", "\n", "\r", "\r\n", ",", ";", "\v", "\f", "\x00", "\x1f", "\x7f", "\u0085", "\u00a0", "\u2003", "\u3000", "\ufeff", "\xa0", "\xff", "\xc2", ".", ":", "&", "#", "#\n", "\"", "=", "$", "-", "+", "{", "}", "(", "@", "!", "/", "\\", "é"} {
		for _, text := range []string{
			sign + "x=1 | { size }", "x=1" + sign + "| { size }", "x=1" + sign + "y=false | { size }", "x=1 " + sign + " y=false | { size }", "x=1 y=false " + sign + " | { size }", sign + "| { size }", sign + " | { size }", " " + sign + " x=1 | { size }",
			"x" + sign + "=1 | { size }", "x=" + sign + "1 | { size }", "x=1 y" + sign + "=false | { size }",
		} {
			if sign == "-" && strings.Contains(text, "=-1") {
				wantRequest(t, text, request(sizeDoc, binding("x", intValue(-1))))
				continue
			}
			wantNoRequest(t, text, impl.ErrForm)
		}
	}
	for _, blanks := range []string{" ", "  ", strings.Repeat(" ", 1000)} {
		for _, text := range []string{"x" + blanks + "=1 | { size }", "x=" + blanks + "1 | { size }", "x" + blanks + "=" + blanks + "1 | { size }", "x=-" + blanks + "1 | { size }", "x=tr" + blanks + "ue | { size }", "x" + blanks + "y=1 | { size }"} {
			wantNoRequest(t, text, impl.ErrForm)
		}
		wantRequest(t, blanks+"x=1"+blanks+"y=false"+blanks+"|"+blanks+"{"+blanks+"size"+blanks+"}"+blanks, request(sizeDoc, boundX, boundY))
		wantRequest(t, blanks+"|{size}", request(sizeDoc))
	}
}

// wrongWords are no bindings.
func wrongWords() []string {
	return []string{
		"x", "1", "true", "=", "==", "x=", "=1", "=x", "=true", "x==1", "x=1=", "x=1=2", "x=y=1", "=x=1", "x=1=x", "x=true=false", "x:1", "x:=1", "x=:1", "x-1", "x=$y", "x=$x", "$x=1", "$x", "x=$", "x=$1", "x=$true", "x=a", "x=x", "x=on", "x=\"1\"", "x='a'", "x=[1]", "x=(1)", "x=1)", "(x=1)", "{x=1}", "x={}", "x=1,", ",x=1", "x,=1", "x=,1", "x=1;",
		"x=01", "x=00", "x=-0", "x=-01", "x=+1", "x=+0", "x=--1", "x=-", "x=1-", "x=1.0", "x=1.", "x=.5", "x=1e3", "x=1_000", "x=0x1", "x=0b1", "x=0o7", "x=007", "x=1a", "x=a1", "x=1L", "x=\u0661", "x=\uff11", "x=2147483648", "x=-2147483649", "x=4294967296", "x=9223372036854775807", "x=9223372036854775808", "x=-9223372036854775808", "x=-9223372036854775809", "x=18446744073709551616", "x=18446744073709551617", "x=999999999999999999999999", "x=00000000000000000001",
		"x=True", "x=TRUE", "x=tru", "x=truee", "x=False", "x=falsee", "x=Null", "x=nul", "x=nulls", "x=nil", "x=none", "x=t", "x=0true", "x=true0", "x=-true", "x=$true", "x=truefalse", "x=null1",
		"9=1", "9x=1", "x.y=1", "x-y=1", "é=1", "xé=1", "x\xff=1", "\x00=1", "@x=1", "!=1", "...=1", "#=1", "x#=1", "x=#1", "x=1#", "x=true#", "x=null,", "x=\t1", "x=1\t",
		strings.Repeat("n", 41) + "=1", strings.Repeat("n", 4000) + "=1", "x=" + strings.Repeat("1", 11), "x=" + strings.Repeat("9", 5000), "x=-" + strings.Repeat("0", 5000), "x=1" + strings.Repeat("0", 5000),
	}
}

func TestWordsThatAreNoBindings(t *testing.T) {
	for _, word := range wrongWords() {
		for _, text := range []string{word + " | { size }", word + "|{size}", " " + word + "  | { size }", "a=1 " + word + " | { size }", word + " a=1 | { size }", "a=1 " + word + " b=2 | { size }", strings.Repeat("a=1 ", 9) + word + " | { size }"} {
			wantNoRequest(t, text, impl.ErrForm)
		}
	}
}

func TestWordsThatAreBindings(t *testing.T) {
	for text, v := range plainTexts() {
		for _, name := range append([]string{"x", "_", "Z9", "n1", "v", strings.Repeat("n", 40)}, languageWords...) {
			wantRequest(t, name+"="+text+" | { size }", request(sizeDoc, binding(name, v)))
			wantRequest(t, "a=1  "+name+"="+text+"|{size}", request(sizeDoc, binding("a", intValue(1)), binding(name, v)))
		}
	}
}

func TestBindingsOfTexts(t *testing.T) {
	words := strings.Fields("a=1 b=1 c=1 d=1 e=1 f=1 g=1 h=1 i=1 j=1 k=1 l=1")
	var vars []impl.Binding
	for n := range words {
		text := strings.Join(words[:n], " ") + " | { size }"
		if n <= 8 {
			wantRequest(t, text, request(sizeDoc, vars...))
		} else {
			wantNoRequest(t, text, impl.ErrTwice)
		}
		vars = append(vars, binding(words[n][:1], intValue(1)))
	}
	for _, ahead := range []string{"x=1 x=1", "x=1 x=2", "x=1 x=true", "x=true x=null", "a=1 x=1 x=1", "x=1 a=1 x=1", "x=1 a=1 b=2 c=3 x=0", "x=1 x=1 x=1", "a=1 a=1 b=1 b=1", "a=1 b=1 c=1 d=1 e=1 f=1 g=1 a=1", "a=1 b=1 c=1 d=1 e=1 f=1 g=1 h=1 a=1", strings.Repeat("x=1 ", 9), strings.Repeat("true=true ", 2), strings.Repeat(strings.Repeat("n", 40)+"=0 ", 2)} {
		wantNoRequest(t, ahead+" | { size }", impl.ErrTwice)
		wantNoRequest(t, ahead+" | { nothing } { nothing }", impl.ErrTwice)
		wantNoRequest(t, "  "+strings.ReplaceAll(ahead, " ", "   ")+"|{size}", impl.ErrTwice)
	}
	// Names that are others, though they are nearly alike, and values that are alike.
	for _, ahead := range []string{"x=1 X=1", "x=1 xx=1", "x=1 x1=1", "x=1 _x=1", "a=1 b=1 c=1", strings.Repeat("n", 40) + "=1 " + strings.Repeat("n", 39) + "=1"} {
		if q, code := impl.ReadRequest(ahead + " | { size }"); code != impl.OK || len(q.Vars) != len(strings.Fields(ahead)) {
			t.Errorf("ReadRequest of %q = %s, %d", ahead, brief(q), code)
		}
	}
}

// A requestPart is a part of a text and its code.
type requestPart struct {
	text string
	code int
}

func documentParts() []requestPart {
	deep := "{" + strings.Repeat("a {", 7) + "b" + strings.Repeat("}", 8)
	return []requestPart{
		{"{ size }", impl.OK}, {richText, impl.OK}, {"{ nothing } { nothing }", impl.OK}, {" # a remark\n{ size },", impl.OK}, {"{" + strings.Repeat("a ", 60) + "}", impl.OK}, {strings.Repeat("{a}", 6), impl.OK},
		{"", impl.ErrForm}, {" ", impl.ErrForm}, {"{", impl.ErrForm}, {"{{", impl.ErrForm}, {"{ size } }", impl.ErrForm}, {"{ % }", impl.ErrForm}, {"{ a(b: 01) }", impl.ErrForm}, {"{ " + strings.Repeat("n", 41) + " }", impl.ErrForm}, {"fragment on on T { a }", impl.ErrForm}, {"x=1 { size }", impl.ErrForm}, {strings.Repeat("{ ", 4000), impl.ErrForm}, {deep + " %", impl.ErrForm},
		{deep, impl.ErrDeep}, {strings.Repeat("{a", 8), impl.ErrDeep}, {"{a{a{a{a{a{a{a{a}}}}}}}}", impl.ErrDeep}, {"{ a } " + deep, impl.ErrDeep}, {deep + strings.Repeat("{a}", 7), impl.ErrDeep},
		{strings.Repeat("{a}", 7), impl.ErrMany}, {"{" + strings.Repeat("a ", 61) + "}", impl.ErrMany}, {"{ a(b: 1 b: 1 b: 1 b: 1 b: 1) }", impl.ErrMany}, {"{ a " + strings.Repeat("@skip(if: 1) ", 5) + "}", impl.ErrMany}, {strings.Repeat("{ ", 4001), impl.ErrMany}, {strings.Repeat("a ", 4001) + "%", impl.ErrMany}, {deep + strings.Repeat(" a", 4000), impl.ErrMany},
	}
}

// Too long, then a second bar and a wrong word, then what ParseDoc tells, then the bindings together.
func TestWhichCodeOfReadRequestComesFirst(t *testing.T) {
	came := map[int]int{}
	aheads := []requestPart{
		{"", impl.OK}, {"x=1 ", impl.OK}, {"y=false   x=-5", impl.OK}, {" a=1 b=true c=null d=4 e=5 f=6 g=7 h=8", impl.OK}, {"x=1 x=1", impl.ErrTwice}, {"x=1 a=true x=null", impl.ErrTwice}, {"a=1 b=1 c=1 d=1 e=1 f=1 g=1 h=1 i=1 ", impl.ErrTwice}, {strings.Repeat("y=null ", 300), impl.ErrTwice},
		{"x", impl.ErrForm}, {"x=1 x=1 x", impl.ErrForm}, {"x x=1 x=1 ", impl.ErrForm}, {"x=$y x=$y", impl.ErrForm}, {"{ size }", impl.ErrForm}, {"a=1 b=1 c=1 d=1 e=1 f=1 g=1 h=1 i=01", impl.ErrForm},
	}
	for _, a := range aheads {
		for _, d := range documentParts() {
			form, twice := impl.OK, a.code
			if a.code == impl.ErrForm {
				form, twice = a.code, impl.OK
			}
			text := a.text + "|" + d.text
			for _, c := range []requestPart{
				{text, cmp.Or(form, d.code, twice)}, {text + "|", impl.ErrForm}, {"|" + text, impl.ErrForm}, {text + "\n#|", impl.ErrForm}, {"x=1|" + text, impl.ErrForm},
				{text + strings.Repeat(" ", impl.MaxText), impl.ErrLong}, {strings.Repeat(" ", impl.MaxText) + text, impl.ErrLong}, {text + strings.Repeat("|", impl.MaxText), impl.ErrLong}, {strings.Repeat("x=1 ", impl.MaxText/4) + text, impl.ErrLong},
			} {
				came[c.code]++
				if c.code != impl.OK {
					wantNoRequest(t, c.text, c.code)
				} else if q, code := impl.ReadRequest(c.text); code != impl.OK || !impl.SameDoc(q.Doc, wantDocRead(t, d.text)) || len(q.Vars) != len(strings.Fields(a.text)) {
					t.Errorf("ReadRequest(%.120q) = %s, %d", c.text, brief(q), code)
				}
			}
		}
	}
	for _, d := range documentParts() {
		if d.code != impl.OK {
			wantNoRequest(t, d.text, d.code)
		} else {
			wantRequest(t, d.text, request(wantDocRead(t, d.text)))
		}
	}
	wantOften(t, came, impl.OK, impl.ErrForm, impl.ErrLong, impl.ErrDeep, impl.ErrMany, impl.ErrTwice)
}

// filled has blanks put in where the text has a tab, so that it is so many bytes long.
func filled(text string, size int) string {
	return strings.Replace(text, "\t", strings.Repeat(" ", size-len(text)+1), 1)
}

func TestRequestsOfMaxText(t *testing.T) {
	for _, text := range []string{"\t{size}", "{size}\t", "{\tsize}", "{size}#\t", "#\t\n{size}", "\t|{size}", "|\t{size}", "|{size}\t"} {
		wantRequest(t, filled(text, impl.MaxText), request(sizeDoc))
		wantRequest(t, filled(text, impl.MaxText-1), request(sizeDoc))
		wantNoRequest(t, filled(text, impl.MaxText+1), impl.ErrLong)
		wantNoRequest(t, filled(text, 2*impl.MaxText), impl.ErrLong)
	}
	for _, text := range []string{"\tx=1 y=false|{size}", "x=1\t y=false|{size}", "x=1 y=false\t|{size}", "x=1 y=false|\t{size}", "x=1 y=false|{size}\t", "x=1 y=false|{size}#\t", "x=1 y=false|#\t\n{size}"} {
		wantRequest(t, filled(text, impl.MaxText), request(sizeDoc, boundX, boundY))
		wantNoRequest(t, filled(text, impl.MaxText+1), impl.ErrLong)
	}
	for text, code := range map[string]int{
		"\t": impl.ErrForm, "|\t": impl.ErrForm, "||\t{size}": impl.ErrForm, "x\t|{size}": impl.ErrForm, "x=1 x=1\t|{size}": impl.ErrTwice, "x=1 x=1|\t{": impl.ErrForm, "\t|{a{a{a{a{a{a{a{a}}}}}}}}": impl.ErrDeep, "x=1|\t{a}{a}{a}{a}{a}{a}{a}": impl.ErrMany, "x=\t1|{size}": impl.ErrForm,
	} {
		wantNoRequest(t, filled(text, impl.MaxText), code)
		wantNoRequest(t, filled(text, impl.MaxText+1), impl.ErrLong)
	}
	for _, sign := range []string{"|", "=", "x", "x=", "=1", "x=1", " ", "\t", "\xff", "x=1|", "|{a}", "#", "é"} {
		wantNoRequest(t, strings.Repeat(sign, impl.MaxText/len(sign)), impl.ErrForm)
		wantNoRequest(t, strings.Repeat(sign, impl.MaxText/len(sign)+1), impl.ErrLong)
	}
	// As many bindings as a text holds, and a document in it.
	many := strings.Repeat("x=1 ", 16382)
	wantNoRequest(t, many+"|{size}", impl.ErrTwice)
	wantNoRequest(t, many+"|{a{a", impl.ErrForm)
	wantNoRequest(t, many+"y|{size}", impl.ErrForm)
	wantNoRequest(t, many+"|{sizes}  ", impl.ErrLong)
}
