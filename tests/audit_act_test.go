package tests

import (
	"fmt"
	"math/rand"
	"regexp"
	"strconv"
	"strings"
	"testing"

	"loop.example/g00540/impl"
)

// wantAct fails unless the text tells the act, in memory of its own.
func wantAct(t *testing.T, text string, want impl.Act) {
	t.Helper()
	got, code := impl.ReadAct(text)
	if got != want || code != impl.OK || !impl.ActOK(got) {
		t.Errorf("ReadAct(%.100q) = %s, %d, want %s", text, actTold(got), code, actTold(want))
	}
	wantOwnMemory(t, "ReadAct", got, text)
}

func wantNoActText(t *testing.T, text string, want int) {
	t.Helper()
	if got, code := impl.ReadAct(text); got != (impl.Act{}) || code != want {
		t.Errorf("ReadAct(%.100q) = %s, %d, want code %d", text, actTold(got), code, want)
	}
}

func TestReadAct(t *testing.T) {
	wantAct(t, "ask { size }", comes("{ size }"))
	wantAct(t, "step 3", steps(3))
	wantAct(t, "cancel 3", cancels(3))
	wantAct(t, "tick", ticks())
	wantAct(t, "ask", comes(""))
	wantAct(t, "ask x", comes("x"))
	wantAct(t, "ask "+asksSum, comes(asksSum))
	wantAct(t, "ask "+asksValue, comes(asksValue))
	wantAct(t, "ask   x=1  b=true   |  {  size }  ", comes("x=1 b=true | { size }"))
	for _, word := range []string{"ask", "step", "cancel", "tick", "step 3", "cancel 3", "ask ask", "#", "# x", "1", "|", "{", "answer 1"} {
		wantAct(t, "ask "+word, comes(word))
	}
}

// Blanks may stand ahead, behind, and many between; no two words without one.
func TestBlanksOfActs(t *testing.T) {
	for _, n := range []int{1, 2, 3, 7, 1000} {
		blanks := strings.Repeat(" ", n)
		for _, c := range []struct {
			words string
			want  impl.Act
		}{
			{"ask", comes("")}, {"ask x", comes("x")}, {"ask { a: size }", comes("{ a: size }")}, {"ask 1 2", comes("1 2")}, {"step 0", steps(0)}, {"step 12", steps(12)}, {"cancel 1000000", cancels(1000000)}, {"tick", ticks()},
		} {
			wide := strings.ReplaceAll(c.words, " ", blanks)
			for _, text := range []string{wide, blanks + wide, wide + blanks, blanks + wide + blanks, blanks + c.words, c.words + blanks} {
				wantAct(t, text, c.want)
			}
		}
		wantNoActText(t, blanks, impl.ErrForm)
		wantNoActText(t, blanks+"1"+blanks, impl.ErrForm)
	}
	wantNoActText(t, "", impl.ErrForm)
	for _, text := range []string{"step3", "cancel3", "askx", "ask{ size }", "tick0", "s tep 3", "st ep 3", "step1 3", "can cel 3", "t ick", "a sk x", "as k"} {
		wantNoActText(t, text, impl.ErrForm)
	}
}

// All other bytes are part of a word, those too that are blanks elsewhere.
func TestBytesOfActs(t *testing.T) {
	for n := range 256 {
		b := string([]byte{byte(n)})
		if b == " " {
			continue
		}
		for _, word := range []string{b, "x" + b, b + "x", "x" + b + "y", b + b, "{" + b + "size" + b + "}"} {
			wantAct(t, "ask "+word, comes(word))
			wantAct(t, " ask  "+word+"  "+b+" ", comes(word+" "+b))
		}
		digit := '0' <= n && n <= '9'
		for _, text := range []string{"tick" + b, b + "tick", "tick " + b, b + " tick", "ti" + b + "ck", b, b + "ask x", "ask" + b, "ask" + b + "x", "step" + b + "3", b + "step 3", b + " step 3", "cancel" + b + "3", "step 3 " + b, "cancel " + b + " 3", "cancel 3" + b + "4", "step " + b + "3", "step 3" + b} {
			// With a digit between two numbers there is one.
			if !digit || !strings.HasPrefix(text, "step ") && !strings.HasPrefix(text, "cancel ") || strings.Count(text, " ") > 1 {
				wantNoActText(t, text, impl.ErrForm)
			}
		}
		if digit {
			wantAct(t, "step 3"+b, steps(30+n-'0'))
			wantAct(t, "cancel "+b, cancels(n-'0'))
		} else {
			wantNoActText(t, "step "+b, impl.ErrForm)
			wantNoActText(t, "cancel "+b, impl.ErrForm)
		}
	}
	for _, blank := range []string{"\t", "\n", "\r", "\r\n", ",", "\v", "\f", "\x00", "\u00a0", "\u2003", "\u3000", "\ufeff"} {
		wantNoActText(t, "step"+blank+"3", impl.ErrForm)
		wantNoActText(t, "step 3"+blank, impl.ErrForm)
		wantNoActText(t, "step "+blank+" 3", impl.ErrForm)
		wantNoActText(t, "tick"+blank, impl.ErrForm)
		wantNoActText(t, "tick "+blank, impl.ErrForm)
		wantNoActText(t, blank+"tick", impl.ErrForm)
		wantNoActText(t, "ask"+blank+"{ size }", impl.ErrForm)
		wantNoActText(t, blank, impl.ErrForm)
		wantAct(t, "ask "+blank, comes(blank))
		wantAct(t, "ask {"+blank+"size"+blank+blank+"} "+blank, comes("{"+blank+"size"+blank+blank+"} "+blank))
	}
}

// Words too many, too few, and none of these.
func TestWordsOfActs(t *testing.T) {
	for _, text := range []string{
		"step", "cancel", "step ", " cancel  ", "step 1 2", "cancel 1 2", "step 1 1", "step 1 x", "step x 1", "step 1 2 3", "cancel 1 2 3", "step step", "step step 1", "step 1 step", "step cancel 1", "cancel tick", "cancel 1 tick",
		"tick 1", "tick 0", "tick tick", "tick x", "tick ask", "tick # x",
		"go 1", "x", "1", "0", "3 step", "1 cancel", "{ size }", "{", "ask{", "asks x", "as x", "sk x", "Ask x", "ASK x", "aSk", "steps 1", "ste 1", "tep 1", "Step 1", "STEP 1", "stop 1", "cancels 1", "cance 1", "Cancel 1", "cancelled 1", "tic", "ticks", "Tick", "TICK", "ick",
		"arrive { size }", "Arrive", "drain", "store", "server", "answer 1", "answer", "live 1", "done 1", "#", "# tick", "#tick", "tick#", "tick;", "tick.", "\"tick\"", "'tick'", "-tick", "ａｓｋ x", "tıck",
	} {
		wantNoActText(t, text, impl.ErrForm)
	}
}

// Numbers as in chapter 2, from 0 to 1000000.
func TestNumbersOfActs(t *testing.T) {
	both := func(number string, id, code int) {
		t.Helper()
		for _, blanks := range []string{" ", "   "} {
			if code == impl.OK {
				wantAct(t, "step"+blanks+number, steps(id))
				wantAct(t, "cancel"+blanks+number, cancels(id))
			} else {
				wantNoActText(t, "step"+blanks+number, code)
				wantNoActText(t, "cancel"+blanks+number, code)
			}
		}
	}
	for _, id := range []int{0, 1, 2, 9, 10, 11, 60, 99, 100, 101, 999, 12345, 99999, 100000, 999999, 1000000} {
		both(strconv.Itoa(id), id, impl.OK)
		for _, number := range []string{"0%d", "00%d", "-%d", "+%d", "%d.", "%d.0", "%de0", "%d,", ",%d", "%d#", "#%d", "%d_0", "0_%d", "0x%d", "$%d", "%dx", "x%d", "%d-", "--%d", "-0%d", "\"%d\"", "(%d)", "%d\n", "\t%d", "%d\x00", "%d\u0660"} {
			both(fmt.Sprintf(number, id), 0, impl.ErrForm)
		}
	}
	for _, id := range []int{1000001, 1000002, 1000010, 9999999, 10000000, impl.MaxInt - 1, impl.MaxInt, impl.MaxInt + 1, impl.MaxInt + 2, 1 << 32, 1<<32 + 1, 1<<32 + 1000000, 999999999999999999, 1000000000000000000, hugeInt, -1, -2, -1000000, leastInt, leastInt - 1, -1 << 32, -1<<32 + 5, tinyInt} {
		both(strconv.Itoa(id), 0, impl.ErrForm)
	}
	for _, number := range []string{
		"9223372036854775808", "9223372036854775813", "-9223372036854775809", "18446744073709551616", "18446744073709551617", "18446744073709551621", "36893488147419103237", "340282366920938463463374607431768211461", strings.Repeat("9", 100), strings.Repeat("0", 100), strings.Repeat("0", 100) + "5", strings.Repeat("1", 60000),
		"-", "+", ".", "0.", "1e6", "1E6", "0b1", "0o7", "0x5", "1_000", "1,000", "1'000", "one", "x", "true", "false", "null", "$x", "NaN", "Inf", "٣", "３", "³", "½", "Ⅲ", "五", "{", "}", "...", "!", "@",
	} {
		both(number, 0, impl.ErrForm)
	}
}

// Texts of MaxText bytes, and of one more; the longest Text is what is left of them behind `ask `.
func TestLengthsOfActTexts(t *testing.T) {
	longest := impl.MaxText - len("ask ")
	for _, n := range []int{1, 1000, longest - 1, longest} {
		wantAct(t, "ask "+strings.Repeat("x", n), comes(strings.Repeat("x", n)))
		wantAct(t, "ask "+strings.Repeat("\xff", n), comes(strings.Repeat("\xff", n)))
	}
	wantAct(t, "ask "+strings.Repeat("x ", longest/2), comes(strings.Repeat("x ", longest/2-1)+"x"))
	wantAct(t, "ask "+strings.Repeat("x ", longest/2-1)+"xx", comes(strings.Repeat("x ", longest/2-1)+"xx"))
	for _, extra := range []int{1, 2, 5, impl.MaxText, 10 * impl.MaxText} {
		wantNoActText(t, "ask "+strings.Repeat("x", longest+extra), impl.ErrLong)
		wantNoActText(t, "ask "+strings.Repeat("x ", longest/2)+strings.Repeat("x", extra), impl.ErrLong)
	}
	for _, c := range []struct {
		text string
		want impl.Act
	}{
		{"ask\t{ size }", comes("{ size }")}, {"\task { size }", comes("{ size }")}, {"ask { size }\t", comes("{ size }")}, {"ask {\tsize }", comes("{ size }")}, {"ask\t", comes("")}, {"step\t3", steps(3)}, {"\tstep 3", steps(3)}, {"step 3\t", steps(3)}, {"cancel\t1000000", cancels(1000000)}, {"tick\t", ticks()}, {"\ttick", ticks()},
	} {
		for _, size := range []int{20, impl.MaxText - 1, impl.MaxText} {
			wantAct(t, filled(c.text, size), c.want)
		}
		for _, size := range []int{impl.MaxText + 1, impl.MaxText + 2, 3 * impl.MaxText} {
			wantNoActText(t, filled(c.text, size), impl.ErrLong)
		}
	}
	// What tells no act is too long all the same.
	for _, text := range []string{"\t", "step\t", "step x\t", "\tstep 1000001", "step 1 2\t", "go\t1", "tick\t1", "tick1\t"} {
		wantNoActText(t, filled(text, impl.MaxText), impl.ErrForm)
		wantNoActText(t, filled(text, impl.MaxText+1), impl.ErrLong)
	}
	wantNoActText(t, strings.Repeat("x", impl.MaxText), impl.ErrForm)
	wantNoActText(t, strings.Repeat("x", impl.MaxText+1), impl.ErrLong)
}

var actPattern = regexp.MustCompile(`^ *(?:(ask)((?s: .*)?)|(step|cancel) +(0|[1-9][0-9]{0,6})|tick) *$`)

// readActTold is ReadAct told again, of a text that is not too long.
func readActTold(text string) (impl.Act, int) {
	m := actPattern.FindStringSubmatch(text)
	if m == nil {
		return impl.Act{}, impl.ErrForm
	}
	id, _ := strconv.Atoi(m[4])
	switch {
	case id > 1000000:
		return impl.Act{}, impl.ErrForm
	case m[1] != "":
		between := regexp.MustCompile(` +`).ReplaceAllString(m[2], " ")
		return comes(strings.Trim(between, " ")), impl.OK
	case m[3] == "step":
		return steps(id), impl.OK
	case m[3] == "cancel":
		return cancels(id), impl.OK
	}
	return ticks(), impl.OK
}

func holdReadAct(t *testing.T, text string) impl.Act {
	t.Helper()
	want, code := readActTold(text)
	if code == impl.OK {
		wantAct(t, text, want)
	} else {
		wantNoActText(t, text, code)
	}
	return want
}

func TestRandomTextsOfActs(t *testing.T) {
	random := rand.New(rand.NewSource(161))
	kinds := map[int]int{}
	pieces := []string{"ask", "ask", "step", "step", "cancel", "cancel", "tick", "tick", " ", " ", " ", "  ", "1", "0", "12", "-1", "1000000", "1000001", "{ size }", "x", "\t", "\n", "#"}
	for range 30000 {
		text := ""
		for range random.Intn(7) {
			text += pick(random, pieces...)
			if random.Intn(2) == 0 {
				text += " "
			}
		}
		kinds[holdReadAct(t, text).Kind]++
	}
	wantOften(t, kinds, 0, impl.AcArrive, impl.AcStep, impl.AcCancel, impl.AcTick)
	for _, text := range []string{"ask", "step 1", "cancel 10", "tick"} {
		everyText("a1 k0", 3, func(end string) {
			holdReadAct(t, text+end)
			holdReadAct(t, end+text)
			holdReadAct(t, text[:len(text)-1]+end)
		})
	}
}

// Each act that a text tells is told by that text again.
func TestActsAreReadBack(t *testing.T) {
	for _, a := range rightActs() {
		text := map[int]string{impl.AcArrive: "ask " + a.Text, impl.AcStep: fmt.Sprint("step ", a.Id), impl.AcCancel: fmt.Sprint("cancel ", a.Id), impl.AcTick: "tick"}[a.Kind]
		if len(text) <= impl.MaxText {
			a.Text = strings.Trim(regexp.MustCompile(` +`).ReplaceAllString(a.Text, " "), " ")
			wantAct(t, text, a)
		} else {
			wantNoActText(t, text, impl.ErrLong)
		}
	}
	for text := range faultTexts() {
		holdReadAct(t, "ask "+text)
	}
}

func FuzzReadAct(f *testing.F) {
	for _, seed := range []string{"ask { size }", " step  3 ", "cancel 1000000", "tick", "ask", "", "step 01", "tick\n"} {
		f.Add(seed)
	}
	f.Fuzz(func(t *testing.T, text string) {
		if len(text) <= impl.MaxText {
			holdReadAct(t, text)
		}
	})
}
