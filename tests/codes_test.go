package tests

import (
	"math"
	"strings"
	"testing"

	"loop.example/g00540/impl"
)

// words is the document's table of codes, each at its number.
var words = []string{
	"ok", "bad", "long", "form", "range", "none", "many", "full", "deep", "field",
	"arg", "leaf", "fragment", "cycle", "variable", "merge", "conflict", "cancelled", "spent", "twice",
}

func TestConstantsOfCodes(t *testing.T) {
	if impl.MaxText != 65536 || impl.MaxList != 4096 || impl.MaxName != 40 {
		t.Error("limits", impl.MaxText, impl.MaxList, impl.MaxName)
	}
	codes := []int{
		impl.OK, impl.ErrBad, impl.ErrLong, impl.ErrForm, impl.ErrRange, impl.ErrNone, impl.ErrMany,
		impl.ErrFull, impl.ErrDeep, impl.ErrField, impl.ErrArg, impl.ErrLeaf, impl.ErrFragment,
		impl.ErrCycle, impl.ErrVariable, impl.ErrMerge, impl.ErrConflict, impl.ErrCancelled,
		impl.ErrSpent, impl.ErrTwice,
	}
	for i, code := range codes {
		if code != i {
			t.Errorf("code of %q is %d, want %d", words[i], code, i)
		}
	}
	if len(codes) != len(words) {
		t.Error("codes", len(codes), len(words))
	}
}

func TestCodesAndWords(t *testing.T) {
	for code, word := range words {
		if got := impl.CodeWord(code); got != word {
			t.Errorf("CodeWord(%d) = %q, want %q", code, got, word)
		}
		if got := impl.CodeOf(word); got != code {
			t.Errorf("CodeOf(%q) = %d, want %d", word, got, code)
		}
	}
}

func TestCodeWordOfNoCode(t *testing.T) {
	for _, n := range []int{-1, -2, len(words), len(words) + 1, 256, 1 << 32, math.MaxInt, math.MinInt} {
		if got := impl.CodeWord(n); got != "" {
			t.Errorf("CodeWord(%d) = %q, want none", n, got)
		}
	}
}

func TestCodeOfNoWord(t *testing.T) {
	none := []string{"", " ", "OK", "Ok", "ok ", " ok", "o", "okok", "ErrBad", "0", "ba", "bads", "many\x00", "\xff"}
	none = append(none, strings.Repeat("a", impl.MaxText), strings.Repeat("a", impl.MaxText+1))
	none = append(none, "ok"+strings.Repeat(" ", impl.MaxText))
	for _, word := range none {
		if got := impl.CodeOf(word); got != -1 {
			t.Errorf("CodeOf(%.20q) = %d, want -1", word, got)
		}
	}
}

// byteMayStand tells a name's bytes by a list that is written out, so that no bound of a range is taken on trust.
func byteMayStand(b byte, first bool) bool {
	letters := "abcdefghijklmnopqrstuvwxyzABCDEFGHIJKLMNOPQRSTUVWXYZ_"
	return strings.IndexByte(letters, b) >= 0 || !first && strings.IndexByte("0123456789", b) >= 0
}

func TestNameOKByEachByte(t *testing.T) {
	for b := 0; b < 256; b++ {
		c := string([]byte{byte(b)})
		if got, want := impl.NameOK(c), byteMayStand(byte(b), true); got != want {
			t.Errorf("NameOK(%q) = %v, want %v", c, got, want)
		}
		for _, name := range []string{"a" + c, "a" + c + "b", "_9" + c} {
			if got, want := impl.NameOK(name), byteMayStand(byte(b), false); got != want {
				t.Errorf("NameOK(%q) = %v, want %v", name, got, want)
			}
		}
	}
}

func TestNameOKByLength(t *testing.T) {
	for size, want := range map[int]bool{0: false, 1: true, 39: true, 40: true, 41: false, 4096: false, impl.MaxText: false, impl.MaxText + 1: false} {
		if got := impl.NameOK(strings.Repeat("z", size)); got != want {
			t.Errorf("NameOK of %d bytes = %v, want %v", size, got, want)
		}
	}
	for _, name := range []string{"é", "aé", "a\xc3", "aв", "а", "a٣", "a b", "$a", "a."} {
		if impl.NameOK(name) {
			t.Errorf("NameOK(%q) = true", name)
		}
	}
}
