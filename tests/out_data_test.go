package tests

import (
	"regexp"
	"slices"
	"strconv"
	"strings"
	"testing"

	"loop.example/g00540/impl"
)

func wantData(t *testing.T, o impl.Out, want string, paths ...string) {
	t.Helper()
	if got, code := impl.DataText(o, paths); got != want || code != impl.OK {
		t.Errorf("DataText of %s, %.200q = %.300q, %d, want %.300q", brief(o), paths, got, code, want)
	}
}

func wantNoData(t *testing.T, what string, o impl.Out, want int, paths ...string) {
	t.Helper()
	if got, code := impl.DataText(o, paths); got != "" || code != want {
		t.Errorf("DataText of %s, %.200q = %.300q, %d, want code %d", what, paths, got, code, want)
	}
}

func rightPaths() []string {
	return []string{
		"a", "_", "Z", "z9", "null", "data", "__typename", nameOfSize(39), nameOfSize(40),
		"0", "1", "9", "10", "100", "2147483646", "2147483647",
		"a.b", "a.0", "0.a", "0.0", "a.a.a", "nodes.7.next", "a.b.c.d.e.f.g.h", "a.10.b.2147483647", "1.2.3", nameOfSize(40) + "." + nameOfSize(40), "0." + nameOfSize(40),
		strings.Repeat("a.", 500) + "b", strings.Repeat("0.", impl.MaxText) + "0", strings.Repeat(nameOfSize(40)+".", impl.MaxText/40) + "end",
	}
}

func wrongPaths() []string {
	paths := []string{
		"", ".", "..", ".a", "a.", ".0", "0.", "a..b", "a...b", "..a", "a..", "0..1", "a.b..c", "a.b.", ".a.b",
		"-1", "-0", "+1", "+0", "a.-1", "a.-0", "-1.a", "-2147483648", "-", "00", "01", "007", "a.00", "a.01", "01.a", "a.b.010", "1a", "a.1a", "0x1", "1_0", "1e3", "0a",
		"2147483648", "a.2147483648", "2147483648.a", "2147483650", "4294967296", "4294967297", "9223372036854775807", "9223372036854775808", "18446744073709551616", "99999999999999999999999", strings.Repeat("1", impl.MaxText),
		nameOfSize(41), "a." + nameOfSize(41), nameOfSize(41) + ".a", "a." + nameOfSize(41) + ".0", nameOfSize(impl.MaxText), nameOfSize(impl.MaxText + 1), strings.Repeat("a.", impl.MaxText), "." + strings.Repeat("a", 30),
		" ", "a ", " a", "a. b", "a .b", " 1", "1 ", "a b", "a,b", "a:b", "a/b", "a-b", "$a", "a.$b", `"`, `a"b`, `a","b`, "a\\", "a\n", "\n", "a\x00", "\x00", "\xff", "a.\xff", "é", "a.é", "٣", "a.٣", "а", "[0]", "a[0]", "*",
	}
	for _, name := range wrongNames() {
		// No name, but a number.
		if name != "9" {
			paths = append(paths, name, name+".a", "a."+name+".b")
		}
	}
	return paths
}

// pathTold is the sentence on paths told again by a pattern.
func pathTold(t string) bool {
	for _, part := range strings.Split(t, ".") {
		switch {
		case placePattern.MatchString(part):
			if n, err := strconv.ParseInt(part, 10, 64); err != nil || n > 2147483647 {
				return false
			}
		case !namePattern.MatchString(part) || len(part) > 40:
			return false
		}
	}
	return true
}

var (
	namePattern  = regexp.MustCompile(`\A[A-Za-z_][A-Za-z0-9_]*\z`)
	placePattern = regexp.MustCompile(`\A(0|[1-9][0-9]*)\z`)
)

func errorsText(paths ...string) string { return `"errors":["` + strings.Join(paths, `","`) + `"]` }

func TestDataTextWithoutPaths(t *testing.T) {
	for _, c := range plainOuts() {
		wantData(t, c.o, `{"data":`+c.text+`}`)
		wantData(t, c.o, `{"data":`+c.text+`}`, []string{}...)
		wantData(t, c.o, `{"data":`+c.text+`}`, make([]string, 0, 5)...)
	}
}

func TestDataTextWithPaths(t *testing.T) {
	for _, c := range plainOuts() {
		wantData(t, c.o, `{"data":`+c.text+`,"errors":["a"]}`, "a")
		wantData(t, c.o, `{"data":`+c.text+`,"errors":["a.b","c"]}`, "a.b", "c")
		wantData(t, c.o, `{"data":`+c.text+`,"errors":["c","a.0.b","c","c"]}`, "c", "a.0.b", "c", "c")
	}
	for _, path := range rightPaths() {
		wantData(t, outInt(7), `{"data":7,`+errorsText(path)+`}`, path)
		wantData(t, impl.Out{}, `{"data":null,`+errorsText("x", path)+`}`, "x", path)
		wantData(t, impl.Out{}, `{"data":null,`+errorsText(path, "0", path)+`}`, path, "0", path)
	}
	wantData(t, outList(), `{"data":[],`+errorsText(rightPaths()...)+`}`, rightPaths()...)
}

// A path is told whether or not it stands in the data, and changes nothing of it.
func TestDataTextOfPathsThatAreNotInTheData(t *testing.T) {
	o := outObject("a", outList(outInt(1)))
	for _, path := range []string{"a", "a.0", "a.1", "b", "a.0.b", "0"} {
		wantData(t, o, `{"data":{"a":[1]},`+errorsText(path)+`}`, path)
	}
}

func TestDataTextOfWhatIsNoPath(t *testing.T) {
	for _, path := range wrongPaths() {
		for _, c := range plainOuts()[:3] {
			wantNoData(t, c.text, c.o, impl.ErrForm, path)
		}
		wantNoData(t, "the first", outList(), impl.ErrForm, path, "a", "b.1")
		wantNoData(t, "a middle one", outList(), impl.ErrForm, "a", path, "b.1")
		wantNoData(t, "the last", outList(), impl.ErrForm, "a", "b.1", path)
		wantNoData(t, "two", outList(), impl.ErrForm, path, path)
	}
}

// The edges that the paths of the lists above are of, told one by one.
func TestDataTextAtTheEdgesOfPaths(t *testing.T) {
	for path, want := range map[string]bool{
		"2147483647": true, "2147483648": false, nameOfSize(40): true, nameOfSize(41): false, "0": true, "00": false, "-0": false, "-1": false, "10": true, "01": false,
		"": false, ".": false, "a": true, "a.": false, ".a": false, "a.b": true, "a..b": false, "a.0": true, "a.-1": false, "a.01": false, "a.2147483647": true, "a.2147483648": false,
	} {
		if got, code := impl.DataText(outInt(1), []string{path}); (code == impl.OK) != want || (code == impl.ErrForm) == want || (got == "") == want {
			t.Errorf("DataText of path %q = %q, %d", path, got, code)
		}
		if pathTold(path) != want {
			t.Errorf("the pattern takes %q to be a path: %v", path, !want)
		}
	}
}

// All short texts of bytes that may matter, held against the pattern.
func TestDataTextOfShortPaths(t *testing.T) {
	everyText("aZ_01.- ", 5, func(path string) {
		text, fault := "", impl.ErrForm
		if pathTold(path) {
			text, fault = `{"data":7,`+errorsText(path)+`}`, impl.OK
		}
		if got, code := impl.DataText(outInt(7), []string{path}); got != text || code != fault {
			t.Errorf("DataText of path %q = %q, %d", path, got, code)
		}
	})
	for b := range 256 {
		c := string([]byte{byte(b)})
		for _, path := range []string{c, "a" + c, "1" + c, c + ".b", "a." + c, "a" + c + "b"} {
			if _, code := impl.DataText(outInt(7), []string{path}); (code == impl.OK) != pathTold(path) {
				t.Errorf("DataText of path %q = %d", path, code)
			}
		}
	}
}

func TestDataTextByHowManyPaths(t *testing.T) {
	var paths []string
	for i := range impl.MaxList {
		paths = append(paths, "a."+strconv.Itoa(i))
	}
	wantData(t, outInt(7), `{"data":7,`+errorsText(paths...)+`}`, paths...)
	wantData(t, outInt(7), `{"data":7,`+errorsText(paths[1:]...)+`}`, paths[1:]...)
	same := slices.Repeat([]string{"a"}, impl.MaxList)
	wantData(t, outInt(7), `{"data":7,`+errorsText(same...)+`}`, same...)
	bad := slices.Clone(paths)
	bad[impl.MaxList-1] = "a."
	wantNoData(t, "MaxList paths", outInt(7), impl.ErrForm, bad...)
	wantNoData(t, "MaxList paths", impl.Out{N: 1}, impl.ErrBad, bad...)
}

// Too long is told ahead of all else.
func TestDataTextOfTooManyPaths(t *testing.T) {
	for _, n := range []int{impl.MaxList + 1, impl.MaxList + 2, 3 * impl.MaxList} {
		for _, path := range []string{"a", "", "a..b"} {
			paths := slices.Repeat([]string{path}, n)
			for _, o := range append(wrongOuts()[:5], outInt(7), impl.Out{}, outList(make([]impl.Out, 4000)...)) {
				wantNoData(t, brief(o), o, impl.ErrLong, paths...)
			}
		}
	}
}

func TestDataTextOfWhatIsNotRight(t *testing.T) {
	outs := append(wrongOuts(), greatOuts()...)
	for _, o := range wrongOuts() {
		outs = append(outs, outList(outInt(1), o), outObject("a b", outInt(1), outObject("c", o)))
	}
	for _, o := range outs {
		wantNoData(t, "what is not right", o, impl.ErrBad)
		wantNoData(t, "what is not right", o, impl.ErrBad, "a")
		// Ahead of a path that is none.
		wantNoData(t, "what is not right", o, impl.ErrBad, "")
		wantNoData(t, "what is not right", o, impl.ErrBad, "a", "a..b")
	}
}

func TestDataTextOfTheGreatest(t *testing.T) {
	for what, o := range sizedOuts(4000) {
		text, _ := impl.OutText(o)
		if got, code := impl.DataText(o, nil); got != `{"data":`+text+`}` || code != impl.OK {
			t.Errorf("DataText of %s = %d bytes, %d", what, len(got), code)
		}
		if got, code := impl.DataText(o, []string{"a.0", "b"}); got != `{"data":`+text+`,"errors":["a.0","b"]}` || code != impl.OK {
			t.Errorf("DataText of %s with paths = %d bytes, %d", what, len(got), code)
		}
	}
}

func TestErrorText(t *testing.T) {
	for code, word := range words {
		got, fault := impl.ErrorText(code)
		if code == impl.OK {
			if got != "" || fault != impl.ErrRange {
				t.Errorf("ErrorText of OK = %q, %d", got, fault)
			}
			continue
		}
		if want := `{"error":"` + word + `"}`; got != want || fault != impl.OK {
			t.Errorf("ErrorText(%d) = %q, %d, want %q", code, got, fault, want)
		}
	}
}

func TestErrorTextOfNoCode(t *testing.T) {
	for _, code := range []int{0, -1, -2, 20, 21, 255, 256, 257, 1 << 32, 1<<32 + 1, -1 << 32, tinyInt, hugeInt} {
		if got, fault := impl.ErrorText(code); got != "" || fault != impl.ErrRange {
			t.Errorf("ErrorText(%d) = %q, %d", code, got, fault)
		}
	}
}
