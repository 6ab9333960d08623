package impl

const (
	MaxText = 65536
	MaxList = 4096
	MaxName = 40

	OK           = 0
	ErrBad       = 1
	ErrLong      = 2
	ErrForm      = 3
	ErrRange     = 4
	ErrNone      = 5
	ErrMany      = 6
	ErrFull      = 7
	ErrDeep      = 8
	ErrField     = 9
	ErrArg       = 10
	ErrLeaf      = 11
	ErrFragment  = 12
	ErrCycle     = 13
	ErrVariable  = 14
	ErrMerge     = 15
	ErrConflict  = 16
	ErrCancelled = 17
	ErrSpent     = 18
	ErrTwice     = 19
)

var codeWords = [...]string{
	OK:           "ok",
	ErrBad:       "bad",
	ErrLong:      "long",
	ErrForm:      "form",
	ErrRange:     "range",
	ErrNone:      "none",
	ErrMany:      "many",
	ErrFull:      "full",
	ErrDeep:      "deep",
	ErrField:     "field",
	ErrArg:       "arg",
	ErrLeaf:      "leaf",
	ErrFragment:  "fragment",
	ErrCycle:     "cycle",
	ErrVariable:  "variable",
	ErrMerge:     "merge",
	ErrConflict:  "conflict",
	ErrCancelled: "cancelled",
	ErrSpent:     "spent",
	ErrTwice:     "twice",
}

// Letters and digits are told by number, not by package unicode: a name has none beyond ASCII.
func isLetter(c rune) bool {
	return 'a' <= c && c <= 'z' || 'A' <= c && c <= 'Z' || c == '_'
}

func isDigit(c rune) bool { return '0' <= c && c <= '9' }

func NameOK(t string) bool {
	if t == "" || len(t) > MaxName {
		return false
	}
	for i, c := range t {
		if !isLetter(c) && (i == 0 || !isDigit(c)) {
			return false
		}
	}
	return true
}

func CodeWord(code int) string {
	if code < 0 || code >= len(codeWords) {
		return ""
	}
	return codeWords[code]
}

func CodeOf(word string) int {
	for code, w := range codeWords {
		if w == word {
			return code
		}
	}
	return -1
}
