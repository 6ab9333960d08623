package impl

import (
	"strconv"
	"strings"
)

const (
	TkName = iota + 1
	TkInt
	TkVar
	TkPunct
)

const (
	MaxInt    = 2147483647
	MaxTokens = 4000
)

type Token struct {
	Kind, N int
	T       string
}

func IsInt(n int) bool { return -MaxInt-1 <= n && n <= MaxInt }

func TokenOK(k Token) bool {
	switch k.Kind {
	case TkName, TkVar:
		return k.N == 0 && NameOK(k.T)
	case TkInt:
		return k.T == "" && IsInt(k.N)
	case TkPunct:
		return k.N == 0 && isPunct(k.T)
	}
	return false
}

func isPunct(t string) bool {
	switch t {
	case "{", "}", "(", ")", "[", "]", ":", "!", "@", "...":
		return true
	}
	return false
}

func Lex(t string) (list []Token, code int) {
	if len(t) > MaxText {
		return nil, ErrLong
	}
	defer func() {
		if f := recover(); f != nil {
			list, code = nil, faultCode(f)
		}
	}()
	l := lexer{text: t}
	return l.tokens(), OK
}

// A fault is what a reader panics with, so that its loops need not hand a code upwards.
type fault struct{ code int }

func faultCode(f any) int {
	if known, ok := f.(fault); ok {
		return known.code
	}
	return ErrForm
}

// A lexer has read what is ahead of its place, at.
type lexer struct {
	text string
	at   int
}

func (l *lexer) tokens() []Token {
	var list []Token
	for l.passBlanks(); l.at < len(l.text); l.passBlanks() {
		k := l.token()
		// Only what is a token counts, so a fault of form at the one too many comes first.
		if len(list) == MaxTokens {
			panic(fault{ErrMany})
		}
		list = append(list, k)
	}
	return list
}

func (l *lexer) passBlanks() {
	remark := false
	for i, c := range l.text[l.at:] {
		switch {
		case remark:
			remark = c != '\n'
		case c == '#':
			remark = true
		case !isBlank(c):
			l.at += i
			return
		}
	}
	l.at = len(l.text)
}

func isBlank(c rune) bool {
	return c == ' ' || c == '\t' || c == '\n' || c == '\r' || c == ','
}

func (l *lexer) token() Token {
	var k Token
	switch c := rune(l.text[l.at]); {
	case isLetter(c):
		k = Token{Kind: TkName, T: l.word()}
	case c == '$':
		k = Token{Kind: TkVar, T: l.word()[1:]}
	case isDigit(c) || c == '-':
		k = numberToken(l.word())
	default:
		k = Token{Kind: TkPunct, T: l.punct()}
	}
	if !TokenOK(k) {
		panic(fault{ErrForm})
	}
	// The text that was handed in is not kept: a token has memory of its own.
	k.T = strings.Clone(k.T)
	return k
}

// word takes the byte at the lexer's place, whatever it is, and all letters and digits that follow.
func (l *lexer) word() string {
	for i, c := range l.text[l.at+1:] {
		if !isLetter(c) && !isDigit(c) {
			return l.take(1 + i)
		}
	}
	return l.take(len(l.text) - l.at)
}

func (l *lexer) punct() string {
	if strings.HasPrefix(l.text[l.at:], "...") {
		return l.take(3)
	}
	return l.take(1)
}

func (l *lexer) take(size int) string {
	t := l.text[l.at : l.at+size]
	l.at += size
	return t
}

// numberToken lets a text be a number only if the number would be told by that very text: so no
// nought stands ahead of other digits, and -0 is none. What is none has no kind.
func numberToken(t string) Token {
	n, err := strconv.Atoi(t)
	if err != nil || strconv.Itoa(n) != t {
		return Token{}
	}
	return Token{Kind: TkInt, N: n}
}

func TokenText(k Token) (string, int) {
	switch {
	case !TokenOK(k):
		return "", ErrBad
	case k.Kind == TkInt:
		return strconv.Itoa(k.N), OK
	case k.Kind == TkVar:
		return "$" + k.T, OK
	}
	return strings.Clone(k.T), OK
}

func JoinTokens(list []Token) (string, int) {
	switch {
	case len(list) > MaxList:
		return "", ErrLong
	case len(list) > MaxTokens:
		return "", ErrMany
	}
	texts := make([]string, len(list))
	for i, k := range list {
		text, code := TokenText(k)
		if code != OK {
			return "", code
		}
		texts[i] = text
	}
	return strings.Join(texts, " "), OK
}

// A tokenReader has read the tokens ahead of its place, at. Readers of documents and of schemas
// are built on it.
type tokenReader struct {
	tokens []Token
	at     int
}

func (r *tokenReader) ended() bool { return r.at == len(r.tokens) }

// next is the token at the reader's place, one without a kind behind the last.
func (r *tokenReader) next() Token {
	if r.ended() {
		return Token{}
	}
	return r.tokens[r.at]
}

func (r *tokenReader) atPunct(t string) bool {
	return r.next() == Token{Kind: TkPunct, T: t}
}

// passes goes past the mark, if it stands here.
func (r *tokenReader) passes(t string) bool {
	if !r.atPunct(t) {
		return false
	}
	r.at++
	return true
}

func (r *tokenReader) mustPass(t string) {
	if !r.passes(t) {
		panic(fault{ErrForm})
	}
}

// nameIfAny is empty where no name stands.
func (r *tokenReader) nameIfAny() string {
	k := r.next()
	if k.Kind != TkName {
		return ""
	}
	r.at++
	return k.T
}

func (r *tokenReader) name() string {
	t := r.nameIfAny()
	if t == "" {
		panic(fault{ErrForm})
	}
	return t
}

func (r *tokenReader) mustPassWord(t string) {
	if r.name() != t {
		panic(fault{ErrForm})
	}
}
