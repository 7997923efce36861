// Package glyph is layer 1: see shared/doc/01-glyph.md.
package glyph

import (
	"plover/api"
	"strings"
	"unicode/utf8"
)

// apart is how far each small letter stands behind its great one.
const apart = 32

// Runes are a text's.
func Runes(s string) ([]int, api.Errno) {
	if !utf8.ValidString(s) {
		return nil, api.ErrRune
	}
	l := make([]int, 0, utf8.RuneCountInString(s))
	for _, r := range s {
		l = append(l, int(r))
	}
	return l, api.OK
}

// Text is that of runes.
func Text(l []int) (string, api.Errno) {
	var b strings.Builder
	for _, n := range l {
		if !isRune(n) {
			return "", api.ErrRune
		}
		b.WriteRune(rune(n))
	}
	return b.String(), api.OK
}

// Fold is a text with small letters in place of great ones.
func Fold(s string) (string, api.Errno) {
	if !utf8.ValidString(s) {
		return "", api.ErrRune
	}
	var b strings.Builder
	b.Grow(len(s)) // a great letter and its small one have as many bytes
	for _, r := range s {
		if isGreat(r) {
			r += apart
		}
		b.WriteRune(r)
	}
	return b.String(), api.OK
}

// Words are a text's, between blanks.
func Words(s string) ([]string, api.Errno) {
	if !utf8.ValidString(s) {
		return nil, api.ErrRune
	}
	var l []string
	begin := 0
	for i, r := range s {
		if isBlank(r) {
			l = appendWord(l, s[begin:i])
			begin = i + utf8.RuneLen(r)
		}
	}
	return appendWord(l, s[begin:]), api.OK
}

// Name tells whether a text is a name.
func Name(s string) bool {
	n := 0
	for _, r := range s {
		// Bytes that are no text come as utf8.RuneError, which no name has either.
		if n == api.MaxName || !mayStand(r, n) {
			return false
		}
		n++
	}
	return n > 0
}

// isRune is asked ahead of a conversion to rune, which cuts great numbers off.
func isRune(n int) bool {
	return 0 <= n && n <= utf8.MaxRune && utf8.ValidRune(rune(n))
}

// isGreat is the document's table, not unicode's: that knows more great letters.
func isGreat(r rune) bool {
	switch {
	case 'A' <= r && r <= 'Z', 0x410 <= r && r <= 0x42f:
		return true
	case 0xc0 <= r && r <= 0xde:
		return r != 0xd7
	case 0x391 <= r && r <= 0x3a9:
		return r != 0x3a2
	}
	return false
}

// isLetter tells whether a rune is a great letter, or the small one of a great one.
func isLetter(r rune) bool {
	return isGreat(r) || isGreat(r-apart)
}

// isBlank is the document's list, not unicode's: that has more blanks.
func isBlank(r rune) bool {
	switch r {
	case 9, 10, 13, 32, 0xa0, 0x2003, 0x3000:
		return true
	}
	return false
}

// mayStand tells whether a rune may stand at a place of a name.
func mayStand(r rune, at int) bool {
	if isLetter(r) {
		return true
	}
	return at > 0 && ('0' <= r && r <= '9' || r == '-')
}

// appendWord copies the word: an answer shares no memory with what was handed in.
func appendWord(l []string, word string) []string {
	if word == "" {
		return l
	}
	return append(l, strings.Clone(word))
}
