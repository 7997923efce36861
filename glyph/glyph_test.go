package glyph

import (
	"math"
	"plover/api"
	"slices"
	"strings"
	"testing"
)

// The letters, written out by hand, so that they don't hang on the program's own table.
const (
	greatLetters = "ABCDEFGHIJKLMNOPQRSTUVWXYZ" + "ÀÁÂÃÄÅÆÇÈÉÊËÌÍÎÏÐÑÒÓÔÕÖØÙÚÛÜÝÞ" + "ΑΒΓΔΕΖΗΘΙΚΛΜΝΞΟΠΡΣΤΥΦΧΨΩ" + "АБВГДЕЖЗИЙКЛМНОПРСТУФХЦЧШЩЪЫЬЭЮЯ"
	smallLetters = "abcdefghijklmnopqrstuvwxyz" + "àáâãäåæçèéêëìíîïðñòóôõöøùúûüýþ" + "αβγδεζηθικλμνξοπρστυφχψω" + "абвгдежзийклмнопрстуфхцчшщъыьэюя"
	allBlanks    = "\t\n\r \u00a0\u2003\u3000"
)

const lastRune = 0x10ffff

// encode is a rune's bytes, by the document's rule, without unicode/utf8.
func encode(n int) string {
	tail := func(shift int) byte { return byte(0x80 | n>>shift&0x3f) }
	switch {
	case n <= 0x7f:
		return string([]byte{byte(n)})
	case n <= 0x7ff:
		return string([]byte{byte(0xc0 | n>>6), tail(0)})
	case n <= 0xffff:
		return string([]byte{byte(0xe0 | n>>12), tail(6), tail(0)})
	}
	return string([]byte{byte(0xf0 | n>>18), tail(12), tail(6), tail(0)})
}

func isSurrogate(n int) bool { return 0xd800 <= n && n <= 0xdfff }

// allEncoded are the bytes of each rune.
func allEncoded() map[string]int {
	m := map[string]int{}
	for n := 0; n <= lastRune; n++ {
		if !isSurrogate(n) {
			m[encode(n)] = n
		}
	}
	return m
}

// decode is a text's runes, found by trying which rune's bytes stand there.
func decode(s string, known map[string]int) ([]int, bool) {
	var l []int
	for len(s) > 0 {
		used := 0
		for k := 1; k <= min(4, len(s)); k++ {
			if n, ok := known[s[:k]]; ok {
				l = append(l, n)
				used = k
				break
			}
		}
		if used == 0 {
			return nil, false
		}
		s = s[used:]
	}
	return l, true
}

// eachBytes tells all strings of up to most bytes of those that are given.
func eachBytes(from []byte, most int, tell func(s string)) {
	var longer func(head []byte)
	longer = func(head []byte) {
		tell(string(head))
		if len(head) == most {
			return
		}
		for _, b := range from {
			longer(append(slices.Clip(head), b))
		}
	}
	longer(nil)
}

func checkBytes(t *testing.T, s string, known map[string]int) {
	t.Helper()
	want, ok := decode(s, known)
	l, e := Runes(s)
	if ok != (e == api.OK) || !ok && e != api.ErrRune {
		t.Errorf("Runes(%q): error %d, a text: %v", s, e, ok)
	}
	if !slices.Equal(l, want) {
		t.Errorf("Runes(%q) = %v, want %v", s, l, want)
	}
	if _, e1 := Fold(s); e1 != e {
		t.Errorf("Fold(%q): error %d, Runes says %d", s, e1, e)
	}
	if _, e1 := Words(s); e1 != e {
		t.Errorf("Words(%q): error %d, Runes says %d", s, e1, e)
	}
	if !ok && Name(s) {
		t.Errorf("Name(%q), which is no text", s)
	}
}

// Gl1: Runes tells every rune, and refuses all bytes that are no text.
func TestRunesOfAllShortBytes(t *testing.T) {
	known := allEncoded()
	all := make([]byte, 256)
	for i := range all {
		all[i] = byte(i)
	}
	eachBytes(all, 2, func(s string) { checkBytes(t, s, known) })
	// The bytes at which the rule for the next one changes.
	edges := []byte{0, 'a', 0x7f, 0x80, 0x8f, 0x90, 0x9f, 0xa0, 0xbf, 0xc0, 0xc1, 0xc2, 0xdf, 0xe0, 0xe1, 0xec, 0xed, 0xee, 0xef, 0xf0, 0xf1, 0xf3, 0xf4, 0xf5, 0xf8, 0xff}
	eachBytes(edges, 4, func(s string) { checkBytes(t, s, known) })
}

func TestRunesAnyRune(t *testing.T) {
	for n := 0; n <= lastRune; n++ {
		s := encode(n)
		l, e := Runes(s)
		if isSurrogate(n) {
			if e != api.ErrRune || len(l) != 0 {
				t.Fatalf("Runes(%q) = %v, %d", s, l, e)
			}
		} else if !slices.Equal(l, []int{n}) || e != api.OK {
			t.Fatalf("Runes(%q) = %v, %d", s, l, e)
		}
	}
}

func TestRunesExamples(t *testing.T) {
	for _, c := range []struct {
		s string
		l []int
	}{
		{"", nil},
		{"a", []int{97}},
		{"\x00", []int{0}},
		{"\ufffd", []int{0xfffd}}, // what Go tells of bad bytes is also a rune of its own
		{"\ufeffx", []int{0xfeff, 'x'}},
		{"ÄbΩ", []int{0xc4, 98, 0x3a9}},
		{"\u007f\u0080\u07ff\u0800\uffff\U00010000\U0010ffff", []int{0x7f, 0x80, 0x7ff, 0x800, 0xffff, 0x10000, 0x10ffff}},
		{"e\u0301", []int{'e', 0x301}},
	} {
		if l, e := Runes(c.s); !slices.Equal(l, c.l) || e != api.OK {
			t.Errorf("Runes(%q) = %v, %d", c.s, l, e)
		}
	}
}

// badTexts are bytes that are no text, each of another kind of fault.
func badTexts() []string {
	return []string{
		"\x80", "\xbf", "\xc0", "\xff", "\xfe", // no byte of a text begins so
		"\xc0\x80", "\xc1\xbf", "\xe0\x9f\xbf", "\xf0\x8f\xbf\xbf", // more bytes than may be
		"\xed\xa0\x80", "\xed\xbf\xbf", "\xed\xa0\x81\xed\xb0\x80", // surrogates, alone and in pairs
		"\xf4\x90\x80\x80", "\xf5\x80\x80\x80", "\xf8\x88\x80\x80\x80", // above the last rune
		"\xc3", "\xe2\x82", "\xf0\x9f\x98", "\xe2", "\xe2(\xa1", // cut off
		"abc\xff", "\xffabc", "a b\xc3", "Ä\x80", "ab\xe2\x82cd", // beside what is a text
		"\ufffd\xff",
	}
}

func TestNoText(t *testing.T) {
	for _, s := range badTexts() {
		if l, e := Runes(s); e != api.ErrRune || len(l) != 0 {
			t.Errorf("Runes(%q) = %v, %d", s, l, e)
		}
		if f, e := Fold(s); e != api.ErrRune || f != "" {
			t.Errorf("Fold(%q) = %q, %d", s, f, e)
		}
		if l, e := Words(s); e != api.ErrRune || len(l) != 0 {
			t.Errorf("Words(%q) = %q, %d", s, l, e)
		}
		if Name(s) {
			t.Errorf("Name(%q)", s)
		}
	}
}

// Gl1: Text tells every rune's bytes, and refuses all other numbers.
func TestTextAnyRune(t *testing.T) {
	for n := 0; n <= lastRune; n++ {
		s, e := Text([]int{n})
		if isSurrogate(n) {
			if s != "" || e != api.ErrRune {
				t.Fatalf("Text(%#x) = %q, %d", n, s, e)
			}
		} else if s != encode(n) || e != api.OK {
			t.Fatalf("Text(%#x) = %q, %d", n, s, e)
		}
	}
}

func TestTextNoRune(t *testing.T) {
	for _, n := range []int{-1, -128, math.MinInt, math.MinInt32, 0xd800, 0xdbff, 0xdc00, 0xdfff, 0x110000, 0x7fffffff, 1 << 31, 1 << 32, 1<<32 + 'a', -1<<32 + 'a', 1<<63 - 1} {
		for _, l := range [][]int{{n}, {'a', n}, {n, 'a'}, {'a', n, 'b'}} {
			if s, e := Text(l); s != "" || e != api.ErrRune {
				t.Errorf("Text(%v) = %q, %d", l, s, e)
			}
		}
	}
}

func TestTextExamples(t *testing.T) {
	if s, e := Text(nil); s != "" || e != api.OK {
		t.Errorf("Text(nil) = %q, %d", s, e)
	}
	if s, e := Text([]int{0xc4, 0, 'b', 0xfffd, 0x3a9, 0x10ffff}); s != "Ä\x00b\ufffdΩ\U0010ffff" || e != api.OK {
		t.Errorf("Text = %q, %d", s, e)
	}
}

// What is handed in is not changed, and not read beyond its end.
func TestTextLeavesItsList(t *testing.T) {
	room := []int{'A', 0xc4, -1, 'x'}
	if s, e := Text(room[:2]); s != "AÄ" || e != api.OK {
		t.Errorf("Text = %q, %d", s, e)
	}
	if !slices.Equal(room, []int{'A', 0xc4, -1, 'x'}) {
		t.Errorf("Text changed its list to %v", room)
	}
}

// An answer's list is new memory each time.
func TestAnswersAreNew(t *testing.T) {
	a, _ := Runes("abc")
	b, _ := Runes("abc")
	v, _ := Words("a b")
	w, _ := Words("a b")
	a[0], v[0] = 'x', "x"
	if !slices.Equal(b, []int{'a', 'b', 'c'}) || !slices.Equal(w, []string{"a", "b"}) {
		t.Error("two answers share memory")
	}
}

// Gl1: at each place of a name just those runes may stand that the document names.
func TestNameAnyRune(t *testing.T) {
	first, inner := map[rune]bool{}, map[rune]bool{}
	for _, r := range greatLetters + smallLetters {
		first[r], inner[r] = true, true
	}
	for _, r := range "0123456789-" {
		inner[r] = true
	}
	for n := rune(0); n <= lastRune; n++ {
		s := encode(int(n))
		if Name(s) != first[n] {
			t.Fatalf("Name(%q) = %v", s, !first[n])
		}
		if Name("a"+s) != inner[n] || Name("я"+s+"Z") != inner[n] {
			t.Fatalf("a name with %q within: want %v", s, inner[n])
		}
	}
}

func TestNameLengths(t *testing.T) {
	for _, r := range "aZÄяω" {
		for n := 0; n <= 40; n++ {
			s := strings.Repeat(string(r), n)
			if ok := 1 <= n && n <= 16; Name(s) != ok {
				t.Errorf("Name(%q), %d runes: %v", s, n, !ok)
			}
		}
	}
	for s, ok := range map[string]bool{
		"a-": true, "A--9": true, "a" + strings.Repeat("-", 15): true, "a" + strings.Repeat("9", 16): false,
		"-a": false, "0": false, "7up": false, "": false, " a": false, "a ": false, "a\n": false, "a_b": false,
		"ann.": false, "ß": false, "ÿ": false, "ς": false, "×": false, "÷": false, "\u0451": false, "\u0401": false, "\u017f": false, "\u03ac": false, "Ϊ": false, "\u041a": true, "\u212a": false, "\u0663": false,
		strings.Repeat("a", 15) + "-": true, strings.Repeat("a", 15) + "\xff": false, strings.Repeat("a", 16) + "\xff": false,
	} {
		if Name(s) != ok {
			t.Errorf("Name(%q) = %v", s, !ok)
		}
	}
}

// Gl2: Fold changes just the great letters, each to its small one.
func TestFoldAnyRune(t *testing.T) {
	small := map[rune]rune{}
	l := []rune(smallLetters)
	for i, r := range []rune(greatLetters) {
		small[r] = l[i]
	}
	for n := rune(0); n <= lastRune; n++ {
		if isSurrogate(int(n)) {
			continue
		}
		s := encode(int(n))
		want := s
		if r, ok := small[n]; ok {
			want = encode(int(r))
		}
		if f, e := Fold(s); f != want || e != api.OK {
			t.Fatalf("Fold(%q) = %q, %d, want %q", s, f, e, want)
		}
	}
}

func TestFoldExamples(t *testing.T) {
	for s, want := range map[string]string{
		"":           "",
		"ÄbΩ":        "äbω",
		greatLetters: smallLetters,
		smallLetters: smallLetters,
		"×÷ß\u0178ς\u0130\u212a\u01c5\u1e9eΪΫ\u0401\u0450": "×÷ß\u0178ς\u0130\u212a\u01c5\u1e9eΪΫ\u0401\u0450",
		"\ufffdA\x00Z\U0010ffff@[`{":                       "\ufffda\x00z\U0010ffff@[`{",
	} {
		if f, e := Fold(s); f != want || e != api.OK {
			t.Errorf("Fold(%q) = %q, %d, want %q", s, f, e, want)
		}
	}
}

// Gl2: just the document's blanks part words.
func TestWordsAnyRune(t *testing.T) {
	blank := map[rune]bool{}
	for _, r := range allBlanks {
		blank[r] = true
	}
	for n := rune(0); n <= lastRune; n++ {
		if isSurrogate(int(n)) {
			continue
		}
		r := encode(int(n))
		want, alone := []string{"a" + r + "b"}, []string{r}
		if blank[n] {
			want, alone = []string{"a", "b"}, nil
		}
		if l, e := Words("a" + r + "b"); !slices.Equal(l, want) || e != api.OK {
			t.Fatalf("Words(a%qb) = %q, %d", r, l, e)
		}
		if l, e := Words(r); !slices.Equal(l, alone) || e != api.OK {
			t.Fatalf("Words(%q) = %q, %d", r, l, e)
		}
	}
}

func TestWordsExamples(t *testing.T) {
	for _, c := range []struct {
		s string
		l []string
	}{
		{"", nil},
		{" ", nil},
		{allBlanks, nil},
		{allBlanks + allBlanks, nil},
		{" a\u3000b ", []string{"a", "b"}},
		{"near 1,2 3", []string{"near", "1,2", "3"}},
		{"one", []string{"one"}},
		{"\tb\na", []string{"b", "a"}},
		{"a" + allBlanks + "a", []string{"a", "a"}},
		{"Ä\u00a0\u00a0Ω\u2003", []string{"Ä", "Ω"}},
		{"a\x0bb\x0cc\u0085d\u2002e\u200bf\ufeffg", []string{"a\x0bb\x0cc\u0085d\u2002e\u200bf\ufeffg"}},
	} {
		if l, e := Words(c.s); !slices.Equal(l, c.l) || e != api.OK {
			t.Errorf("Words(%q) = %q, %d", c.s, l, e)
		}
	}
}

// mixed are texts of runes that lie at all edges, in an order that a short rule gives.
func mixed() []string {
	edges := []rune(greatLetters + smallLetters + allBlanks + "×÷ßÿΪς@[`{/09:-\x00\u007f\u0080\u07ff\u0800\ufffd\uffff\U00010000\U0010ffff")
	var l []string
	at := 1
	for n := range 300 {
		var b strings.Builder
		for range n {
			at = (at*75 + 74) % 65537
			b.WriteRune(edges[at%len(edges)])
		}
		l = append(l, b.String())
	}
	return l
}

// Gl3: Text of Runes of a text is it.
func TestTextOfRunes(t *testing.T) {
	for _, s := range mixed() {
		l, e := Runes(s)
		if e != api.OK {
			t.Fatalf("Runes(%q): %d", s, e)
		}
		if x, e := Text(l); x != s || e != api.OK {
			t.Fatalf("Text of Runes of %q = %q, %d", s, x, e)
		}
	}
}

// Gl3: Fold of Fold is Fold, of as many bytes.
func TestFoldOfFold(t *testing.T) {
	for _, s := range mixed() {
		once, e := Fold(s)
		if e != api.OK || len(once) != len(s) || strings.ContainsAny(once, greatLetters) {
			t.Fatalf("Fold(%q) = %q, %d", s, once, e)
		}
		if twice, e := Fold(once); twice != once || e != api.OK {
			t.Fatalf("Fold(%q) = %q, %d", once, twice, e)
		}
	}
}

// What Words tells are the runes that are no blanks, in order.
func TestWordsOfMixed(t *testing.T) {
	isOneOf := func(r rune) bool { return strings.ContainsRune(allBlanks, r) }
	for _, s := range mixed() {
		if l, e := Words(s); !slices.Equal(l, strings.FieldsFunc(s, isOneOf)) || e != api.OK {
			t.Fatalf("Words(%q) = %q, %d", s, l, e)
		}
	}
}

// All calls end at long texts.
func TestLong(t *testing.T) {
	s := strings.Repeat("Ä \U0001f600", 1<<18)
	if l, e := Runes(s); len(l) != 3<<18 || e != api.OK {
		t.Error(len(l), e)
	}
	if f, e := Fold(s); len(f) != len(s) || e != api.OK {
		t.Error(len(f), e)
	}
	if l, e := Words(s); len(l) != 1<<18+1 || e != api.OK {
		t.Error(len(l), e)
	}
	if Name(s) || Name(strings.Repeat("a", 1<<20)) {
		t.Error("a name of more than 16 runes")
	}
}
