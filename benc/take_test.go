package benc

import (
	"math"
	"plover/api"
	"strconv"
	"strings"
	"testing"
)

// checkTaken sees to it that s begins with a value of so many bytes.
func checkTaken(t *testing.T, s string, v api.Value, bytes int) {
	t.Helper()
	if w, used, e := Take(s); !same(v, w) || !isBare(w) || used != bytes || e != api.OK {
		t.Errorf("Take(%.80q) = kind %d, %d, %d, want %d bytes", s, w.Kind, used, e, bytes)
	}
	w, e := Only(s)
	if bytes == len(s) && (!same(v, w) || !isBare(w) || e != api.OK) {
		t.Errorf("Only(%.80q) = kind %d, %d", s, w.Kind, e)
	}
	if bytes < len(s) && (!isZero(w) || e != api.ErrValue) {
		t.Errorf("Only(%.80q) = kind %d, %d, with bytes behind", s, w.Kind, e)
	}
}

// checkNot sees to it that s is refused by both calls.
func checkNot(t *testing.T, s string, want api.Errno) {
	t.Helper()
	if v, used, e := Take(s); !isZero(v) || used != 0 || e != want {
		t.Errorf("Take(%.80q), %d bytes: kind %d, %d, error %d, want %d", s, len(s), v.Kind, used, e, want)
	}
	if v, e := Only(s); !isZero(v) || e != want {
		t.Errorf("Only(%.80q), %d bytes: kind %d, error %d, want %d", s, len(s), v.Kind, e, want)
	}
}

// Be2: of every kind the value, and how many bytes.
func TestTake(t *testing.T) {
	for _, p := range pairs() {
		for _, behind := range []string{"", "e", "1", ":", "l", "\xff", p.s} {
			checkTaken(t, p.s+behind, p.v, len(p.s))
		}
	}
}

// Be2: the bytes end ahead of the value's end.
func TestTakeShort(t *testing.T) {
	for _, s := range []string{
		"", "i", "i-", "i0", "i1", "i-1", "i12", "i9223372036854775807", "i-9223372036854775808",
		"0", "1", "12", "65536", "1:", "3:ab", "65536:", "65536:abc", "2:e", "10:0:1:2:3:4",
		"l", "ll", "llllllll", "lle", "li1e", "li1", "l1:", "l1:a", "li1e1:ale", "l3:eee",
	} {
		checkNot(t, s, api.ErrShort)
	}
	for _, p := range pairs() {
		for i := range p.s {
			checkNot(t, p.s[:i], api.ErrShort)
		}
	}
}

// Be2: a byte that may not stand where it stands.
func TestTakeNoValue(t *testing.T) {
	for _, s := range []string{
		"e", ":", "-", "x", "I1e", "L", " i1e", "\x00", "\xff", "+1:a", "-1:a", ":a", "/", "d1:ae", // what begins no value
		"ie", "ix", "i e", "i+1e", "i1x", "i1-e", "i1:", "i1l", "i1.5e", "ii1ee", "i1 e", "i\x001e", // of numbers
		"i00e", "i00", "i01e", "i01", "i09", "i-01e", "i0-e", "i0x", "i-0e", "i-0", "i-00", "i-05e", "i--1e", "i--", "i-e", "i-x", "i-:",
		"00", "00:", "01:a", "01", "05", "000065537", "0e", "0x", "0-", "1e", "1a", "12e", "12-:", "1 :a", "65536e", "65536x", "1i1e", // of lengths
		"lx", "l:", "l-", "li1eX", "li01ee", "l01:a", "lie", "li-0", "l1:a:", "llx", "llllllllx", "li1e-", // within lists
	} {
		checkNot(t, s, api.ErrValue)
	}
	for c := range 256 {
		if b := byte(c); !strings.ContainsRune("il0123456789", rune(b)) {
			checkNot(t, string([]byte{b}), api.ErrValue)
			checkNot(t, string([]byte{b})+"i1e", api.ErrValue)
			if b != 'e' {
				checkNot(t, "l"+string([]byte{b}), api.ErrValue)
			}
		}
		if b := byte(c); !strings.ContainsRune("e0123456789", rune(b)) {
			checkNot(t, "i1"+string([]byte{b}), api.ErrValue)
		}
		if b := byte(c); !strings.ContainsRune(":0123456789", rune(b)) {
			checkNot(t, "1"+string([]byte{b}), api.ErrValue)
		}
	}
}

// Be2: numbers are -2^63 to 2^63 - 1; the digit by which one is not is refused, whatever stands behind it.
func TestTakeNumbers(t *testing.T) {
	for _, n := range []string{"9223372036854775807", "9223372036854775799", "9223372036854775800", "-9223372036854775808", "-9223372036854775807", "-9223372036854775800", "922337203685477580", "-922337203685477580", "1000000000000000000", "9000000000000000000"} {
		want, err := strconv.Atoi(n)
		if err != nil {
			t.Fatal(err)
		}
		checkTaken(t, "i"+n+"e", number(want), len(n)+2)
		checkNot(t, "i"+n, api.ErrShort)
	}
	for _, n := range []string{"9223372036854775808", "9223372036854775809", "9223372036854775810", "9223372036854775900", "-9223372036854775809", "-9223372036854775810", "10000000000000000000", "-10000000000000000000", "18446744073709551615", "18446744073709551616", "18446744073709551617", "-18446744073709551617", "99999999999999999999", "36893488147419103233", "1" + strings.Repeat("0", 100), "-" + strings.Repeat("9", 1000)} {
		for _, behind := range []string{"", "e", "x", "0"} {
			checkNot(t, "i"+n+behind, api.ErrValue)
			checkNot(t, "li"+n+behind, api.ErrValue)
		}
	}
}

// Be2: a list within eight others is refused at its l.
func TestTakeDeep(t *testing.T) {
	for n := 1; n <= 8; n++ {
		l, e := strings.Repeat("l", n), strings.Repeat("e", n)
		checkTaken(t, l+e, nested(list(), n-1), 2*n)
		checkTaken(t, l+e+"l", nested(list(), n-1), 2*n)
		checkTaken(t, l+"i1e"+e, nested(number(1), n), 2*n+3)
		checkNot(t, l, api.ErrShort)
		checkNot(t, l+"x", api.ErrValue)
	}
	eight := strings.Repeat("l", 8)
	for _, behind := range []string{"l", "le", "lx", "leeeeeeeeee", "i1el", "0:1:al", "ell", "eelllll"} {
		checkNot(t, eight+behind, api.ErrDeep)
	}
	checkNot(t, "l"+strings.Repeat("llllllleeeeeee", 100)+"llllllll", api.ErrDeep)
	checkNot(t, strings.Repeat("l", 1<<20), api.ErrDeep)
	checkNot(t, strings.Repeat("l", 1<<20)+strings.Repeat("e", 1<<20), api.ErrDeep)
	many := "l" + strings.Repeat("llllllleeeeeee", 1000) + "e" // as deep as may be, often
	if v, used, e := Take(many); len(v.L) != 1000 || used != len(many) || e != api.OK {
		t.Errorf("Take of many deep lists: %d of %d bytes, %d", used, len(many), e)
	}
}

// Be2: a text's length is 2^16 at the most; the digit by which it is more is refused.
func TestTakeLongTexts(t *testing.T) {
	for _, s := range []string{"65537", "65537:", "65537x", "65538", "65540", "65600", "66000", "70000", "99999", "99999:", "655360", "100000", "100000:a", "18446744073709551617:a", "9223372036854775808", strings.Repeat("9", 100)} {
		checkNot(t, s, api.ErrLong)
		checkNot(t, "l"+s, api.ErrLong)
		checkNot(t, "llllllli1el"+s, api.ErrLong)
	}
	long := strings.Repeat("\xff", 1<<16)
	for n := 65520; n <= 65530; n++ {
		s := strconv.Itoa(n) + ":" + long[:n]
		checkTaken(t, s+"e", words(long[:n]), n+6)
		checkNot(t, s[:len(s)-1], api.ErrShort)
	}
	for n := 65531; n <= 65536; n++ {
		s := strconv.Itoa(n) + ":" + long[:n]
		checkNot(t, s, api.ErrLong) // in the end
		checkNot(t, s+"x", api.ErrLong)
		checkNot(t, s[:len(s)-1], api.ErrShort)
		checkNot(t, strconv.Itoa(n), api.ErrShort)
	}
}

// Be2: a value of more than 2^16 bytes is refused in the end: what may not stand in it is told first.
func TestTakeLongLists(t *testing.T) {
	inner := strings.Repeat("le", 1<<15-1)
	v, used, e := Take("l" + inner + "e")
	if len(v.L) != 1<<15-1 || !isBare(v) || used != 1<<16 || e != api.OK {
		t.Errorf("Take of 2^16 bytes: %d values, %d, %d", len(v.L), used, e)
	}
	for _, more := range []string{"i1e", "le", "1:a", "65536:" + strings.Repeat("a", 1<<16), strings.Repeat("le", 1<<17)} {
		for _, s := range []string{"l" + inner + more, "l" + more + inner, "lllllll" + more + inner + "eeeeee"} {
			checkNot(t, s+"e", api.ErrLong)
			checkNot(t, s+"ex", api.ErrLong)
			checkNot(t, s, api.ErrShort)
			checkNot(t, s+"x", api.ErrValue)
			checkNot(t, s+"65537", api.ErrLong)
			checkNot(t, s+"llllllll", api.ErrDeep)
			checkNot(t, s+"i01e", api.ErrValue)
			checkNot(t, s+"5:ee", api.ErrShort)
		}
	}
	// One byte too many, at the last value, and at the last byte of all.
	checkNot(t, "l"+inner[:len(inner)-2]+"i1ee", api.ErrLong)
	checkNot(t, "l"+inner[:len(inner)-2]+"le0:e", api.ErrLong)
	checkNot(t, "l65529:"+strings.Repeat("a", 65529)+"e", api.ErrLong)
	checkTaken(t, "l65528:"+strings.Repeat("a", 65528)+"e", list(words(strings.Repeat("a", 65528))), 1<<16)
}

// machine goes over bytes one by one, without looking ahead, and tells of each whether it may stand there.
type machine struct {
	open   int    // lists
	what   byte   // within a number i, a length d, a text t, else 0
	digits string // of a number with its sign, or of a length
	left   int    // bytes of a text
}

// step tells whether a value has ended, or why the byte may not stand.
func (m *machine) step(c byte) (bool, api.Errno) {
	digit := '0' <= c && c <= '9'
	switch {
	case m.what == 't':
		m.left--
		return m.ended(m.left == 0), api.OK
	case m.what == 0 && c == 'i':
		m.what, m.digits = 'i', ""
	case m.what == 0 && digit:
		m.what, m.digits = 'd', string(c)
	case m.what == 0 && c == 'l':
		if m.open == 8 {
			return false, api.ErrDeep
		}
		m.open++
	case m.what == 0 && c == 'e' && m.open > 0:
		m.open--
		return m.ended(true), api.OK
	case m.what == 'i' && c == '-' && m.digits == "":
		m.digits = "-"
	case m.what == 'i' && c == 'e' && m.digits != "" && m.digits != "-":
		return m.ended(true), api.OK
	case m.what == 'i' && digit && m.digits != "0" && m.digits+string(c) != "-0":
		m.digits += string(c)
		if _, err := strconv.ParseInt(m.digits, 10, 64); err != nil {
			return false, api.ErrValue
		}
	case m.what == 'd' && c == ':':
		m.left, _ = strconv.Atoi(m.digits)
		m.what = 't'
		return m.ended(m.left == 0), api.OK
	case m.what == 'd' && digit && m.digits != "0":
		m.digits += string(c)
		if n, _ := strconv.Atoi(m.digits); n > 1<<16 {
			return false, api.ErrLong
		}
	default:
		return false, api.ErrValue
	}
	return false, api.OK
}

func (m *machine) ended(it bool) bool {
	if it {
		m.what = 0
	}
	return it && m.open == 0
}

// run is what Take has to tell of s: how many bytes, or why not.
func run(s string) (int, api.Errno) {
	var m machine
	for i := range len(s) {
		end, e := m.step(s[i])
		if e != api.OK {
			return 0, e
		}
		if end && i >= 1<<16 {
			return 0, api.ErrLong
		}
		if end {
			return i + 1, api.OK
		}
	}
	return 0, api.ErrShort
}

func checkByMachine(t *testing.T, s string) {
	t.Helper()
	bytes, want := run(s)
	v, used, e := Take(s)
	if used != bytes || e != want {
		t.Fatalf("Take(%.80q): %d, error %d, want %d, %d", s, used, e, bytes, want)
	}
	w, e1 := Only(s)
	if want == api.OK {
		if x, e := Put(v); x != s[:used] || e != api.OK || x != encode(v) || !isBare(v) {
			t.Fatalf("Take(%.80q) is a value whose bytes are %.80q", s, x)
		}
		if used < len(s) {
			want = api.ErrValue
		}
	} else if !isZero(v) {
		t.Fatalf("Take(%.80q) = %v beside error %d", s, v, e)
	}
	if e1 != want || want == api.OK && !same(v, w) || want != api.OK && !isZero(w) {
		t.Fatalf("Only(%.80q) = %v, %d, want %d", s, w, e1, want)
	}
}

// eachOf tells all texts of up to most of some parts.
func eachOf(parts []string, most int, tell func(s string)) {
	tell("")
	if most == 0 {
		return
	}
	for _, p := range parts {
		eachOf(parts, most-1, func(s string) { tell(p + s) })
	}
}

// Be2: all short bytes are taken, or refused, as a machine does that sees one byte at a time.
func TestTakeAllShortBytes(t *testing.T) {
	all := make([]string, 256)
	for i := range all {
		all[i] = string([]byte{byte(i)})
	}
	eachOf(all, 2, func(s string) { checkByMachine(t, s) })
	eachOf(strings.Split("iel:-012", ""), 6, func(s string) { checkByMachine(t, s) })
}

func TestTakeAllShortParts(t *testing.T) {
	parts := []string{"i", "e", "l", ":", "-", "0", "1", "7", "5", "llllllll", "65530", "6553", "922337203685477580", "8", "9", "eeeeeeee", "i0e", "1:x"}
	eachOf(parts, 4, func(s string) { checkByMachine(t, s) })
	long := []string{"l", "e", "i1e", "65530:" + strings.Repeat("z", 65530), "65524:" + strings.Repeat("z", 65524), "x", "65537", "llllllll"}
	eachOf(long, 4, func(s string) { checkByMachine(t, s) })
}

func TestTakeMixedBytes(t *testing.T) {
	var g numbers
	for range 200000 {
		b := make([]byte, g.next(24))
		for i := range b {
			b[i] = "iiieeelll::-0123456789"[g.next(22)]
		}
		checkByMachine(t, string(b))
	}
	for range 20000 { // nearly a value: some bytes of one are others
		b := []byte(encode(g.mixed(8)))
		for range g.next(3) {
			b[g.next(len(b))] = "iel:-0129x"[g.next(10)]
		}
		checkByMachine(t, string(b))
	}
}

// An answer is new each time: what becomes of one changes no other.
func TestTakenIsNew(t *testing.T) {
	s := "lli1e1:aei2ee"
	v, _, _ := Take(s)
	w, _, _ := Take(s)
	v.L[0].L[0].N, v.L[1] = 9, words("q")
	_ = append(v.L[0].L, number(3))
	if !same(w, list(list(number(1), words("a")), number(2))) {
		t.Errorf("it became %v", w)
	}
	if v, _ := Only(s); !same(v, w) {
		t.Errorf("Only = %v", v)
	}
}

// R1: bytes without end, nearly, come to an end, too.
func TestTakeVeryLong(t *testing.T) {
	for _, part := range []string{"le", "i7e", "i123456e", "0:", "1:a", "li1ee"} {
		s := "l" + strings.Repeat(part, 1<<20)
		checkNot(t, s+"e", api.ErrLong)
		checkNot(t, s, api.ErrShort)
		checkNot(t, s+"-", api.ErrValue)
	}
	checkNot(t, "i"+strings.Repeat("1", 1<<20), api.ErrValue)
	checkNot(t, strings.Repeat("1", 1<<20), api.ErrLong)
	checkTaken(t, "i"+strconv.Itoa(math.MaxInt64)+strings.Repeat("e", 1<<20), number(math.MaxInt64), 21)
}
