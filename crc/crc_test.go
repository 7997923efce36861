package crc

import (
	"fmt"
	"math"
	"plover/api"
	"strings"
	"testing"
)

// bySteps is a sum by the document's words, bit by bit, without a table.
func bySteps(s string) int {
	n := 0xb704ce
	for i := 0; i < len(s); i++ {
		n ^= int(s[i]) * (1 << 16)
		for range 8 {
			n *= 2
			if n >= 1<<24 {
				n ^= 0x1864cfb
			}
		}
	}
	return n
}

// allBytes are the 256 bytes, in order.
func allBytes() string {
	b := make([]byte, 256)
	for i := range b {
		b[i] = byte(i)
	}
	return string(b)
}

// numbers gives numbers one behind the other, by a short rule.
type numbers struct{ at uint64 }

func (g *numbers) next(below int) int {
	g.at = g.at*6364136223846793005 + 1442695040888963407
	return int(g.at >> 33 % uint64(below))
}

func (g *numbers) text(bytes int) string {
	b := make([]byte, bytes)
	for i := range b {
		b[i] = byte(g.next(256))
	}
	return string(b)
}

func checkSum(t *testing.T, s string, want int) {
	t.Helper()
	if n := Sum(s); n != want {
		t.Fatalf("Sum(%.40q), %d bytes = %#x, want %#x", s, len(s), n, want)
	}
}

// Cr1: sums that were reckoned elsewhere, by division of one great number.
func TestSumKnown(t *testing.T) {
	for _, c := range []struct {
		s   string
		sum int
	}{
		{"", 0xb704ce},
		{"123456789", 0x21cf02},
		{"\x00", 0x6169d3},
		{"\x01", 0xe72528},
		{"\x80", 0x522e77},
		{"\xff", 0xbceceb},
		{"a", 0xf25713},
		{"ab", 0xa11a2d},
		{"ba", 0x061203},
		{"abc", 0xba1c7b},
		{"abc\x00", 0xcdf7f0},
		{"\x00abc", 0x69aaaa},
		{"\x00\x00\x00", 0x25ef22},
		{"\xb7\x04\xce", 0}, // the least sum
		{"\xff\xff\xff", 0xc817ec},
		{"ÄbΩ", 0x54d94e},
		{"plover", 0x40b4da},
		{"plover\n", 0x862de6},
		{"The nearest points, exactly, over shards that move while they are asked.", 0xf18931},
		{allBytes(), 0x5bbd34},
		{strings.Repeat("x", 1000), 0x37fc3e},
	} {
		checkSum(t, c.s, c.sum)
	}
}

// Cr1: of all short bytes, and of many longer ones.
func TestSumBySteps(t *testing.T) {
	for a := range 256 {
		s := string([]byte{byte(a)})
		checkSum(t, s, bySteps(s))
		for b := range 256 {
			s := string([]byte{byte(a), byte(b)})
			checkSum(t, s, bySteps(s))
		}
	}
	var g numbers
	for n := range 2000 {
		s := g.text(n)
		checkSum(t, s, bySteps(s))
	}
	long := g.text(1 << 20)
	checkSum(t, long, bySteps(long))
}

// A sum is that of its text alone, whatever stands behind it, and whatever was asked ahead.
func TestSumOfItsTextAlone(t *testing.T) {
	var g numbers
	s := g.text(300)
	for i := range len(s) + 1 {
		want := bySteps(strings.Clone(s[:i]))
		checkSum(t, s[:i], want)
		Sum(s)
		checkSum(t, s[:i], want)
	}
}

// distinct sees to it that all texts that differ in the 24 bits of the middle alone, from the bit at on, have unlike sums.
func distinct(t *testing.T, ahead, middle, behind string, at int) {
	t.Helper()
	seen := make([]uint64, 1<<24/64)
	text := []byte(ahead + middle + behind)
	window := text[len(ahead) : len(ahead)+4]
	other := uint32(middle[0])<<24 | uint32(middle[1])<<16 | uint32(middle[2])<<8 | uint32(middle[3])
	other &^= (1<<24 - 1) << (8 - at)
	for bits := range uint32(1 << 24) {
		all := other | bits<<(8-at)
		window[0], window[1], window[2], window[3] = byte(all>>24), byte(all>>16), byte(all>>8), byte(all)
		n := Sum(string(text))
		if n < 0 || n >= 1<<24 {
			t.Fatalf("Sum(%q) = %d", text, n)
		}
		if seen[n/64]>>(n%64)&1 == 1 {
			t.Fatalf("two texts have the sum %#x: %q, and one that differs from it in the 24 bits from %d on", n, text, 8*len(ahead)+at)
		}
		seen[n/64] |= 1 << (n % 64)
	}
}

// Cr3: every 24 bits in a row, from each bit of a byte on, all at once.
func TestUnlikeSums(t *testing.T) {
	for at := range 9 {
		distinct(t, "", "\x5a\xc3\x00\xff", "", at)
	}
	distinct(t, "ab", "\x00\x00\x00\x00", "c", 3)
}

// flip is s with other bits: those of bits (the highest one of 32 first), from the bit at on.
func flip(s string, bits uint32, at int) string {
	b := []byte(s)
	for i := range 32 {
		if bits>>(31-i)&1 == 1 {
			b[(at+i)/8] ^= 0x80 >> ((at + i) % 8)
		}
	}
	return string(b)
}

// Cr3: wherever the bits are in a longer text.
func TestUnlikeSumsInLongTexts(t *testing.T) {
	var g numbers
	for range 200 {
		s := g.text(5 + g.next(300))
		sum := Sum(s)
		for at := range 8*len(s) - 31 {
			bits := uint32(1<<31|g.next(1<<23)<<8) >> g.next(9) // 24 bits in a row, the first of them another one
			if Sum(flip(s, bits, at)) == sum {
				t.Fatalf("Sum(%q) is that of one with the bits %#x from %d on", s, bits, at)
			}
		}
	}
}

// Cr3: 25 bits in a row are one too many: just these leave the sum as it is.
func TestLikeSumsOneBitBeyond(t *testing.T) {
	var g numbers
	for at := range 64 {
		s := g.text(12)
		if other := flip(s, 0x1864cfb<<7, at); Sum(other) != Sum(s) {
			t.Errorf("Sum(%q) and Sum(%q) differ", s, other)
		}
		if other := flip(s, 0x1864cfa<<7, at); Sum(other) == Sum(s) {
			t.Errorf("Sum(%q) and Sum(%q) are one", s, other)
		}
	}
}

// digitPairs are numbers, and their digits, written out by hand.
func digitPairs() map[string]int {
	return map[string]int{
		"000000": 0, "000001": 1, "000009": 9, "00000a": 10, "00000f": 15, "000010": 16, "0000ff": 255, "000100": 256,
		"000fff": 4095, "001000": 4096, "00ffff": 65535, "010000": 65536, "0fffff": 1<<20 - 1, "100000": 1 << 20,
		"123456": 0x123456, "789abc": 0x789abc, "def012": 0xdef012, "21cf02": 0x21cf02, "b704ce": 0xb704ce,
		"7fffff": 1<<23 - 1, "800000": 1 << 23, "fffffe": 1<<24 - 2, "ffffff": 1<<24 - 1,
	}
}

// Cr2: six digits, and the number that they are.
func TestHexKnown(t *testing.T) {
	for s, n := range digitPairs() {
		if d, e := Hex(n); d != s || e != api.OK {
			t.Errorf("Hex(%d) = %q, %d, want %q", n, d, e, s)
		}
		if m, e := Unhex(s); m != n || e != api.OK {
			t.Errorf("Unhex(%q) = %d, %d, want %d", s, m, e, n)
		}
	}
}

// Cr2: of every number the digits, and back.
func TestHexOfAll(t *testing.T) {
	for n := range 1 << 24 {
		s, e := Hex(n)
		if e != api.OK || len(s) != 6 {
			t.Fatalf("Hex(%d) = %q, %d", n, s, e)
		}
		if m, e := Unhex(s); m != n || e != api.OK {
			t.Fatalf("Unhex(%q) = %d, %d, want %d", s, m, e, n)
		}
		if (n < 5000 || n%127 == 0) && s != fmt.Sprintf("%06x", n) {
			t.Fatalf("Hex(%d) = %q", n, s)
		}
	}
}

// Cr2: what is not 0 to 2^24 - 1 has no digits.
func TestHexNone(t *testing.T) {
	for _, n := range []int{-1, -2, -255, -1 << 24, math.MinInt, math.MinInt32, math.MinInt32 + 1, 1 << 24, 1<<24 + 1, 1<<24 + 255, 1 << 25, math.MaxInt32, 1 << 32, 1<<32 + 1, math.MaxInt} {
		if s, e := Hex(n); s != "" || e != api.ErrArg {
			t.Errorf("Hex(%d) = %q, %d", n, s, e)
		}
	}
}

func checkNoDigits(t *testing.T, s string) {
	t.Helper()
	if n, e := Unhex(s); n != 0 || e != api.ErrArg {
		t.Errorf("Unhex(%.40q), %d bytes = %d, %d", s, len(s), n, e)
	}
}

// Cr2: neither fewer nor more than six digits, and no other bytes.
func TestUnhexNone(t *testing.T) {
	for n := range 40 {
		if n != 6 {
			checkNoDigits(t, strings.Repeat("0", n))
			checkNoDigits(t, strings.Repeat("f", n))
		}
	}
	checkNoDigits(t, strings.Repeat("1", 1<<20))
	for _, s := range []string{
		"ABCDEF", "0000FF", "0000fF", "F00000", "00000G", "00000g", "g00000", "0x00ff", "00x0ff", "0X00ff",
		"+0000f", "-00001", "-0000f", " 0000f", "0000f ", "0000f\n", "00_0ff", "00 0ff", "00.000", "1e0000h",
		"0000f", "0000fff", "000000\n", "000000 ", " 000000", "0000ff\x00", "\x000000ff", "00000\x00", "\x00\x00\x00\x00\x00\x00",
		"ÄÄÄ", "０１", "00００", "00000/", "00000:", "00000`", "00000@", "\xff\xff\xff\xff\xff\xff",
	} {
		checkNoDigits(t, s)
	}
}

// Cr2: each byte at each place.
func TestUnhexOfAllBytes(t *testing.T) {
	for place := range 6 {
		for c := range 256 {
			b := []byte("7b04c9")
			b[place] = byte(c)
			s := string(b)
			d := strings.IndexByte("0123456789abcdef", byte(c))
			if d < 0 {
				checkNoDigits(t, s)
				continue
			}
			shift := 20 - 4*place
			want := 0x7b04c9&^(15<<shift) | d<<shift
			if n, e := Unhex(s); n != want || e != api.OK {
				t.Errorf("Unhex(%q) = %#x, %d, want %#x", s, n, e, want)
			}
		}
	}
}

// Cr2: a spot is the sum of kind, a and b with strokes between.
func TestSpotKnown(t *testing.T) {
	for _, c := range []struct {
		kind string
		a, b int
		s    string
		sum  int
	}{
		{"node", 0, 0, "node/0/0", 0x797161},
		{"node", 7, 63, "node/7/63", 0x10c713},
		{"shard", 0, 1, "shard/0/1", 0x0a21a7},
		{"shard", 15, 16, "shard/15/16", 0x0ff5c5},
		{"id", 0, 0, "id/0/0", 0x2a0b62},
		{"id", -10, 0, "id/-10/0", 0xdddd48},
		{"id", math.MinInt64, 0, "id/-9223372036854775808/0", 0xa6107d},
		{"id", math.MaxInt64, 0, "id/9223372036854775807/0", 0x6059c7},
		{"n", 1, -2, "n/1/-2", 0x09fbb1},
		{"", 0, 0, "/0/0", 0x0a02a7},
		{"a/b", -1, 1, "a/b/-1/1", 0xc0317e},
		{"\xff", 10, -10, "\xff/10/-10", 0xf08c6d},
	} {
		if n := Spot(c.kind, c.a, c.b); n != c.sum || n != bySteps(c.s) {
			t.Errorf("Spot(%q, %d, %d) = %#x, want %#x", c.kind, c.a, c.b, n, c.sum)
		}
	}
}

// Cr2: numbers of each count of digits, on both sides of 0.
func TestSpotNumbers(t *testing.T) {
	edges := []int{0, 1, -1, 9, -9, 10, -10, 99, -99, 100, -100, math.MaxInt32, math.MinInt32, math.MaxInt64, math.MinInt64, math.MinInt64 + 1}
	var g numbers
	for shift := range 63 {
		edges = append(edges, g.next(1<<31)<<32>>shift, -g.next(1<<31)<<32>>shift)
	}
	for _, kind := range []string{"", "node", "/", "-", "ÄbΩ", "\x00", "n\xff\n", strings.Repeat("k", 1000)} {
		for _, a := range edges {
			for _, b := range edges {
				want := bySteps(fmt.Sprintf("%s/%d/%d", kind, a, b))
				if n := Spot(kind, a, b); n != want {
					t.Fatalf("Spot(%.20q, %d, %d) = %#x, want %#x", kind, a, b, n, want)
				}
			}
		}
	}
}
