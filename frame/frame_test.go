package frame

import (
	"fmt"
	"plover/api"
	"slices"
	"strings"
	"testing"
)

// sumBySteps is a text's sum by the document's words, bit by bit.
func sumBySteps(s string) int {
	n := 0xb704ce
	for i := 0; i < len(s); i++ {
		n ^= int(s[i]) * (1 << 16)
		for range 8 {
			n *= 2
			if n >= 1<<24 {
				n ^= 0x1864cfb
			}
		}
	}
	return n
}

// byWords is a text's frame by the document's words.
func byWords(s string) string {
	return fmt.Sprintf("%06x%06x|%s\n", len(s), sumBySteps(s), s)
}

// number is the number of six digits, or -1.
func number(s string) int {
	n := 0
	for _, d := range []byte(s) {
		switch {
		case '0' <= d && d <= '9':
			n = n*16 + int(d-'0')
		case 'a' <= d && d <= 'f':
			n = n*16 + int(d-'a') + 10
		default:
			return -1
		}
	}
	return n
}

// takeByWords is what Take answers by the document's words, one behind the other.
func takeByWords(s string) (string, int, api.Errno) {
	if len(s) < 13 {
		return "", 0, api.ErrShort
	}
	size, sum := number(s[0:6]), number(s[6:12])
	if size == -1 || sum == -1 || size > 262144 || s[12:13] != "|" {
		return "", 0, api.ErrFrame
	}
	behind := s[13:]
	if len(behind) < size+1 {
		return "", 0, api.ErrShort
	}
	if behind[size:size+1] != "\n" {
		return "", 0, api.ErrFrame
	}
	if sumBySteps(behind[:size]) != sum {
		return "", 0, api.ErrSum
	}
	return behind[:size], 14 + size, api.OK
}

// numbers gives numbers one behind the other, by a short rule.
type numbers struct{ at uint64 }

func (g *numbers) next(below int) int {
	g.at = g.at*6364136223846793005 + 1442695040888963407
	return int(g.at >> 33 % uint64(below))
}

func (g *numbers) text(bytes int) string {
	b := make([]byte, bytes)
	for i := range b {
		b[i] = byte(g.next(256))
	}
	return string(b)
}

// withByte is bytes with another one at a place.
func withByte(s string, at int, b byte) string {
	return s[:at] + string([]byte{b}) + s[at+1:]
}

func checkPut(t *testing.T, s, want string, err api.Errno) {
	t.Helper()
	if f, e := Put(s); f != want || e != err {
		t.Fatalf("Put(%.40q), %d bytes = %.60q, %d; want %.60q, %d", s, len(s), f, e, want, err)
	}
}

func checkTake(t *testing.T, s, text string, used int, err api.Errno) {
	t.Helper()
	if x, n, e := Take(s); x != text || n != used || e != err {
		t.Fatalf("Take(%.60q), %d bytes = %.40q, %d, %d; want %.40q, %d, %d", s, len(s), x, n, e, text, used, err)
	}
}

// refused sees to it that Take answers an error, and nothing beside it.
func refused(t *testing.T, s string, err api.Errno) {
	t.Helper()
	checkTake(t, s, "", 0, err)
}

func asByWords(t *testing.T, s string) {
	t.Helper()
	text, used, e := takeByWords(s)
	checkTake(t, s, text, used, e)
}

func checkAll(t *testing.T, s string, want []string, used int) {
	t.Helper()
	if l, n := All(s); !slices.Equal(l, want) || n != used {
		t.Fatalf("All(%.80q), %d bytes = %.80q, %d; want %.80q, %d", s, len(s), l, n, want, used)
	}
}

// Fm1: frames that were written elsewhere, their sums by division of one great number; and the texts read back.
func TestKnown(t *testing.T) {
	for _, c := range []struct{ text, frame string }{
		{"", "000000b704ce|\n"},
		{"hi", "000002526e1c|hi\n"},
		{"ho", "0000024b5df0|ho\n"},
		{"\n", "0000014a3de7|\n\n"},
		{"|", "0000018332b9||\n"},
		{"abc", "000003ba1c7b|abc\n"},
		{"a\nb", "000003a66ca5|a\nb\n"},
		{"\x00\x00\x00", "00000325ef22|\x00\x00\x00\n"},
		{"\xff\xff\xff", "000003c817ec|\xff\xff\xff\n"},
		{"\xb7\x04\xce", "000003000000|\xb7\x04\xce\n"}, // the least sum
		{"ÄbΩ", "00000554d94e|ÄbΩ\n"},
		{"123456789", "00000921cf02|123456789\n"},
		{"000000b704ce|\n", "00000e217af4|000000b704ce|\n\n"}, // a frame's frame
		{strings.Repeat("x", 16), "000010504a2a|xxxxxxxxxxxxxxxx\n"},
		{strings.Repeat("x", 255), "0000ff04998f|" + strings.Repeat("x", 255) + "\n"},
		{strings.Repeat("x", 4096), "0010007847cf|" + strings.Repeat("x", 4096) + "\n"},
		{strings.Repeat("x", 65535), "00ffff583358|" + strings.Repeat("x", 65535) + "\n"},
		{strings.Repeat("x", 262144), "040000032ce9|" + strings.Repeat("x", 262144) + "\n"},
	} {
		checkPut(t, c.text, c.frame, api.OK)
		checkTake(t, c.frame, c.text, len(c.text)+14, api.OK)
		checkAll(t, c.frame, []string{c.text}, len(c.text)+14)
	}
}

// Fm1: the greatest text, and one byte more, also of many more.
func TestPutLimit(t *testing.T) {
	var g numbers
	long := g.text(1 << 18)
	checkPut(t, long, byWords(long), api.OK)
	checkPut(t, long[1:], byWords(long[1:]), api.OK)
	checkPut(t, long+"x", "", api.ErrLong)
	checkPut(t, long+"\n", "", api.ErrLong)
	checkPut(t, long+long, "", api.ErrLong)
	checkPut(t, strings.Repeat("x", 1<<24), "", api.ErrLong) // as many as six digits don't say
}

// Fm1: a frame is read that has as many bytes as may be; one that says more is none, whether they are there or not.
func TestTakeLimit(t *testing.T) {
	var g numbers
	long := g.text(1<<18 + 1)
	most := long[:1<<18]
	checkTake(t, byWords(most), most, 1<<18+14, api.OK)
	checkTake(t, byWords(most)+"more", most, 1<<18+14, api.OK)
	checkAll(t, byWords(most)+byWords(most), []string{most, most}, 1<<19+28)
	refused(t, byWords(most)[:1<<18+13], api.ErrShort)
	refused(t, "040000b704ce|", api.ErrShort)
	refused(t, byWords(long), api.ErrFrame)
	refused(t, "040001b704ce|", api.ErrFrame)
	refused(t, "040001b704ce|\n", api.ErrFrame)
	refused(t, "ffffffb704ce|\n", api.ErrFrame)
	refused(t, "03ffffb704ce|\n", api.ErrShort)
	checkAll(t, byWords(long), nil, 0)
}

// Fm1: what Put tells, Take reads, of all short texts and of many longer ones, whatever is behind.
func TestThereAndBack(t *testing.T) {
	var g numbers
	one := func(s string) {
		t.Helper()
		f := byWords(s)
		checkPut(t, s, f, api.OK)
		checkTake(t, f, s, len(f), api.OK)
		checkTake(t, f+s, s, len(f), api.OK)
		checkTake(t, f+"\n", s, len(f), api.OK)
		checkTake(t, f+f, s, len(f), api.OK)
	}
	for a := range 256 {
		one(string([]byte{byte(a)}))
		for b := range 256 {
			one(string([]byte{byte(a), byte(b)}))
		}
	}
	for n := range 1500 {
		one(g.text(n))
	}
}

// Fm1: a frame that ends too soon, at each of its bytes.
func TestTakeShort(t *testing.T) {
	var g numbers
	for n := range 300 {
		f := byWords(g.text(n))
		for i := range len(f) {
			refused(t, f[:i], api.ErrShort)
			checkAll(t, f[:i], nil, 0)
		}
	}
}

// Fm1: fewer than 13 bytes are too short, whatever they are; 13 are a whole head, or none.
func TestTakeShortHead(t *testing.T) {
	for _, s := range []string{"", "g", "\n", "|", "ffffff", "FFFFFF", "000000b704ce", "||||||||||||", "\n\n\n\n\n\n\n\n\n\n\n\n", "\xff\xff"} {
		refused(t, s, api.ErrShort)
	}
	refused(t, "000000b704ce|", api.ErrShort)
	refused(t, "000000b704ce\n", api.ErrFrame)
	refused(t, "000000b704cex", api.ErrFrame)
	refused(t, "|||||||||||||", api.ErrFrame)
	refused(t, "\n\n\n\n\n\n\n\n\n\n\n\n\n", api.ErrFrame)
}

// Fm1: each byte at each place of the head and behind the text.
func TestTakeOtherByte(t *testing.T) {
	for _, text := range []string{"", "h", "hi", "\n\n\n", "0|\n1", "sixteen bytes, n", strings.Repeat("\n", 300)} {
		f := byWords(text) + strings.Repeat("\n", 20)
		places := []int{0, 1, 2, 3, 4, 5, 6, 7, 8, 9, 10, 11, 12, 13 + len(text)}
		for _, at := range places {
			for b := range 256 {
				asByWords(t, withByte(f, at, byte(b)))
			}
		}
	}
	f := byWords("hi")
	for at := range 12 {
		for _, b := range []byte("ABCDEFGgx /:`@+-_\n\x00\xff") {
			refused(t, withByte(f, at, b), api.ErrFrame)
		}
	}
	for b := range 256 {
		if b != '|' {
			refused(t, withByte(f, 12, byte(b)), api.ErrFrame)
		}
		if b != '\n' {
			refused(t, withByte(f, 15, byte(b)), api.ErrFrame)
		}
	}
}

// Fm1: the sum of another text, each of the digits, and a text of other bytes.
func TestTakeSum(t *testing.T) {
	refused(t, "0000024b5df0|hi\n", api.ErrSum)
	refused(t, "000002526e1c|ho\n", api.ErrSum)
	refused(t, "000002526e1c|ih\n", api.ErrSum)
	refused(t, "000000000000|\n", api.ErrSum)
	refused(t, "000000ffffff|\n", api.ErrSum)
	for at := 6; at < 12; at++ {
		for _, d := range []byte("0123456789abcdef") {
			if f := byWords("hi"); f[at] != d {
				refused(t, withByte(f, at, d), api.ErrSum)
			}
		}
	}
}

// Fm1: where several errors apply, the one that is named first.
func TestTakeFirstError(t *testing.T) {
	for _, c := range []struct {
		s   string
		err api.Errno
	}{
		{"00000g526e1c", api.ErrShort},        // no digit, and too few bytes
		{"00000g526e1c|", api.ErrFrame},       // no digit, and no text
		{"00000252GGGG|h", api.ErrFrame},      // no digits, and half a text
		{"000002526e1c/h", api.ErrFrame},      // no bar, and half a text
		{"040001526e1c/h", api.ErrFrame},      // too great a number
		{"0000020000000|hi\n", api.ErrFrame},  // one digit too many
		{"00000252e1c|hi\n", api.ErrFrame},    // one too few
		{"000002000000|h", api.ErrShort},      // another sum, and half a text
		{"000002000000|hi", api.ErrShort},     // another sum, and no newline
		{"000002000000|hix", api.ErrFrame},    // another sum, and another byte behind the text
		{"000001526e1c|hi\n", api.ErrFrame},   // a text that is longer than was said
		{"000003526e1c|hi\n", api.ErrShort},   // a text that is shorter, at the end
		{"000003526e1c|hi\n\n", api.ErrSum},   // a text that is shorter, with a newline where one may be
		{"000003526e1c|hi\nx", api.ErrFrame},  // and with another byte there
		{"000002526e1c|hi\r\n", api.ErrFrame}, // another end of a line
		{" 000002526e1c|hi\n", api.ErrFrame},
		{"\n000002526e1c|hi\n", api.ErrFrame},
		{"0x0002526e1c|hi\n", api.ErrFrame},
		{"+00002526e1c|hi\n", api.ErrFrame},
		{"-00002526e1c|hi\n", api.ErrFrame},
		{"0000_2526e1c|hi\n", api.ErrFrame},
		{"00000\xef\xbc\x92526e1c|hi\n", api.ErrFrame}, // a digit of another script
	} {
		refused(t, c.s, c.err)
		checkAll(t, c.s, nil, 0)
	}
}

// Fm1: frames with a few bytes taken out, put in, or made others, by a short rule.
func TestTakeSpoilt(t *testing.T) {
	var g numbers
	const likely = "0123456789abcdef|\n"
	for range 200000 {
		b := []byte(byWords(g.text(g.next(20))) + byWords(g.text(g.next(5))))
		for range g.next(4) {
			at := g.next(len(b))
			switch g.next(3) {
			case 0:
				b = slices.Delete(b, at, at+1)
			case 1:
				b = slices.Insert(b, at, likely[g.next(len(likely))])
			default:
				b[at] = likely[g.next(len(likely))]
			}
		}
		asByWords(t, string(b))
	}
}

// Fm1: heads of each number of bytes that is near to what is there.
func TestTakeOtherSize(t *testing.T) {
	var g numbers
	for range 200 {
		bytes := g.text(g.next(40)) + "\n" + g.text(g.next(40)) + "\n"
		for size := range len(bytes) + 3 {
			sum := sumBySteps(bytes[:min(size, len(bytes))])
			asByWords(t, fmt.Sprintf("%06x%06x|%s", size, sum, bytes))
			asByWords(t, fmt.Sprintf("%06x%06x|%s", size, sum^1, bytes))
		}
	}
}

// Fm2: the texts of frames one behind the other, also of none, and of those ahead of bytes that are no frame.
func TestAll(t *testing.T) {
	hi, none, line := byWords("hi"), byWords(""), byWords("a\nb")
	checkAll(t, "", nil, 0)
	checkAll(t, "x", nil, 0)
	checkAll(t, "no frame at all, of more bytes than a head", nil, 0)
	checkAll(t, none, []string{""}, 14)
	checkAll(t, none+none+none, []string{"", "", ""}, 42)
	checkAll(t, hi+line+none+hi, []string{"hi", "a\nb", "", "hi"}, 16+17+14+16)
	checkAll(t, hi+hi+"000", []string{"hi", "hi"}, 32)
	checkAll(t, hi+"\n"+hi, []string{"hi"}, 16)
	checkAll(t, "\n"+hi, nil, 0)
	checkAll(t, byWords(hi+line), []string{hi + line}, 47) // frames within a text are that text
	for _, c := range []string{
		"000002000000|hi\n", // another sum
		"000002526e1c|hix",  // no newline
		"00000X526e1c|hi\n", // no digit
		"000003526e1c|hi\n", // takes in a byte of the next one
	} {
		checkAll(t, c+hi, nil, 0)
		checkAll(t, hi+c+hi, []string{"hi"}, 16)
		checkAll(t, none+hi+c+hi, []string{"", "hi"}, 30)
	}
}

// Fm2: frames as many as a text has bytes.
func TestAllMany(t *testing.T) {
	var g numbers
	var s strings.Builder
	var want []string
	for range 100000 {
		text := g.text(g.next(10))
		want = append(want, text)
		s.WriteString(byWords(text))
	}
	checkAll(t, s.String(), want, s.Len())
	checkAll(t, s.String()+s.String()[:13], want, s.Len())
}

// Fm2: what was answered is nobody else's.
func TestAllNewMemory(t *testing.T) {
	s := byWords("a") + byWords("b")
	first, _ := All(s)
	second, _ := All(s)
	first[0], first[1] = "x", "y"
	if !slices.Equal(second, []string{"a", "b"}) {
		t.Fatalf("an answer was changed with another one: %q", second)
	}
	checkAll(t, s, []string{"a", "b"}, 30)
}

// Fm3: frames one behind the other, cut at each byte, are those that are whole.
func TestCut(t *testing.T) {
	var g numbers
	for range 60 {
		var s string
		var texts []string
		ends := []int{0}
		for range 1 + g.next(12) {
			text := g.text(g.next(30))
			if g.next(3) == 0 {
				text = strings.Repeat("\n", g.next(20))
			}
			texts = append(texts, text)
			s += byWords(text)
			ends = append(ends, len(s))
		}
		for cut := range len(s) + 1 {
			whole := 0
			for whole < len(texts) && ends[whole+1] <= cut {
				whole++
			}
			checkAll(t, s[:cut], texts[:whole], ends[whole])
		}
	}
}

// Fm3: a text of which each three bytes in a row are others, in all ways.
func TestThreeOtherBytes(t *testing.T) {
	f := []byte(byWords("|a\n0"))
	for at := 13; at <= 14; at++ {
		spoilt := slices.Clone(f)
		for n := range 1 << 24 {
			spoilt[at], spoilt[at+1], spoilt[at+2] = byte(n>>16), byte(n>>8), byte(n)
			same := spoilt[at] == f[at] && spoilt[at+1] == f[at+1] && spoilt[at+2] == f[at+2]
			if _, _, e := Take(string(spoilt)); e != api.ErrSum && !same || e != api.OK && same {
				t.Fatalf("Take(%q) answers %d", spoilt, e)
			}
		}
	}
}

// Fm3: up to three bytes in a row of a longer text, at each of its places; of frames in a row, those ahead are read.
func TestOtherBytes(t *testing.T) {
	var g numbers
	for _, size := range []int{1, 2, 3, 4, 40, 1000} {
		text := g.text(size)
		f, ahead := byWords(text), byWords("ahead")
		for at := range size {
			for length := 1; length <= min(3, size-at); length++ {
				for range 20 {
					spoilt := []byte(f)
					for i := range length {
						spoilt[13+at+i] ^= byte(1 + g.next(255))
					}
					refused(t, string(spoilt), api.ErrSum)
					checkAll(t, ahead+string(spoilt)+f, []string{"ahead"}, 19)
				}
			}
		}
	}
}

// Fm1, Fm3: the sum alone tells that a text is another one: four bytes in a row may be others unseen.
func TestFourOtherBytes(t *testing.T) {
	f := []byte(byWords("abcdef"))
	for i, x := range []byte{0x01, 0x86, 0x4c, 0xfb} {
		f[13+1+i] ^= x
	}
	text := string(f[13:19])
	if text == "abcdef" {
		t.Fatal("no byte is another one")
	}
	checkTake(t, string(f), text, 20, api.OK)
}
