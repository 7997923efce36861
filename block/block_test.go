package block

import (
	"math"
	"plover/api"
	"runtime"
	"slices"
	"strings"
	"testing"
)

// numbers gives numbers one behind the other, by a short rule.
type numbers struct{ at uint64 }

func (g *numbers) next(below int) int {
	g.at = g.at*6364136223846793005 + 1442695040888963407
	return int(g.at >> 33 % uint64(below))
}

func (g *numbers) text(bytes int) string {
	b := make([]byte, bytes)
	for i := range b {
		b[i] = byte(g.next(256))
	}
	return string(b)
}

// size is a number of bytes that a block may have: mostly few, sometimes none, or all.
func (g *numbers) size() int {
	switch g.next(6) {
	case 0:
		return 0
	case 1:
		return 127 + g.next(2)
	case 2:
		return g.next(129)
	}
	return g.next(6)
}

// wild is a number for Fail: small, below 0, or one of the outermost.
func (g *numbers) wild() int {
	switch g.next(8) {
	case 0:
		return -1 - g.next(1000)
	case 1:
		return math.MaxInt - g.next(200)
	case 2:
		return math.MinInt + g.next(200)
	case 3:
		return g.next(1 << 20)
	}
	return g.next(20)
}

type put struct {
	block int
	s     string
}

// words is a disk by the document's words: what is sure, and the writes since, from which all else is reckoned.
type words struct {
	sure []string
	puts []put
}

func (w *words) get(block int) string {
	for i := len(w.puts) - 1; i >= 0; i-- {
		if w.puts[i].block == block {
			return w.puts[i].s
		}
	}
	return w.sure[block]
}

func (w *words) sync() {
	for i := range w.sure {
		w.sure[i] = w.get(i)
	}
	w.puts = nil
}

// modulo is what is left when as many are taken from a number again and again; of a number below 0 nothing.
func modulo(n, by int) int {
	if n < 0 {
		return 0
	}
	return n - n/by*by
}

func (w *words) fail(keep, torn int) {
	n := modulo(keep, len(w.puts)+1)
	var next []put
	if n < len(w.puts) {
		next = w.puts[n : n+1]
	}
	w.puts = w.puts[:n]
	w.sync()
	for _, p := range next {
		came := modulo(torn, len(p.s)+1)
		had := w.sure[p.block]
		var b []byte
		for i := 0; i < came || i < len(had); i++ {
			if i < came {
				b = append(b, p.s[i])
			} else {
				b = append(b, had[i])
			}
		}
		w.sure[p.block] = string(b)
	}
}

func newDisk(t *testing.T, blocks int) *Disk {
	t.Helper()
	d, e := New(blocks)
	if e != api.OK || d == nil {
		t.Fatalf("New(%d) = %v, %d", blocks, d, e)
	}
	return d
}

func checkPut(t *testing.T, d *Disk, block int, s string) {
	t.Helper()
	if e := d.Put(block, s); e != api.OK {
		t.Fatalf("Put(%d, %.40q), %d bytes, answers %d", block, s, len(s), e)
	}
}

func checkGet(t *testing.T, d *Disk, block int, want string) {
	t.Helper()
	if s, e := d.Get(block); s != want || e != api.OK {
		t.Fatalf("Get(%d) = %q, %d; want %q", block, s, e, want)
	}
}

func checkSync(t *testing.T, d *Disk) {
	t.Helper()
	if e := d.Sync(); e != api.OK {
		t.Fatalf("Sync answers %d", e)
	}
	checkLoose(t, d, 0)
}

func checkFail(t *testing.T, d *Disk, keep, torn int) {
	t.Helper()
	if e := d.Fail(keep, torn); e != api.OK {
		t.Fatalf("Fail(%d, %d) answers %d", keep, torn, e)
	}
	checkLoose(t, d, 0)
}

func checkLoose(t *testing.T, d *Disk, want int) {
	t.Helper()
	if n := d.Loose(); n != want {
		t.Fatalf("Loose = %d, want %d", n, want)
	}
}

// checkAll sees to it that a disk has those blocks, and no others.
func checkAll(t *testing.T, d *Disk, want ...string) {
	t.Helper()
	if d.Blocks() != len(want) {
		t.Fatalf("Blocks = %d, want %d", d.Blocks(), len(want))
	}
	for i, s := range want {
		checkGet(t, d, i, s)
	}
}

func checkWords(t *testing.T, d *Disk, w *words) {
	t.Helper()
	checkLoose(t, d, len(w.puts))
	for i := range w.sure {
		checkGet(t, d, i, w.get(i))
	}
}

// sureOf is a new disk of four blocks that has these bytes, all sure.
func sureOf(t *testing.T, blocks ...string) *Disk {
	t.Helper()
	d := newDisk(t, 4)
	for i, s := range blocks {
		checkPut(t, d, i, s)
	}
	checkSync(t, d)
	return d
}

// Bl1: how many blocks there may be; at first they have no bytes.
func TestNew(t *testing.T) {
	for _, n := range []int{4, 5, 10, 127, 128, 1 << 13, 1<<14 - 1, 1 << 14} {
		d := newDisk(t, n)
		checkLoose(t, d, 0)
		checkAll(t, d, make([]string, n)...)
	}
	for _, n := range []int{3, 2, 1, 0, -1, -4, -1 << 14, 1<<14 + 1, 1 << 15, 1 << 40, 1<<32 + 4, math.MaxInt, math.MinInt} {
		if d, e := New(n); d != nil || e != api.ErrArg {
			t.Errorf("New(%d) = %v, %d", n, d, e)
		}
	}
}

// Bl1: each block is there, and none beside them.
func TestWhichBlocks(t *testing.T) {
	for _, n := range []int{4, 5, 1 << 14} {
		d := newDisk(t, n)
		for i := range n {
			checkPut(t, d, i, string(rune(i)))
			checkLoose(t, d, i+1)
		}
		for _, i := range []int{-1, -2, -n, n, n + 1, 1<<32 + 1, -1 << 32, math.MaxInt, math.MinInt} {
			if e := d.Put(i, "x"); e != api.ErrArg {
				t.Errorf("Put(%d) of %d blocks answers %d", i, n, e)
			}
			if e := d.Put(i, ""); e != api.ErrArg {
				t.Errorf("Put(%d) of %d blocks, no bytes, answers %d", i, n, e)
			}
			if s, e := d.Get(i); s != "" || e != api.ErrArg {
				t.Errorf("Get(%d) of %d blocks = %q, %d", i, n, s, e)
			}
		}
		checkLoose(t, d, n)
		for i := range n {
			checkGet(t, d, i, string(rune(i)))
		}
		if d.Blocks() != n {
			t.Errorf("Blocks = %d, want %d", d.Blocks(), n)
		}
	}
}

// Bl1: a block has each number of bytes from none to 128, any bytes; one more is refused.
func TestHowManyBytes(t *testing.T) {
	var g numbers
	d := newDisk(t, 4)
	for n := range 129 {
		s := g.text(n)
		checkPut(t, d, 1, s)
		checkLoose(t, d, n+1)
		checkAll(t, d, "", s, "", "")
	}
	s, _ := d.Get(1)
	for _, n := range []int{129, 130, 255, 256, 257, 384, 1 << 16, 1<<16 + 1} {
		for _, block := range []int{0, 1, 4, -1} {
			if e := d.Put(block, g.text(n)); e != api.ErrArg {
				t.Errorf("Put(%d) of %d bytes answers %d", block, n, e)
			}
		}
		checkLoose(t, d, 129)
		checkAll(t, d, "", s, "", "")
	}
	if e := d.Put(0, strings.Repeat("Ω", 65)); e != api.ErrArg {
		t.Errorf("Put of 130 bytes, 65 runes, answers %d", e)
	}
}

// Bl1: a shorter write leaves nothing of what was there; the same one again is one more; Sync changes no block.
func TestPut(t *testing.T) {
	d := newDisk(t, 4)
	checkPut(t, d, 2, "abcd")
	checkPut(t, d, 2, "xy")
	checkAll(t, d, "", "", "xy", "")
	checkPut(t, d, 2, "xy")
	checkPut(t, d, 3, "")
	checkLoose(t, d, 4)
	checkSync(t, d)
	checkAll(t, d, "", "", "xy", "")
	checkPut(t, d, 2, "")
	checkLoose(t, d, 1)
	checkAll(t, d, "", "", "", "")
	checkSync(t, d)
	checkSync(t, d)
	checkAll(t, d, "", "", "", "")
}

// Bl1: what is refused is no write, also behind a failure.
func TestRefused(t *testing.T) {
	d := sureOf(t, "a", "b", "c", "d")
	checkPut(t, d, 0, "first")
	d.Put(0, strings.Repeat("x", 129))
	d.Put(4, "x")
	d.Put(-1, "x")
	d.Get(4)
	checkPut(t, d, 1, "second")
	checkLoose(t, d, 2)
	checkAll(t, d, "first", "second", "c", "d")
	checkFail(t, d, 1, 3)
	checkAll(t, d, "first", "sec", "c", "d")
}

// Bl2: keep, modulo how many writes are loose and 1.
func TestKeep(t *testing.T) {
	none, all := []string{"a", "b", "c", "d"}, []string{"first", "b", "third", "second"}
	one, two := []string{"first", "b", "c", "d"}, []string{"first", "b", "c", "second"}
	for _, c := range []struct {
		keep int
		want []string
	}{
		{0, none}, {1, one}, {2, two}, {3, all}, {4, none}, {5, one}, {6, two}, {7, all}, {8, none}, {1003, all},
		{-1, none}, {-2, none}, {-3, none}, {-4, none}, {-5, none}, {math.MinInt, none}, {math.MinInt + 1, none},
		{math.MaxInt, all}, {math.MaxInt - 1, two}, {math.MaxInt - 2, one}, {math.MaxInt - 3, none},
	} {
		d := sureOf(t, "a", "b", "c", "d")
		checkPut(t, d, 0, "first")
		checkPut(t, d, 3, "second")
		checkPut(t, d, 2, "third")
		checkFail(t, d, c.keep, 0)
		checkAll(t, d, c.want...)
	}
}

// Bl2: torn, modulo how many bytes were written and 1, over a block that had more bytes, as many, fewer, or none.
func TestTorn(t *testing.T) {
	for _, c := range []struct {
		had, s string
		torn   int
		want   string
	}{
		{"abcd", "xy", 1, "xbcd"}, // the document's example
		{"abcd", "xy", 0, "abcd"},
		{"abcd", "xy", 2, "xycd"}, // all of the write's bytes, but not the whole write
		{"abcd", "xy", 3, "abcd"},
		{"abcd", "xy", 4, "xbcd"},
		{"abcd", "xy", 5, "xycd"},
		{"abcd", "xy", -1, "abcd"},
		{"abcd", "xy", -2, "abcd"},
		{"abcd", "xy", math.MinInt, "abcd"},
		{"abcd", "xy", math.MaxInt, "xbcd"}, // 2^63 - 1 is 1, modulo 3
		{"abcd", "xy", math.MaxInt - 1, "abcd"},
		{"abcd", "wxyz", 3, "wxyd"},
		{"abcd", "wxyz", 4, "wxyz"},
		{"abcd", "wxyz", 5, "abcd"},
		{"ab", "wxyz", 1, "wb"},
		{"ab", "wxyz", 2, "wx"},
		{"ab", "wxyz", 3, "wxy"},
		{"ab", "wxyz", 4, "wxyz"},
		{"ab", "wxyz", 0, "ab"},
		{"", "wxyz", 0, ""},
		{"", "wxyz", 3, "wxy"},
		{"", "wxyz", 4, "wxyz"},
		{"abcd", "", 0, "abcd"}, // a write of no bytes, torn, is none
		{"abcd", "", 1, "abcd"},
		{"abcd", "", -1, "abcd"},
		{"abcd", "", math.MaxInt, "abcd"},
		{"", "", 7, ""},
		{"ÄbΩ", "äx", 1, "\xc3\x84bΩ"}, // bytes, not runes
		{"Äb", "Ωx", 1, "\xce\x84b"},
	} {
		for _, keep := range []int{0, 2, 4, -1} {
			d := sureOf(t, "0", c.had, "2", "3")
			checkPut(t, d, 1, c.s)
			checkFail(t, d, keep, c.torn)
			checkAll(t, d, "0", c.want, "2", "3")
		}
		for _, keep := range []int{1, 3, math.MaxInt} { // not torn, whatever is said
			d := sureOf(t, "0", c.had, "2", "3")
			checkPut(t, d, 1, c.s)
			checkFail(t, d, keep, c.torn)
			checkAll(t, d, "0", c.s, "2", "3")
		}
	}
}

// Bl2: each number of bytes of a block that is torn, over one of each number of bytes.
func TestTornSizes(t *testing.T) {
	var g numbers
	d := newDisk(t, 4)
	for had := 0; had <= 128; had += 8 {
		for size := 0; size <= 128; size += 16 {
			for torn := range size + 1 {
				old, s := g.text(had), g.text(size)
				checkPut(t, d, 3, old)
				checkSync(t, d)
				checkPut(t, d, 3, s)
				checkFail(t, d, 0, torn)
				want := s[:torn]
				if torn < had {
					want += old[torn:]
				}
				checkGet(t, d, 3, want)
			}
		}
	}
}

// Bl2: writes of one block: the one that is torn stands over the last one that survived, not over those that are lost.
func TestSameBlock(t *testing.T) {
	for _, c := range []struct {
		keep, torn int
		want       string
	}{
		{0, 0, "abcdef"}, {0, 1, "1bcdef"}, {0, 4, "1111ef"},
		{1, 0, "1111"}, {1, 1, "2111"}, {1, 2, "2211"},
		{2, 0, "22"}, {2, 1, "32"}, {2, 3, "333"},
		{3, 0, "333"}, {3, 2, "333"},
		{4, 0, ""}, {4, 1, "5"}, {4, 5, "55555"}, {4, 6, ""},
		{5, 0, "55555"}, {5, 3, "55555"},
		{6, 1, "1bcdef"},
	} {
		d := sureOf(t, "", "abcdef", "", "")
		checkPut(t, d, 1, "1111")
		checkPut(t, d, 1, "22")
		checkPut(t, d, 1, "333")
		checkPut(t, d, 1, "")
		checkPut(t, d, 1, "55555")
		checkLoose(t, d, 5)
		checkFail(t, d, c.keep, c.torn)
		checkAll(t, d, "", c.want, "", "")
	}
}

// Bl2: one write is torn at the most, and those behind it are as if they had not been, of its block or of another one.
func TestBehindTheTorn(t *testing.T) {
	d := sureOf(t, "a", "bb", "c", "d")
	checkPut(t, d, 0, "AA")
	checkPut(t, d, 1, "BBBB")
	checkPut(t, d, 0, "last")
	checkPut(t, d, 1, "last")
	checkPut(t, d, 3, "last")
	checkFail(t, d, 1, 3)
	checkAll(t, d, "AA", "BBB", "c", "d")
}

// Bl2: without loose writes nothing fails; what survived a failure, or was torn, is sure.
func TestFailAgain(t *testing.T) {
	d := newDisk(t, 4)
	for _, n := range []int{0, 1, -1, 5, math.MaxInt, math.MinInt} {
		checkFail(t, d, n, n)
		checkAll(t, d, "", "", "", "")
	}
	checkPut(t, d, 0, "kept")
	checkPut(t, d, 1, "torn")
	checkPut(t, d, 2, "lost")
	checkFail(t, d, 1, 2)
	for _, n := range []int{0, 1, 2, -1, math.MaxInt} {
		checkFail(t, d, n, 1)
		checkAll(t, d, "kept", "to", "", "")
	}
	checkSync(t, d)
	checkAll(t, d, "kept", "to", "", "")
	checkPut(t, d, 1, "XYZ")
	checkPut(t, d, 0, "")
	checkFail(t, d, 0, 1)
	checkAll(t, d, "kept", "Xo", "", "")
}

// Bl3: what was synced stays, at each keep and torn, but for the block of a later write.
func TestSyncedStays(t *testing.T) {
	var g numbers
	for keep := range 4 {
		for torn := range 8 {
			one, two := g.text(128), g.text(9)
			d := sureOf(t, one, two, "c", "d")
			checkPut(t, d, 2, "later")
			checkPut(t, d, 2, "still")
			checkFail(t, d, keep, torn)
			checkGet(t, d, 0, one)
			checkGet(t, d, 1, two)
			checkGet(t, d, 3, "d")
		}
	}
	d := newDisk(t, 4)
	checkPut(t, d, 0, "a")
	checkSync(t, d)
	checkPut(t, d, 1, "b")
	checkSync(t, d)
	checkPut(t, d, 0, "aa")
	checkSync(t, d)
	checkFail(t, d, 0, 0)
	checkAll(t, d, "aa", "b", "", "")
}

// Bl1, Bl2, Bl3: long rows of calls, by a short rule, each block held against the document's words behind each call.
func TestAsByWords(t *testing.T) {
	var g numbers
	for range 400 {
		n := 4 + g.next(8)
		d, w := newDisk(t, n), &words{sure: make([]string, n)}
		for range 200 {
			switch g.next(12) {
			case 0:
				checkSync(t, d)
				w.sync()
			case 1:
				keep, torn := g.wild(), g.wild()
				checkFail(t, d, keep, torn)
				w.fail(keep, torn)
			case 2:
				if e := d.Put(g.next(n), g.text(129+g.next(9))); e != api.ErrArg {
					t.Fatalf("Put of too many bytes answers %d", e)
				}
			default:
				p := put{g.next(n), g.text(g.size())}
				checkPut(t, d, p.block, p.s)
				w.puts = append(w.puts, p)
			}
			checkWords(t, d, w)
		}
	}
}

// Bl2: a great many loose writes.
func TestManyLoose(t *testing.T) {
	const many = 200000
	d := newDisk(t, 1<<14)
	text := func(i int) string { return strings.Repeat(string(rune('a'+i%26)), 1+i%128) }
	for i := range many {
		checkPut(t, d, i%(1<<14), text(i))
	}
	checkLoose(t, d, many)
	keep := many / 2
	had, _ := text(keep-1<<14), text(keep)
	checkFail(t, d, keep+many+1, 1)
	checkGet(t, d, keep%(1<<14), text(keep)[:1]+had[1:])
	for i := keep - 1<<14 + 1; i < keep; i++ {
		checkGet(t, d, i%(1<<14), text(i))
	}
}

// R1: a disk that New did not give, and none at all.
func TestNotGiven(t *testing.T) {
	copied := *sureOf(t, "a", "b")
	for name, d := range map[string]*Disk{"nil": nil, "zero": {}, "copied": &copied} {
		for _, n := range []int{0, 1, 3, 4, -1, math.MaxInt, math.MinInt} {
			s, e := d.Get(n)
			if s != "" || e != api.ErrArg {
				t.Errorf("%s: Get(%d) = %q, %d", name, n, s, e)
			}
			errs := []api.Errno{d.Put(n, "x"), d.Put(n, ""), d.Sync(), d.Fail(n, n), d.Fail(0, n)}
			if !slices.Equal(errs, slices.Repeat([]api.Errno{api.ErrArg}, 5)) {
				t.Errorf("%s: %d answers %v", name, n, errs)
			}
			if d.Loose() != 0 || d.Blocks() != 0 {
				t.Errorf("%s: Loose = %d, Blocks = %d", name, d.Loose(), d.Blocks())
			}
		}
	}
}

// R4: what is done to a disk's copy, or to another disk, does nothing to it.
func TestApart(t *testing.T) {
	d, other := sureOf(t, "a"), sureOf(t, "z")
	checkPut(t, d, 1, "b")
	copied := *d
	copied.Put(1, "x")
	copied.Fail(0, 0)
	copied.Sync()
	checkPut(t, other, 1, "y")
	checkFail(t, other, 0, 0)
	checkLoose(t, d, 1)
	checkAll(t, d, "a", "b", "", "")
	checkFail(t, d, 1, 0)
	checkAll(t, d, "a", "b", "", "")
	checkAll(t, other, "z", "", "", "")
}

// heap is how many bytes are in use.
func heap() int {
	runtime.GC()
	var m runtime.MemStats
	runtime.ReadMemStats(&m)
	return int(m.HeapAlloc)
}

// Bl1, Bl2: what is sure, or lost, and what was handed in, is not kept beside the blocks.
func TestKeptMemory(t *testing.T) {
	d := newDisk(t, 1<<8)
	before := heap()
	for i := range 1 << 8 {
		checkPut(t, d, i, strings.Repeat("x", 1<<20)[i:i+1])
	}
	if n := heap() - before; n > 1<<20 {
		t.Errorf("%d bytes for 256 blocks of one byte", n)
	}
	for name, end := range map[string]func(){
		"Sync":          func() { checkSync(t, d) },
		"Fail, none":    func() { checkFail(t, d, 0, 0) },
		"Fail, whole":   func() { checkFail(t, d, math.MaxInt, 0) },
		"Fail, a third": func() { checkFail(t, d, 1<<17, 7) },
	} {
		for i := range 3 << 17 {
			checkPut(t, d, i%(1<<8), "0123456789abcdef")
		}
		end()
		if n := heap() - before; n > 1<<20 {
			t.Errorf("%s: %d bytes are kept", name, n)
		}
	}
	runtime.KeepAlive(d)
}
