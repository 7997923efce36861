package logs

import (
	"fmt"
	"math"
	"plover/api"
	"plover/block"
	"plover/frame"
	"runtime"
	"slices"
	"strings"
	"testing"
)

// numbers gives numbers one behind the other, by a short rule.
type numbers struct{ at uint64 }

func (g *numbers) next(below int) int {
	g.at = g.at*6364136223846793005 + 1442695040888963407
	return int(g.at >> 33 % uint64(below))
}

func (g *numbers) text(bytes int) string {
	b := make([]byte, bytes)
	for i := range b {
		b[i] = byte(g.next(256))
	}
	return string(b)
}

// record is a text as records are: mostly short, sometimes of frames itself, or as long as some blocks.
func (g *numbers) record() string {
	switch g.next(8) {
	case 0:
		return ""
	case 1:
		return g.text(g.next(600))
	case 2:
		return strings.Repeat(frameOf("evil"), g.next(12))
	case 3:
		return strings.Repeat("\n", g.next(130))
	case 4:
		return g.text(100 + g.next(30))
	}
	return g.text(g.next(30))
}

func (g *numbers) records(most int) []string {
	l := make([]string, g.next(most+1))
	for i := range l {
		l[i] = g.record()
	}
	return l
}

func frameOf(s string) string {
	f, e := frame.Put(s)
	if e != api.OK {
		panic("no frame")
	}
	return f
}

func framesOf(records []string) string {
	var b strings.Builder
	for _, r := range records {
		b.WriteString(frameOf(r))
	}
	return b.String()
}

// words is a log by the document's words: its records, how many are sure, and which half it has.
type words struct {
	blocks  int
	records []string
	sure    int
	other   bool
}

// half is the first block, and how many, of the half that the log has, or of the other one.
func (w *words) half(other bool) (first, blocks int) {
	in := (w.blocks - 2) / 2
	if other {
		return 2 + in, w.blocks - 2 - in
	}
	return 2, in
}

func (w *words) room() int {
	_, n := w.half(w.other)
	return 128*n - len(framesOf(w.records))
}

func (w *words) add(r string) api.Errno {
	if len(r) > 32768 {
		return api.ErrLong
	}
	if len(r)+14 > w.room() {
		return api.ErrDisk
	}
	w.records = append(w.records, r)
	return api.OK
}

func (w *words) anew(l []string) api.Errno {
	for _, r := range l {
		if len(r) > 32768 {
			return api.ErrLong
		}
	}
	_, n := w.half(!w.other)
	if len(framesOf(l)) > 128*n {
		return api.ErrDisk
	}
	w.records, w.sure, w.other = slices.Clone(l), len(l), !w.other
	return api.OK
}

// both is a log, its disk, and what the document's words say of them.
type both struct {
	t *testing.T
	d *block.Disk
	l *Log
	w *words
}

func newBoth(t *testing.T, blocks int) *both {
	t.Helper()
	d, e := block.New(blocks)
	if e != api.OK {
		t.Fatalf("block.New(%d) answers %d", blocks, e)
	}
	b := &both{t, d, openLog(t, d), &words{blocks: blocks}}
	if d.Loose() != 0 {
		t.Fatal("Open of a new disk writes")
	}
	b.check()
	return b
}

func openLog(t *testing.T, d *block.Disk) *Log {
	t.Helper()
	l, e := Open(d)
	if e != api.OK || l == nil {
		t.Fatalf("Open = %v, %d", l, e)
	}
	return l
}

// check holds what the log tells, and how it stands on the disk, against the words.
func (b *both) check() {
	b.t.Helper()
	if got := b.l.All(); !slices.Equal(got, b.w.records) {
		b.t.Fatalf("All = %.300q, want %.300q", got, b.w.records)
	}
	if n := b.l.Room(); n != b.w.room() {
		b.t.Fatalf("Room = %d, want %d", n, b.w.room())
	}
	b.checkHalf()
}

// checkHalf sees to it that the half has the frames without room between them, in full blocks, and nothing behind them.
func (b *both) checkHalf() {
	b.t.Helper()
	want := framesOf(b.w.records)
	first, n := b.w.half(b.w.other)
	for i := range n {
		part := want[:min(128, len(want))]
		want = want[len(part):]
		if s, e := b.d.Get(first + i); s != part || e != api.OK {
			b.t.Fatalf("block %d has %q, %d; want %q", first+i, s, e, part)
		}
	}
	if want != "" {
		b.t.Fatalf("%d bytes stand nowhere", len(want))
	}
}

// blocks is all that the disk has.
func (b *both) blocks() []string {
	l := make([]string, b.d.Blocks())
	for i := range l {
		l[i], _ = b.d.Get(i)
	}
	return l
}

// refused sees to it that a call that answered an error has changed nothing.
func (b *both) refused(before []string, loose int) {
	b.t.Helper()
	if !slices.Equal(b.blocks(), before) || b.d.Loose() != loose {
		b.t.Fatal("what was refused has changed the disk")
	}
}

func (b *both) add(r string) api.Errno {
	b.t.Helper()
	before, loose := b.blocks(), b.d.Loose()
	want := b.w.add(r)
	if e := b.l.Add(r); e != want {
		b.t.Fatalf("Add of %d bytes answers %d, want %d", len(r), e, want)
	}
	if want != api.OK {
		b.refused(before, loose)
	} else if b.d.Loose() <= loose {
		b.t.Fatalf("behind Add %d writes are loose, ahead of it %d", b.d.Loose(), loose)
	}
	b.check()
	return want
}

func (b *both) flush() {
	b.t.Helper()
	if e := b.l.Flush(); e != api.OK {
		b.t.Fatalf("Flush answers %d", e)
	}
	if b.d.Loose() != 0 {
		b.t.Fatal("behind Flush some writes are loose")
	}
	b.w.sure = len(b.w.records)
	b.check()
}

func (b *both) anew(l []string) api.Errno {
	b.t.Helper()
	before, loose, given := b.blocks(), b.d.Loose(), slices.Clone(l)
	want := b.w.anew(l)
	if e := b.l.Anew(l); e != want {
		b.t.Fatalf("Anew of %d records answers %d, want %d", len(l), e, want)
	}
	if !slices.Equal(l, given) {
		b.t.Fatal("Anew has changed what was handed in")
	}
	if want != api.OK {
		b.refused(before, loose)
	} else if b.d.Loose() != 0 {
		b.t.Fatal("behind Anew some writes are loose")
	}
	b.check()
	return want
}

// fail lets the disk fail, and opens it anew: the first ones are there, at least the sure ones, and all, if all survives.
func (b *both) fail(keep, torn int) {
	b.t.Helper()
	loose := b.d.Loose()
	b.d.Fail(keep, torn)
	b.l = openLog(b.t, b.d)
	n := len(b.l.All())
	if n < b.w.sure || n > len(b.w.records) {
		b.t.Fatalf("%d records behind Fail(%d, %d): %d were sure, there were %d", n, keep, torn, b.w.sure, len(b.w.records))
	}
	if keep >= 0 && keep%(loose+1) == loose && n != len(b.w.records) {
		b.t.Fatalf("%d records of %d, though all writes survived", n, len(b.w.records))
	}
	b.w.records = slices.Clone(b.w.records[:n])
	b.w.sure = n
	b.check()
}

// Lo1: the halves of disks of each size; the first one at first, the other one behind Anew.
func TestHalves(t *testing.T) {
	for _, n := range []int{4, 5, 6, 7, 8, 9, 10, 11, 12, 13, 100, 101, 2000, 1<<14 - 1, 1 << 14} {
		b := newBoth(t, n)
		in := (n - 2) / 2
		for i := range 4 {
			want := 128 * in
			if i%2 == 1 {
				want = 128 * (n - 2 - in)
			}
			if b.l.Room() != want {
				t.Errorf("%d blocks, begun anew %d times: Room = %d, want %d", n, i, b.l.Room(), want)
			}
			b.fail(0, 0)
			b.anew(nil)
		}
	}
	if b := newBoth(t, 10); b.l.Room() != 512 { // the document's example
		t.Errorf("Room = %d, want 512", b.l.Room())
	}
}

// Lo1: what is no disk.
func TestOpenNoDisk(t *testing.T) {
	given, _ := block.New(10)
	copied := *given
	for name, d := range map[string]*block.Disk{"nil": nil, "zero": {}, "copied": &copied} {
		if l, e := Open(d); l != nil || e != api.ErrArg {
			t.Errorf("%s: Open = %v, %d", name, l, e)
		}
	}
}

// Lo1: records of each number of bytes, so that frames end at each place of a block.
func TestAddSizes(t *testing.T) {
	var g numbers
	b := newBoth(t, 1200)
	for n := range 300 {
		b.add(g.text(n))
		if n%7 == 0 {
			b.flush()
		}
	}
	b.fail(0, 0)
	if n := len(b.w.records); n < 295 {
		t.Errorf("%d records", n)
	}
}

// Lo1: the longest record, and one byte more, whether there is room or not.
func TestAddLong(t *testing.T) {
	var g numbers
	b := newBoth(t, 600)
	long := g.text(32769)
	for _, c := range []struct {
		record string
		want   api.Errno
	}{
		{long[:32768], api.OK},
		{long, api.ErrLong},
		{long + long, api.ErrLong},
		{strings.Repeat("Ω", 16385), api.ErrLong},
		{"short", api.OK},
		{long[:32768], api.ErrDisk},
		{long, api.ErrLong}, // both errors: ErrLong is named first
	} {
		if e := b.add(c.record); e != c.want {
			t.Errorf("Add of %d bytes answers %d, want %d", len(c.record), e, c.want)
		}
	}
	b.flush()
	b.fail(0, 0)
}

// Lo1: records that just fill the half, and one byte more; what is refused leaves room for what is shorter.
func TestAddFull(t *testing.T) {
	var g numbers
	for blocks := 4; blocks < 14; blocks++ {
		for ahead := range 4 {
			b := newBoth(t, blocks)
			if ahead%2 == 1 {
				b.anew(nil)
			}
			for range ahead {
				b.add("some")
			}
			for _, r := range []string{g.text(b.l.Room()), g.text(b.l.Room() - 13)} {
				if e := b.add(r); e != api.ErrDisk {
					t.Fatalf("Add of %d bytes answers %d, Room is %d", len(r), e, b.l.Room())
				}
			}
			if e := b.add(g.text(b.l.Room() - 14)); e != api.OK || b.l.Room() != 0 {
				t.Fatalf("Add answers %d, Room is %d", e, b.l.Room())
			}
			if e := b.add(""); e != api.ErrDisk {
				t.Fatalf("Add to a full half answers %d", e)
			}
			b.fail(math.MaxInt-math.MaxInt%(b.d.Loose()+1)-1, 0) // all survive
			b.flush()
			b.fail(0, 0)
			if e := b.add(""); b.l.Room() == 0 && e != api.ErrDisk {
				t.Fatalf("Add to a full half answers %d", e)
			}
		}
	}
}

// Lo1: Open makes nothing sure, and writes nothing, where nothing failed.
func TestOpenLeavesLoose(t *testing.T) {
	b := newBoth(t, 20)
	b.add("sure")
	b.flush()
	b.add("loose")
	before, loose := b.blocks(), b.d.Loose()
	b.l = openLog(t, b.d)
	b.check()
	b.refused(before, loose)
	b.d.Fail(0, 0)
	if l := openLog(t, b.d); !slices.Equal(l.All(), []string{"sure"}) {
		t.Errorf("All = %q", l.All())
	}
}

// Lo1: a log opened on loose writes goes on behind them, and its Flush makes them sure too.
func TestOpenThenFlush(t *testing.T) {
	var g numbers
	for n := range 300 {
		b := newBoth(t, 20)
		b.add("sure")
		b.flush()
		b.add(g.text(n))
		b.l = openLog(t, b.d)
		b.check()
		b.add(g.text(5))
		b.flush()
		b.fail(0, 0)
	}
}

// Lo2: records that just fill the other half, and one byte more, one by one, and many.
func TestAnewFull(t *testing.T) {
	var g numbers
	for blocks := 4; blocks < 14; blocks++ {
		for turn := range 3 {
			b := newBoth(t, blocks)
			for range turn {
				b.anew([]string{"old"})
			}
			_, n := b.w.half(!b.w.other)
			full := []string{"", "some", g.text(128*n - 14 - 14 - 4 - 14)}
			if n == 1 {
				full = []string{"", g.text(128 - 14 - 14)}
			}
			for _, l := range [][]string{append(slices.Clone(full), ""), {g.text(128*n - 13)}, {g.text(128 * n)}, slices.Repeat([]string{""}, 10*n)} {
				if e := b.anew(l); e != api.ErrDisk {
					t.Fatalf("Anew of %d bytes for %d blocks answers %d", len(framesOf(l)), n, e)
				}
			}
			b.fail(0, 0)
			if e := b.anew(full); e != api.OK || b.l.Room() != 0 {
				t.Fatalf("Anew answers %d, Room is %d", e, b.l.Room())
			}
			b.fail(0, 0)
		}
	}
}

// Lo2: a record that is too long, at each place, also where there is no room; the longest one.
func TestAnewLong(t *testing.T) {
	var g numbers
	long := g.text(32769)
	for _, blocks := range []int{4, 600, 1100} {
		b := newBoth(t, blocks)
		b.add("old")
		for _, l := range [][]string{
			{long}, {"a", long}, {long, "a"}, {"a", long, "b"}, {long[1:], long}, {long[1:], long[1:], long[1:], long}, {long, long},
		} {
			if e := b.anew(l); e != api.ErrLong {
				t.Errorf("Anew of %d records answers %d", len(l), e)
			}
		}
		b.anew([]string{long[1:]})
		b.anew([]string{long[1:], long[:32768]})
		b.fail(0, 0)
	}
}

// Lo2: what was there is there no more, however long it was; all that is told anew is sure at once.
func TestAnew(t *testing.T) {
	b := newBoth(t, 30)
	b.add(strings.Repeat("long ", 300))
	b.add("two")
	b.anew([]string{"x", "y"})
	b.fail(0, 0)
	b.add("z")
	b.anew([]string{"w"}) // in the half of the long one
	b.fail(0, 0)
	b.anew(nil)
	b.fail(0, 0)
	b.anew([]string{})
	b.fail(0, 0)
	b.anew([]string{"", ""})
	b.add("lost")
	b.fail(0, 0)
	if !slices.Equal(b.l.All(), []string{"", ""}) {
		t.Errorf("All = %q", b.l.All())
	}
}

// Lo2: a log may be begun anew of its own records, and of those of a list that is changed later.
func TestAnewOfAll(t *testing.T) {
	b := newBoth(t, 30)
	b.add("one")
	b.add("two")
	b.anew(b.l.All())
	b.anew(b.l.All()[1:])
	l := []string{"a", "b"}
	b.anew(l)
	l[0] = "x"
	b.check()
	b.fail(0, 0)
}

// scripts are rows of calls that leave something loose.
func scripts() [][]string {
	var g numbers
	evil := strings.Repeat(frameOf("evil"), 20)
	return [][]string{
		{},
		{"a"},
		{"a", "flush", "b"},
		{"a", "flush", "b", "c", ""},
		{g.text(200), "flush", g.text(200), g.text(20)},
		{g.text(114), "flush", g.text(114), "x"},            // frames of just a block
		{g.text(113), "flush", "x", g.text(242), g.text(1)}, // frames that end by a block's end
		{"anew", "a", "b"},
		{"a", "b", "anew", "c", "flush", g.text(300)},
		{"anew", "anew", g.text(50), g.text(50), g.text(50), g.text(50)},
		{"a", "flush", evil, evil},
		{"a", "anew", g.text(87), evil},
		{strings.Repeat("\n", 150), strings.Repeat("\n", 10), "flush", strings.Repeat("\n", 150)},
		{"a", "b", "open", "c", "d"},
		{g.text(100), "open", g.text(100), "flush", "open", g.text(100), "open", g.text(9)},
	}
}

// play does a row of calls.
func (b *both) play(script []string) {
	b.t.Helper()
	for _, s := range script {
		switch s {
		case "flush":
			b.flush()
		case "anew":
			b.anew([]string{"began", "anew"})
		case "open":
			b.l = openLog(b.t, b.d)
			b.check()
		default:
			b.add(s)
		}
	}
}

// Lo3: whatever survives, and however one is torn; and what is added and flushed behind that.
func TestEachFailure(t *testing.T) {
	for _, script := range scripts() {
		first := newBoth(t, 21)
		first.play(script)
		for keep := range first.d.Loose() + 1 {
			for torn := range 129 {
				b := newBoth(t, 21)
				b.play(script)
				b.fail(keep, torn)
				b.add("behind")
				b.fail(torn%3, keep+torn)
				b.add(frameOf("more"))
				b.flush()
				b.add("lost")
				b.fail(0, torn)
				if torn%16 == 0 {
					b.anew([]string{"anew"})
					b.fail(keep, torn)
				}
			}
		}
	}
}

// Lo3: frames within a record of which a part came to the disk are no records behind a shorter one that is added.
func TestTornRecordOfFrames(t *testing.T) {
	for size := range 400 {
		for behind := range 2 { // how many of the shorter one's writes survive at first
			b := newBoth(t, 40)
			b.add("sure")
			b.flush()
			// The shorter one's frame ends where the first frame of the lost one's text begins.
			b.add("x" + strings.Repeat("x", size) + strings.Repeat(frameOf("evil"), 30))
			b.fail(b.d.Loose()-1, 0)
			b.add(strings.Repeat("y", size))
			b.fail(behind, 1000)
			if len(b.l.All()) == 1 {
				b.add(strings.Repeat("z", size))
			}
			b.flush()
			b.fail(0, 0)
			if len(b.l.All()) != 2 {
				t.Fatalf("All = %.300q", b.l.All())
			}
		}
	}
}

// Lo3: the same where the shorter one is written, but not all that was done since the failure survives a second one.
func TestTwoFailures(t *testing.T) {
	var g numbers
	for range 20000 {
		b := newBoth(t, 12)
		b.add(g.text(g.next(60)))
		b.flush()
		b.add(strings.Repeat(frameOf(""), 20))
		b.fail(g.next(4), g.next(129))
		for range g.next(3) {
			b.add(g.text(g.next(60)))
		}
		b.fail(g.next(4), g.next(129))
		b.add(g.text(g.next(20)))
		b.fail(g.next(3), g.next(129))
	}
}

// Lo3: the power fails, and the log that was opened ahead goes on: what it then flushes is sure.
func TestGoesOn(t *testing.T) {
	var g numbers
	for range 20000 {
		b := newBoth(t, 14)
		if g.next(2) == 0 {
			b.anew([]string{g.text(g.next(100))})
		}
		for range 1 + g.next(3) {
			for range g.next(3) {
				if r := g.text(g.next(150)); b.l.Add(r) == api.OK {
					b.w.records = append(b.w.records, r)
				}
			}
			b.d.Fail(g.next(5), g.next(129))
		}
		if !slices.Equal(b.l.All(), b.w.records) || b.l.Room() != b.w.room() {
			t.Fatalf("All = %q, want %q", b.l.All(), b.w.records)
		}
		if g.next(2) == 0 {
			b.flush()
			b.fail(0, 0)
			continue
		}
		// Without Flush some may be missing, but only last ones.
		b.l = openLog(t, b.d)
		n := len(b.l.All())
		if n < b.w.sure || n > len(b.w.records) {
			t.Fatalf("%d records, %d were sure, there were %d", n, b.w.sure, len(b.w.records))
		}
		b.w.records = b.w.records[:n]
		b.check()
	}
}

// Lo3: a log that was opened on loose writes goes on behind a failure that took them: what it flushes is sure.
func TestGoesOnOpened(t *testing.T) {
	var g numbers
	for keep := range 6 {
		for n := range 400 {
			b := newBoth(t, 20)
			b.add(g.text(n))
			b.add(g.text(100))
			b.l = openLog(t, b.d)
			b.d.Fail(keep, n)
			if n%2 == 0 {
				b.l.Add("more")
				b.w.add("more")
			}
			b.flush()
			b.fail(0, 0)
		}
	}
}

// Lo3: what Open took away behind a failure does not come back by a second one, to be read behind what is added then.
func TestTakenAwayForGood(t *testing.T) {
	for torn := range 129 {
		b := newBoth(t, 20)
		b.add("sure") // and behind it a frame that ends by a block's end, where a frame of the lost one's text begins
		b.flush()
		b.add(strings.Repeat("x", 128-18-13) + strings.Repeat(frameOf("evil"), 30))
		b.fail(b.d.Loose()-1, 0)
		b.d.Fail(0, torn)
		b.add(strings.Repeat("y", 128-18-14))
		b.flush()
		b.fail(0, 0)
	}
}

// Lo4: the power fails while a log is begun anew: it has what it had, or what it was to have, all of it.
func TestTornHead(t *testing.T) {
	for _, turns := range []int{0, 1, 2, 9, 10, 99, 100} {
		for torn := range 40 {
			b := newBoth(t, 12)
			for i := range turns {
				b.anew([]string{fmt.Sprint("turn ", i)})
			}
			before, old := b.blocks(), slices.Clone(b.w.records)
			b.anew([]string{"the next"})
			after := b.blocks()
			for i := range 2 {
				if after[i] != before[i] {
					b.d.Put(i, before[i])
					b.d.Sync()
					b.d.Put(i, after[i])
					b.d.Fail(0, torn)
				}
			}
			l := openLog(t, b.d).All()
			if !slices.Equal(l, old) && !slices.Equal(l, b.w.records) {
				t.Fatalf("All = %q, want %q or %q", l, old, b.w.records)
			}
		}
	}
}

// Lo3: a log that goes on, of which later writes survive, and those ahead of them were lost in an earlier failure.
func TestLostAhead(t *testing.T) {
	for _, size := range []int{90, 100, 110, 114, 120, 200, 300} {
		b := newBoth(t, 20)
		b.add(strings.Repeat("s", size))
		b.flush()
		lost, late := strings.Repeat("l", size)+frameOf("evil"), "late"
		b.l.Add(lost)
		b.d.Fail(0, 7)
		b.l.Add(late)
		b.w.records = append(b.w.records, lost, late)
		b.d.Sync()
		b.l = openLog(t, b.d)
		n := len(b.l.All())
		b.w.records = b.w.records[:max(n, 1)]
		b.check()
		b.add("again")
		b.flush()
		b.fail(0, 0)
	}
}

// wild is a number for Fail: small, below 0, or one of the outermost.
func (g *numbers) wild() int {
	switch g.next(8) {
	case 0:
		return -1 - g.next(1000)
	case 1:
		return math.MaxInt - g.next(200)
	case 2:
		return math.MinInt + g.next(200)
	}
	return g.next(200)
}

// Lo1, Lo2, Lo3, Lo4: long rows of calls, by a short rule, held against the document's words behind each call.
func TestAsByWords(t *testing.T) {
	var g numbers
	for i := range 300 {
		b := newBoth(t, 4+g.next(8)*(1+i%4))
		for range 150 {
			switch g.next(12) {
			case 0, 1:
				b.flush()
			case 2:
				b.anew(g.records(6))
			case 3:
				b.fail(g.wild(), g.wild())
			case 4:
				b.fail(b.d.Loose(), 0)
			case 5:
				b.l = openLog(t, b.d)
				b.check()
			default:
				b.add(g.record())
			}
		}
	}
}

// Lo4: begun anew some thousand times, so that its count has more digits each time, with failures between.
func TestBegunAnewOften(t *testing.T) {
	b := newBoth(t, 9)
	for i := range 12000 {
		b.anew([]string{fmt.Sprint("turn ", i)})
		b.add("loose")
		switch i % 5 {
		case 0:
			b.fail(i%3, i%129)
		case 1:
			b.flush()
			b.add("lost")
			b.fail(0, i%129)
		case 2:
			b.fail(1, 0)
		}
	}
}

// Lo4: what is written to one half does nothing to the other one, when both are full.
func TestHalvesApart(t *testing.T) {
	var g numbers
	b := newBoth(t, 11)
	for range 200 {
		b.anew(nil)
		for b.l.Room() >= 14 {
			b.add(g.text(g.next(b.l.Room() - 13)))
			if g.next(3) == 0 {
				b.flush()
			}
		}
		b.flush()
		b.fail(0, 0)
	}
}

// Lo1: a great log, of many records.
func TestManyRecords(t *testing.T) {
	d, _ := block.New(1 << 14)
	l := openLog(t, d)
	var want []string
	for i := 0; l.Room() >= 14+7; i++ {
		r := fmt.Sprintf("%07d", i)
		if e := l.Add(r); e != api.OK {
			t.Fatalf("Add answers %d", e)
		}
		want = append(want, r)
		if i%3 == 0 {
			l.Flush()
		}
	}
	l.Flush()
	if len(want) != 8191*128/21 || !slices.Equal(l.All(), want) {
		t.Fatalf("%d records, want %d", len(l.All()), len(want))
	}
	if e := l.Anew(want); e != api.OK {
		t.Fatalf("Anew answers %d", e)
	}
	d.Fail(0, 0)
	if l = openLog(t, d); !slices.Equal(l.All(), want) {
		t.Fatalf("%d records, want %d", len(l.All()), len(want))
	}
}

// Lo1: as many records as there may be, and none of them flushed ahead of the last one.
func TestManyLoose(t *testing.T) {
	d, _ := block.New(1 << 14)
	l := openLog(t, d)
	for l.Room() >= 14 {
		if e := l.Add(""); e != api.OK {
			t.Fatalf("Add answers %d", e)
		}
	}
	l.Flush()
	d.Fail(0, 0)
	if l = openLog(t, d); len(l.All()) != 8191*128/14 {
		t.Fatalf("%d records", len(l.All()))
	}
}

// Lo1, Lo2: of what is sure, also behind Open, there are the disk's bytes and the records', and no third ones.
func TestKeptOnce(t *testing.T) {
	const half = 8191 * 128
	record := strings.Repeat("x", 32768)
	l := slices.Repeat([]string{record}, half/(32768+14))
	d, _ := block.New(1 << 14)
	before := heap()
	log := openLog(t, d)
	look := func(name string) {
		t.Helper()
		if n := heap() - before; n > half*9/4 {
			t.Errorf("%s: %d bytes are kept of %d", name, n, half)
		}
	}
	for _, r := range l {
		log.Add(r)
	}
	log.Flush()
	look("Flush")
	runtime.KeepAlive(log)
	log = openLog(t, d)
	look("Open")
	d.Fail(0, 0)
	runtime.KeepAlive(log)
	d, _ = block.New(1 << 14)
	log = openLog(t, d)
	log.Anew(l)
	look("Anew")
	runtime.KeepAlive(log)
	runtime.KeepAlive(d)
}

// R1: a log that Open did not give, and none at all.
func TestNotGiven(t *testing.T) {
	b := newBoth(t, 10)
	b.add("a")
	copied := *b.l
	for name, l := range map[string]*Log{"nil": nil, "zero": {}, "copied": &copied} {
		for _, r := range []string{"", "x", strings.Repeat("x", 40000)} {
			if e := l.Add(r); e != api.ErrArg {
				t.Errorf("%s: Add answers %d", name, e)
			}
			if e := l.Anew([]string{r}); e != api.ErrArg {
				t.Errorf("%s: Anew answers %d", name, e)
			}
		}
		if e := l.Anew(nil); e != api.ErrArg {
			t.Errorf("%s: Anew answers %d", name, e)
		}
		if e := l.Flush(); e != api.ErrArg {
			t.Errorf("%s: Flush answers %d", name, e)
		}
		if len(l.All()) != 0 || l.Room() != 0 {
			t.Errorf("%s: All = %q, Room = %d", name, l.All(), l.Room())
		}
	}
	b.check()
	b.add("b")
	b.flush()
}

// R1: a log whose disk is no disk any more refuses, and is as it was.
func TestDiskGone(t *testing.T) {
	b := newBoth(t, 10)
	b.add("a")
	*b.d = block.Disk{}
	for _, e := range []api.Errno{b.l.Add("b"), b.l.Add(""), b.l.Flush(), b.l.Anew(nil), b.l.Anew([]string{"c"})} {
		if e == api.OK {
			t.Error("a call is not refused")
		}
	}
	if !slices.Equal(b.l.All(), []string{"a"}) || b.l.Room() != 512-15 {
		t.Errorf("All = %q, Room = %d", b.l.All(), b.l.Room())
	}
}

// R1: disks that others wrote on: each is opened, what is told is on it, and it can be gone on with.
func TestOtherDisks(t *testing.T) {
	var g numbers
	number := frameOf("i3e")
	heads := []string{"", "x", number, frameOf("i-1e"), frameOf("i-8e"), frameOf("i9223372036854775807e"), frameOf("i-9223372036854775808e"), frameOf("1:x"), frameOf("le"), frameOf(""), frameOf("i3e "), number[:9], number + "x"}
	for range 3000 {
		d, _ := block.New(4 + g.next(8))
		d.Put(0, heads[g.next(len(heads))])
		d.Put(1, heads[g.next(len(heads))])
		for i := 2; i < d.Blocks(); i++ {
			s := framesOf(g.records(3)) + g.text(g.next(60))
			d.Put(i, s[:min(len(s), 128)])
		}
		l := openLog(t, d)
		room, all := l.Room(), l.All()
		if room < 0 {
			t.Fatalf("Room = %d", room)
		}
		if e := l.Add("x"); (e == api.OK) != (room >= 15) {
			t.Fatalf("Add answers %d, Room was %d", e, room)
		} else if e == api.OK {
			all = append(all, "x")
		}
		l.Flush()
		d.Fail(0, 0)
		if l = openLog(t, d); !slices.Equal(l.All(), all) {
			t.Fatalf("All = %q, want %q", l.All(), all)
		}
		l.Anew([]string{"y"})
	}
}

// R3, R4: what was answered is nobody else's; two disks' logs do not know of one another.
func TestApart(t *testing.T) {
	b, other := newBoth(t, 10), newBoth(t, 10)
	b.add("a")
	b.add("b")
	other.add("z")
	l := b.l.All()
	l[0] = "x"
	_ = append(l[:1], "y")
	b.check()
	l = append(b.l.All(), "more")
	b.add("c")
	if l[2] != "more" {
		t.Error("an answer has changed")
	}
	other.anew([]string{"w"})
	b.flush()
	b.fail(0, 0)
	other.fail(0, 0)
}

// heap is how many bytes are in use.
func heap() int {
	runtime.GC()
	var m runtime.MemStats
	runtime.ReadMemStats(&m)
	return int(m.HeapAlloc)
}

// Lo1, Lo2: no more is kept than the records and the disk: nothing of what they were cut from, of what was flushed, or told ahead of Anew.
func TestKeptMemory(t *testing.T) {
	d, _ := block.New(1 << 10)
	l := openLog(t, d)
	for name, do := range map[string]func(i int){
		"Add":   func(i int) { l.Add(strings.Repeat("x", 1<<20)[i : i+1]) },
		"Anew":  func(i int) { l.Anew([]string{strings.Repeat("x", 1<<20)[i : i+1]}) },
		"Great": func(i int) { l.Anew([]string{strings.Repeat("x", 32768)}); l.Anew(nil) },
		"Flush": func(i int) {
			if l.Add(strings.Repeat("x", 1<<9)) != api.OK {
				l.Anew(nil)
			}
			l.Flush()
		},
	} {
		before := heap()
		for i := range 1000 {
			do(i)
		}
		l.Anew(nil)
		if n := heap() - before; n > 1<<18 {
			t.Errorf("%s: %d bytes are kept", name, n)
		}
		for i := range 1000 {
			do(i)
		}
		l.Flush()
		if n := heap() - before; n > 1<<18+1<<16 {
			t.Errorf("%s: %d bytes are kept for %d records", name, n, len(l.All()))
		}
		l.Anew(nil)
	}
	runtime.KeepAlive(d)
}
