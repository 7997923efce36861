package dedup

import (
	"fmt"
	"math"
	"plover/api"
	"regexp"
	"runtime"
	"strconv"
	"strings"
	"testing"
)

// numbers gives numbers one behind the other, by a short rule.
type numbers struct{ at uint64 }

func (g *numbers) next(below int) int {
	g.at = g.at*6364136223846793005 + 1442695040888963407
	return int(g.at >> 33 % uint64(below))
}

// Numbers at the limits, and beyond them.
var (
	clients = []int{math.MinInt, -1 << 32, -8, -1, 0, 1, 2, 3, 4, 5, 6, 7, 8, 9, 16, 255, 1 << 32, 1<<32 + 1, math.MaxInt}
	seqs    = []int{math.MinInt, math.MinInt + 1, -1 << 40, -1, 0, 1, 2, 3, 1 << 31, 1<<32 - 1, 1 << 32, 1<<32 + 1, 1<<40 - 1, 1 << 40, 1<<40 + 1, 1 << 41, 1 << 62, math.MaxInt}
	errs    = []api.Errno{math.MinInt, -256, -1, 0, 1, 2, 127, 128, 254, 255, 256, 257, 1 << 32, 1<<32 + 1, math.MaxInt}
)

// did is what a client did, and what it was answered.
type did struct {
	seq, err int
	was      bool
}

// words is a table by the document's words: all that each client did, one behind the other.
type words [8][]did

func (w *words) last(client int) did {
	if client < 0 || client > 7 || len(w[client]) == 0 {
		return did{}
	}
	return w[client][len(w[client])-1]
}

func mayBe(client, seq int) bool {
	return client >= 0 && client <= 7 && seq >= 1 && seq <= 1099511627776
}

func (w *words) find(client, seq int) (api.Reply, api.Errno) {
	if !mayBe(client, seq) {
		return api.Reply{}, 1
	}
	for _, x := range w[client] {
		if x.seq > seq {
			return api.Reply{}, 90
		}
	}
	if x := w.last(client); x.seq == seq {
		return api.Reply{Err: api.Errno(x.err), Was: x.was}, 0
	}
	return api.Reply{}, 3
}

func (w *words) put(client, seq int, r api.Reply) api.Errno {
	if !mayBe(client, seq) || r.Err < 0 || r.Err > 255 {
		return 1
	}
	for _, x := range w[client] {
		if x.seq >= seq {
			return 90
		}
	}
	w[client] = append(w[client], did{seq, int(r.Err), r.Was})
	return 0
}

func (w *words) text() string {
	s := "l"
	for client := range w {
		x := w.last(client)
		if x.seq == 0 {
			continue
		}
		was := map[bool]int{true: 1}[x.was]
		s += fmt.Sprintf("li%dei%dei%dei%dee", client, x.seq, x.err, was)
	}
	return s + "e"
}

// one is how a client's list looks; whole is how a table's text looks.
var (
	one   = regexp.MustCompile(`li([0-7])ei([1-9][0-9]{0,12})ei(0|[1-9][0-9]{0,2})ei([01])ee`)
	whole = regexp.MustCompile(`^l(?:` + one.String() + `)*e$`)
)

// isText tells whether a text is that of some table, by its letters alone.
func isText(s string) bool {
	if strings.Contains(s, "\n") || !whole.MatchString(s) {
		return false
	}
	before := -1
	for _, m := range one.FindAllStringSubmatch(s, -1) {
		client, _ := strconv.Atoi(m[1])
		seq, _ := strconv.Atoi(m[2])
		err, _ := strconv.Atoi(m[3])
		if client <= before || seq > 1<<40 || err > 255 {
			return false
		}
		before = client
	}
	return true
}

// both is a table, and what it is by the document's words.
type both struct {
	t *testing.T
	x *Table
	w *words
}

func newBoth(t *testing.T) *both {
	t.Helper()
	x := New()
	if x == nil {
		t.Fatal("New gives nothing")
	}
	b := &both{t, x, &words{}}
	b.check()
	return b
}

func same(a, b api.Reply) bool {
	return a.Err == b.Err && a.Was == b.Was && len(a.Hits) == 0 && len(b.Hits) == 0
}

func (b *both) find(client, seq int) {
	b.t.Helper()
	r, e := b.x.Find(client, seq)
	want, fault := b.w.find(client, seq)
	if !same(r, want) || e != fault {
		b.t.Fatalf("Find(%d, %d) = %v, %d; want %v, %d", client, seq, r, e, want, fault)
	}
}

func (b *both) put(client, seq int, r api.Reply) api.Errno {
	b.t.Helper()
	want := b.w.put(client, seq, r)
	if e := b.x.Put(client, seq, r); e != want {
		b.t.Fatalf("Put(%d, %d, %v) = %d, want %d", client, seq, r, e, want)
	}
	return want
}

// check holds all that a table tells against the words.
func (b *both) check() {
	b.t.Helper()
	for client := -1; client <= 8; client++ {
		last := b.w.last(client).seq
		if n := b.x.Last(client); n != last {
			b.t.Fatalf("Last(%d) = %d, want %d", client, n, last)
		}
		for seq := last - 1; seq <= last+1; seq++ {
			b.find(client, seq)
		}
	}
	if s := b.x.Text(); s != b.w.text() {
		b.t.Fatalf("Text = %q, want %q", s, b.w.text())
	}
}

// again reads a table's text, and goes on with the table that was read.
func (b *both) again() {
	b.t.Helper()
	b.x = read(b.t, b.x.Text())
	b.check()
}

func read(t *testing.T, s string) *Table {
	t.Helper()
	x, e := Of(s)
	if e != api.OK || x == nil {
		t.Fatalf("Of(%q) = %v, %d", s, x, e)
	}
	if got := x.Text(); got != s {
		t.Fatalf("Of(%q) has the text %q", s, got)
	}
	return x
}

func checkOf(t *testing.T, s string) {
	t.Helper()
	if isText(s) {
		read(t, s)
		return
	}
	if x, e := Of(s); x != nil || e != api.ErrValue {
		t.Fatalf("Of(%.300q) = %v, %d", s, x, e)
	}
}

// De1: the document's example.
func TestExample(t *testing.T) {
	x := New()
	if e := x.Put(1, 5, api.Reply{Err: api.ErrDim, Was: true}); e != api.OK {
		t.Fatal(e)
	}
	if r, e := x.Find(1, 5); e != api.OK || r.Err != api.ErrDim || !r.Was {
		t.Error(r, e)
	}
	if r, e := x.Find(1, 4); e != api.ErrOld || !same(r, api.Reply{}) {
		t.Error(r, e)
	}
	if r, e := x.Find(1, 6); e != api.ErrNone || !same(r, api.Reply{}) {
		t.Error(r, e)
	}
	if n := x.Last(1); n != 5 {
		t.Error(n)
	}
}

// De2: texts that are told by hand.
func TestTexts(t *testing.T) {
	x := New()
	for _, c := range []struct {
		client, seq int
		r           api.Reply
		text        string
	}{
		{-1, 0, api.Reply{}, "le"},
		{7, 1 << 40, api.Reply{Err: 255, Was: true}, "lli7ei1099511627776ei255ei1eee"},
		{0, 1, api.Reply{}, "lli0ei1ei0ei0eeli7ei1099511627776ei255ei1eee"},
		{0, 12, api.Reply{Err: 51}, "lli0ei12ei51ei0eeli7ei1099511627776ei255ei1eee"},
		{3, 9, api.Reply{Was: true}, "lli0ei12ei51ei0eeli3ei9ei0ei1eeli7ei1099511627776ei255ei1eee"},
		{3, 8, api.Reply{}, "lli0ei12ei51ei0eeli3ei9ei0ei1eeli7ei1099511627776ei255ei1eee"},
	} {
		x.Put(c.client, c.seq, c.r)
		if s := x.Text(); s != c.text {
			t.Errorf("behind %v: %q", c, s)
		}
		read(t, c.text)
	}
}

// De1: numbers at each limit, and beyond it, of a table without anything, with something, and with the last that may be.
func TestLimits(t *testing.T) {
	for _, ahead := range []int{0, 1, 2, 1 << 32, 1<<40 - 1, 1 << 40} {
		for _, client := range clients {
			for _, seq := range seqs {
				b := newBoth(t)
				for c := range 8 {
					b.put(c, ahead, api.Reply{Err: api.Errno(c), Was: c%2 == 0})
				}
				b.find(client, seq)
				for _, e := range errs {
					if b.put(client, seq, api.Reply{Err: e, Was: true}) == api.OK {
						break
					}
				}
				b.find(client, seq)
				b.check()
			}
			if n := New().Last(client); n != 0 {
				t.Errorf("Last(%d) of nothing = %d", client, n)
			}
		}
	}
}

// De1: answers at each limit, and beyond it.
func TestAnswers(t *testing.T) {
	for _, e := range errs {
		for _, was := range []bool{false, true} {
			b := newBoth(t)
			b.put(2, 7, api.Reply{Err: e, Was: was})
			b.check()
			b.put(2, 9, api.Reply{Err: 3})
			b.put(2, 10, api.Reply{Err: e, Was: was})
			b.check()
			b.again()
		}
	}
	for e := range api.Errno(300) {
		b := newBoth(t)
		b.put(int(e)%8, 1, api.Reply{Err: e})
		b.check()
		b.again()
	}
}

// De1: where an argument may not be, that is told ahead of what is behind; what is refused leaves all as it was.
func TestErrorsThatMeet(t *testing.T) {
	b := newBoth(t)
	b.put(1, 5, api.Reply{Err: 9, Was: true})
	for _, c := range []struct {
		client, seq int
		err         api.Errno
		want        api.Errno
	}{
		{1, 5, 256, api.ErrArg}, {1, 4, -1, api.ErrArg}, {1, 0, 0, api.ErrArg}, {1, -5, 0, api.ErrArg}, {8, 5, 0, api.ErrArg}, {-1, 4, 0, api.ErrArg},
		{1, 1<<40 + 1, 0, api.ErrArg}, {1, 6, 256, api.ErrArg}, {1, 5, 9, api.ErrOld}, {1, 5, 0, api.ErrOld}, {1, 4, 255, api.ErrOld}, {1, 1, 0, api.ErrOld},
	} {
		if e := b.x.Put(c.client, c.seq, api.Reply{Err: c.err}); e != c.want {
			t.Errorf("Put(%d, %d, %d) = %d, want %d", c.client, c.seq, c.err, e, c.want)
		}
		b.check()
	}
}

// De1, De3: what was found is neither kept nor told, and what is told anew is new memory.
func TestHits(t *testing.T) {
	hits := []api.Hit{{Id: 1, Dist: 2}}
	b := newBoth(t)
	b.put(4, 1, api.Reply{Hits: hits, Was: true})
	b.check()
	if r, e := b.x.Find(4, 1); r.Hits != nil || !r.Was || e != api.OK {
		t.Error(r, e)
	}
	if hits[0] != (api.Hit{Id: 1, Dist: 2}) {
		t.Error("what was handed in has changed")
	}
	b.again()
}

// De1, De2, De3: all short rows of calls, with two clients and few numbers.
func TestShortRows(t *testing.T) {
	const deep = 4
	do := func(calls []int) {
		b := newBoth(t)
		for _, n := range calls {
			client, seq, what := n%2*7, n/2%3+1, n/6
			b.put(client, seq, api.Reply{Err: api.Errno(what * 41), Was: what == 1})
		}
		b.check()
		b.again()
		for client := range 8 {
			for seq := range 5 {
				b.find(client, seq)
			}
		}
	}
	var from func(calls []int)
	from = func(calls []int) {
		do(calls)
		if len(calls) == deep {
			return
		}
		for n := range 12 {
			from(append(calls[:len(calls):len(calls)], n))
		}
	}
	from(nil)
}

// De1, De2, De3: long rows of calls of all kinds; each thing is noted once at the most.
func TestLongRows(t *testing.T) {
	var g numbers
	for round := range 60 {
		b := newBoth(t)
		most := []int{3, 20, 1000, 1 << 20, 1 << 30}[round%5]
		noted := map[[2]int]int{}
		for range 400 {
			client, seq := g.next(10)-1, g.next(most)
			if g.next(3) == 0 {
				seq = b.w.last(client).seq + g.next(4) - 1
			}
			if g.next(50) == 0 {
				seq = 1<<40 + 1 - g.next(3)
			}
			if b.put(client, seq, api.Reply{Err: api.Errno(g.next(270) - 7), Was: g.next(2) == 0}) == api.OK {
				noted[[2]int{client, seq}]++
			}
			b.find(client, seq)
			b.find(g.next(8), g.next(most))
			if g.next(20) == 0 {
				b.again()
			}
			b.check()
		}
		for id, n := range noted {
			if n != 1 {
				t.Fatalf("%v is noted %d times", id, n)
			}
		}
	}
}

// De3: what a client does changes nothing of others.
func TestClientsApart(t *testing.T) {
	for client := range 8 {
		b := newBoth(t)
		for seq := 1; seq <= 5; seq++ {
			b.put(client, seq*seq, api.Reply{Err: api.Errno(seq)})
			for other := range 8 {
				if n := b.x.Last(other); other != client && n != 0 {
					t.Fatalf("%d did something, and %d did %d", client, other, n)
				}
			}
		}
		b.check()
	}
}

// De1, De2: tables do not know of one another, nor of those that were read from their texts.
func TestTablesApart(t *testing.T) {
	a, b := newBoth(t), newBoth(t)
	a.put(1, 5, api.Reply{Err: 7})
	b.put(1, 3, api.Reply{Was: true})
	a.check()
	b.check()
	c := &both{t, read(t, a.x.Text()), &words{1: {{5, 7, false}}}}
	c.check()
	c.put(1, 6, api.Reply{Err: 8})
	c.put(0, 1, api.Reply{})
	a.check()
	a.put(2, 1, api.Reply{})
	c.check()
	d := &both{t, read(t, "lli1ei5ei7ei0eee"), &words{1: {{5, 7, false}}}}
	d.check()
}

// full is a table of which all clients did something.
func full(g *numbers) *Table {
	x := New()
	for client := range 8 {
		x.Put(client, 1+g.next(1<<30)<<10, api.Reply{Err: api.Errno(g.next(256)), Was: g.next(2) == 0})
	}
	return x
}

// De2: texts that are none of a table, each with its fault.
func TestNoText(t *testing.T) {
	for _, s := range []string{
		"", "l", "e", "lee", "le ", " le", "le\n", "lle", "llee", "i0e", "0:", "2:le", "li0ee", "l0:e", "d", "x",
		"li0ei1ei0ei0ee",
		"lli0ei1ei0ei0ee", "lli0ei1ei0ei0eeee", "lli0ei1ei0ei0eee\x00", "lli0ei1ei0ei0eeex", "lli0ei1ei0ei0eeele",
		"lli0ei1ei0eee", "lli0ei1ei0ei0ei0eee", "lli0ei1eee", "lli0eee", "llei0ee",
		"lli8ei1ei0ei0eee", "lli-1ei1ei0ei0eee", "lli9223372036854775807ei1ei0ei0eee", "lli4294967296ei1ei0ei0eee",
		"lli0ei0ei0ei0eee", "lli0ei-1ei0ei0eee", "lli0ei1099511627777ei0ei0eee", "lli0ei9223372036854775807ei0ei0eee", "lli0ei-9223372036854775808ei0ei0eee",
		"lli0ei9223372036854775808ei0ei0eee", "lli0ei01ei0ei0eee", "lli00ei1ei0ei0eee", "lli0ei+1ei0ei0eee", "lli-0ei1ei0ei0eee",
		"lli0ei1ei256ei0eee", "lli0ei1ei-1ei0eee", "lli0ei1ei4294967296ei0eee", "lli0ei1ei9223372036854775807ei0eee",
		"lli0ei1ei0ei2eee", "lli0ei1ei0ei-1eee", "lli0ei1ei0ei256eee", "lli0ei1ei0ei4294967297eee",
		"lli0ei1ei0ei0eeli0ei1ei0ei0eee", "lli0ei1ei0ei0eeli0ei2ei0ei0eee", "lli1ei1ei0ei0eeli0ei1ei0ei0eee", "lli0ei1ei0ei0eeli2ei1ei0ei0eeli1ei1ei0ei0eee",
		"lli0ei1ei0ei0eei0ee", "lli0ei1ei0ei0ee0:e", "lli0ei1ei0ei0eelee", "li0eli0ei1ei0ei0eee", "l0:li0ei1ei0ei0eee",
		"ll1:0i1ei0ei0eee", "lli0e1:1i0ei0eee", "lli0ei1e1:0i0eee", "lli0ei1ei0e1:0ee", "lli0ei1ei0eleee", "llli0eei1ei0ei0eee", "llleleleleee",
		"lllli0ei1ei0ei0eeee", "4:li0e", "lllllllleeeeeeee", "llllllllleeeeeeeee",
	} {
		if isText(s) {
			t.Errorf("%q is one", s)
		}
		checkOf(t, s)
	}
}

// De2: all short texts of few parts.
func TestShortTexts(t *testing.T) {
	parts := []string{"l", "e", "i0e", "i1e", "1:l"}
	var of func(s string, left int)
	of = func(s string, left int) {
		checkOf(t, s)
		if left > 0 {
			for _, p := range parts {
				of(s+p, left-1)
			}
		}
	}
	of("", 7)
	of("lli1e", 5)
	of("lli0ei1ei1ei0eel", 5)
	of("lli1ei1ei1ei0eel", 5)
	of("lli0ei1ei0ei1eeli1ei1ei1ei1eel", 4)
}

// De2: texts of tables with a byte, or a part, changed, taken out, put in, or turned about.
func TestChangedTexts(t *testing.T) {
	var g numbers
	for range 12 {
		x := full(&g)
		s := x.Text()
		for range g.next(8) { // fewer clients than all
			s = one.ReplaceAllStringFunc(s, func(r string) string { return r[:len(r)*min(1, g.next(8))] })
		}
		checkOf(t, s)
		for i := range len(s) + 1 {
			checkOf(t, s[:i])
			checkOf(t, s[i:])
			for _, c := range "ile:-+0123456789 \n\x00\xff" {
				checkOf(t, s[:i]+string(c)+s[i:])
				if i < len(s) {
					checkOf(t, s[:i]+string(c)+s[i+1:])
				}
			}
			if i < len(s) {
				checkOf(t, s[:i]+s[i+1:])
			}
		}
	}
}

// De2: texts of lists whose numbers are anything, in any order.
func TestAnyNumbers(t *testing.T) {
	var g numbers
	any := []int{-1, 0, 1, 2, 7, 8, 255, 256, 1 << 40, 1<<40 + 1, 1<<32 + 1, math.MaxInt, math.MinInt}
	good := 0
	for range 60000 {
		var b strings.Builder
		b.WriteByte('l')
		client := g.next(3)
		for range g.next(4) {
			n := []int{client, 1 + g.next(1<<20), g.next(256), g.next(2)}
			client += 1 + g.next(3)
			if g.next(4) == 0 {
				n[g.next(4)] = any[g.next(len(any))]
			}
			if g.next(20) == 0 {
				n = append(n, 0)[:g.next(6)]
			}
			b.WriteByte('l')
			for _, m := range n {
				fmt.Fprintf(&b, "i%de", m)
			}
			b.WriteByte('e')
		}
		b.WriteByte('e')
		if isText(b.String()) {
			good++
		}
		checkOf(t, b.String())
	}
	if good < 1000 || good > 59000 {
		t.Errorf("%d are texts of tables", good)
	}
}

// De2: long texts, of many rows, of one long part, and of parts within one another, are none.
func TestLongTexts(t *testing.T) {
	r := "li0ei1ei0ei0ee"
	for _, n := range []int{9, 100, 4681, 4682, 1 << 17} {
		checkOf(t, "l"+strings.Repeat(r, n)+"e")
		checkOf(t, "l"+strings.Repeat("i0e", n)+"e")
		checkOf(t, strings.Repeat("l", n)+strings.Repeat("e", n))
		checkOf(t, "l"+strconv.Itoa(n)+":"+strings.Repeat("x", n)+"e")
		checkOf(t, "l"+r+"e"+strings.Repeat("e", n))
		checkOf(t, "lli0ei"+strings.Repeat("1", n)+"ei0ei0eee")
	}
	nine := "l"
	for client := range 9 {
		nine += fmt.Sprintf("li%dei1ei0ei0ee", client)
		checkOf(t, nine+"e")
	}
}

// R1: of a table that New, or Of, did not give, there is nothing.
func TestNotGiven(t *testing.T) {
	x := New()
	x.Put(1, 5, api.Reply{Err: 7, Was: true})
	copied := *x
	y := read(t, x.Text())
	alike := *y
	for name, n := range map[string]*Table{"nil": nil, "zero": {}, "copied": &copied, "copied of Of's": &alike} {
		for _, client := range clients {
			if l := n.Last(client); l != 0 {
				t.Errorf("%s: Last = %d", name, l)
			}
			for _, seq := range seqs {
				if r, e := n.Find(client, seq); e != api.ErrArg || r.Hits != nil || !same(r, api.Reply{}) {
					t.Errorf("%s: Find = %v, %d", name, r, e)
				}
				if e := n.Put(client, seq, api.Reply{}); e != api.ErrArg {
					t.Errorf("%s: Put = %d", name, e)
				}
			}
		}
		if s := n.Text(); s != "" {
			t.Errorf("%s: Text = %q", name, s)
		}
	}
	if s := x.Text() + y.Text(); s != "lli1ei5ei7ei1eeelli1ei5ei7ei1eee" {
		t.Error(s)
	}
}

// R4: a table's answers are the same whoever asks, and how often.
func TestAskedOften(t *testing.T) {
	var g numbers
	x := full(&g)
	s := x.Text()
	for range 100 {
		x.Find(g.next(10)-1, g.next(1000))
		x.Last(g.next(10) - 1)
		if x.Text() != s {
			t.Fatal("what was asked has changed the table")
		}
	}
	for range 3 {
		checkOf(t, s)
	}
}

// heap is how many bytes are in use.
func heap() int {
	runtime.GC()
	var m runtime.MemStats
	runtime.ReadMemStats(&m)
	return int(m.HeapAlloc)
}

// De1, De2: neither what was found, nor what was done ahead, nor a text is kept.
func TestKeptMemory(t *testing.T) {
	x := New()
	before := heap()
	for seq := 1; seq <= 3000; seq++ {
		x.Put(seq%8, seq, api.Reply{Hits: make([]api.Hit, 1<<12), Was: true})
		x.Find(seq%8, seq)
	}
	if n := heap() - before; n > 1<<16 {
		t.Errorf("%d bytes are kept", n)
	}
	var l []*Table
	for range 100 {
		s := strings.Repeat("x", 1<<16) + x.Text()
		l = append(l, read(t, s[1<<16:]))
	}
	if n := heap() - before; n > 1<<17 {
		t.Errorf("of texts, %d bytes are kept", n)
	}
	runtime.KeepAlive(l)
	runtime.KeepAlive(x)
}

// De2: bytes that are too many for a value are refused without being read.
func TestManyBytes(t *testing.T) {
	s := "l" + strings.Repeat("i0e", 1<<20) + "e"
	most := testing.AllocsPerRun(3, func() { Of(s) })
	if most > 10 {
		t.Errorf("%v pieces of memory are taken", most)
	}
}
