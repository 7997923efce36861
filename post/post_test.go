package post

import (
	"fmt"
	"math"
	"plover/api"
	"reflect"
	"regexp"
	"runtime"
	"slices"
	"strconv"
	"strings"
	"testing"
)

// numbers gives numbers one behind the other, by a short rule.
type numbers struct{ at uint64 }

func (g *numbers) next(below int) int {
	g.at = g.at*6364136223846793005 + 1442695040888963407
	return int(g.at >> 33 % uint64(below))
}

// among is one of some numbers.
func (g *numbers) among(l []int) int { return l[g.next(len(l))] }

// field is a number of a message: how it is set, what it may be, and what it may not.
type field struct {
	name string
	set  func(m *api.Msg, n int)
	may  []int
	not  []int
}

// Numbers at the limits, and beyond them.
var (
	counts   = []int{0, 1, 2, 9, 10, 255, 256, 1<<31 - 1, 1 << 31, 1<<32 - 1, 1 << 32, 1<<32 + 1, 1<<40 - 1, 1 << 40}
	noCounts = []int{math.MinInt, math.MinInt + 1, -1 << 40, -1 << 32, -2, -1, 1<<40 + 1, 1<<40 + 2, 1 << 41, 1 << 62, math.MaxInt}
	anys     = append([]int{math.MinInt, math.MinInt + 1, -1 << 40, -10, -9, -1, 1<<40 + 1, math.MaxInt - 1, math.MaxInt}, counts...)
	coords   = []int{-1 << 31, -1<<31 + 1, -1 << 16, -10, -1, 0, 1, 9, 10, 1 << 16, 1<<31 - 2, 1<<31 - 1}
	noCoords = []int{math.MinInt, math.MinInt + 1, -1 << 40, -1 << 32, -1<<31 - 2, -1<<31 - 1, 1 << 31, 1<<31 + 1, 1 << 32, 1<<32 + 1, 1 << 40, math.MaxInt}
)

// upTo are the numbers from one to another one.
func upTo(from, to int) []int {
	var l []int
	for n := from; n <= to; n++ {
		l = append(l, n)
	}
	return l
}

// beyond are numbers that are not from one to another one.
func beyond(from, to int) []int {
	l := []int{math.MinInt, math.MinInt + 1, -1 << 32, -1<<32 + from, from - 2, from - 1, to + 1, to + 2, 2*to + 2, 1000, 1 << 31, 1 << 32, 1<<32 + from, 1<<32 + to, 1 << 40, math.MaxInt}
	return slices.DeleteFunc(l, func(n int) bool { return n >= from && n <= to })
}

// fieldsOf are all numbers of a message that are there once, in the order of its text.
func fieldsOf() []field {
	return []field{
		{"Kind", func(m *api.Msg, n int) { m.Kind = n }, upTo(1, 19), beyond(1, 19)},
		{"Shard", func(m *api.Msg, n int) { m.Shard = n }, upTo(0, 15), beyond(0, 15)},
		{"Epoch", func(m *api.Msg, n int) { m.Epoch = n }, counts, noCounts},
		{"Client", func(m *api.Msg, n int) { m.Client = n }, counts, noCounts},
		{"Seq", func(m *api.Msg, n int) { m.Seq = n }, counts, noCounts},
		{"N", func(m *api.Msg, n int) { m.N = n }, counts, noCounts},
		{"Version", func(m *api.Msg, n int) { m.Version = n }, counts, noCounts},
		{"Limit", func(m *api.Msg, n int) { m.Limit = n }, counts, noCounts},
		{"Op.Kind", func(m *api.Msg, n int) { m.Op.Kind = n }, upTo(0, 3), beyond(0, 3)},
		{"Op.Id", func(m *api.Msg, n int) { m.Op.Id = n }, anys, nil},
		{"Op.K", func(m *api.Msg, n int) { m.Op.K = n }, upTo(0, 64), beyond(0, 64)},
		{"Reply.Err", func(m *api.Msg, n int) { m.Reply.Err = api.Errno(n) }, upTo(0, 255), beyond(0, 255)},
		{"Reply.Was", func(m *api.Msg, n int) { m.Reply.Was = n == 1 }, upTo(0, 1), nil},
	}
}

// sumOf is layer 3's sum, bit by bit.
func sumOf(s string) int {
	n := 0xb704ce
	for i := range len(s) {
		n ^= int(s[i]) << 16
		for range 8 {
			n *= 2
			if n >= 1<<24 {
				n ^= 0x1864cfb
			}
		}
	}
	return n
}

// frameOf is layer 4's frame.
func frameOf(s string) string {
	return fmt.Sprintf("%06x%06x|%s\n", len(s), sumOf(s), s)
}

// headOf is the text of a message's first frame, letter by letter.
func headOf(m api.Msg) string {
	var b strings.Builder
	fmt.Fprintf(&b, "li%dei%dei%dei%dei%dei%dei%dei%de", m.Kind, m.Shard, m.Epoch, m.Client, m.Seq, m.N, m.Version, m.Limit)
	fmt.Fprintf(&b, "i%dei%dei%del", m.Op.Kind, m.Op.Id, m.Op.K)
	for _, n := range m.Op.V {
		fmt.Fprintf(&b, "i%de", n)
	}
	was := map[bool]int{true: 1}[m.Reply.Was]
	fmt.Fprintf(&b, "ei%dei%del", m.Reply.Err, was)
	for _, h := range m.Reply.Hits {
		fmt.Fprintf(&b, "i%dei%de", h.Id, h.Dist)
	}
	return b.String() + "ee"
}

func textOf(m api.Msg) string { return frameOf(headOf(m)) + frameOf(m.Text) }

// same tells whether two messages are the same.
func same(a, b api.Msg) bool {
	for _, m := range []*api.Msg{&a, &b} {
		if len(m.Op.V) == 0 {
			m.Op.V = nil
		}
		if len(m.Reply.Hits) == 0 {
			m.Reply.Hits = nil
		}
	}
	return reflect.DeepEqual(a, b)
}

// none tells whether a message has nothing in it.
func none(m api.Msg) bool { return same(m, api.Msg{}) }

// mayBe tells whether a message may be, by the document's words.
func mayBe(m api.Msg) bool {
	for _, n := range []int{m.Epoch, m.Client, m.Seq, m.N, m.Version, m.Limit} {
		if n < 0 || n > 1099511627776 {
			return false
		}
	}
	for _, n := range m.Op.V {
		if n < -2147483648 || n > 2147483647 {
			return false
		}
	}
	for _, h := range m.Reply.Hits {
		if h.Dist < 0 || h.Dist > 1099511627776 {
			return false
		}
	}
	return m.Kind >= 1 && m.Kind <= 19 && m.Shard >= 0 && m.Shard <= 15 && m.Op.Kind >= 0 && m.Op.Kind <= 3 &&
		m.Op.K >= 0 && m.Op.K <= 64 && len(m.Op.V) <= 16 && m.Reply.Err >= 0 && m.Reply.Err <= 255 && len(m.Reply.Hits) <= 64 &&
		len(m.Text) <= 262144
}

const number = `i(?:0|-?[1-9][0-9]*)e`

// looks is how the text of a message's first frame looks, by its letters alone; the numbers have yet to be held against what they may be.
var (
	looks = regexp.MustCompile(`\Al((?:` + number + `){11})l((?:` + number + `)*)e((?:` + number + `){2})l((?:` + number + number + `)*)ee\z`)
	each  = regexp.MustCompile(`i(-?[0-9]+)e`)
)

// numbersOf are the numbers of some letters, and whether all of them are numbers of 64 bits.
func numbersOf(s string) ([]int, bool) {
	var l []int
	for _, part := range each.FindAllStringSubmatch(s, -1) {
		n, err := strconv.Atoi(part[1])
		if err != nil {
			return nil, false
		}
		l = append(l, n)
	}
	return l, true
}

// cut is the text of the frame that bytes begin with, and what stands behind it.
func cut(s string) (text, rest string, ok bool) {
	if len(s) < 13 {
		return "", "", false
	}
	size, err := strconv.ParseInt(s[:6], 16, 0)
	if err != nil || size < 0 || int(size)+14 > len(s) {
		return "", "", false
	}
	text, rest = s[13:13+size], s[14+size:]
	return text, rest, s[:14+size] == frameOf(text)
}

// wantHead is the message of a first frame's text, by the document's words, whatever its numbers are.
func wantHead(s string) (api.Msg, bool) {
	parts := looks.FindStringSubmatch(s)
	if parts == nil || len(s) > 65536 {
		return api.Msg{}, false
	}
	var lists [4][]int
	for i := range lists {
		l, ok := numbersOf(parts[i+1])
		if !ok {
			return api.Msg{}, false
		}
		lists[i] = l
	}
	n, r := lists[0], lists[2]
	m := api.Msg{Kind: n[0], Shard: n[1], Epoch: n[2], Client: n[3], Seq: n[4], N: n[5], Version: n[6], Limit: n[7]}
	m.Op = api.Op{Kind: n[8], Id: n[9], K: n[10], V: lists[1]}
	m.Reply = api.Reply{Err: api.Errno(r[0]), Was: r[1] == 1}
	for h := lists[3]; len(h) > 0; h = h[2:] {
		m.Reply.Hits = append(m.Reply.Hits, api.Hit{Id: h[0], Dist: h[1]})
	}
	return m, r[1] == 0 || r[1] == 1
}

// wantTake is what Take answers, by the document's words.
func wantTake(s string) (api.Msg, api.Errno) {
	all, rest, ok := cut(s)
	if !ok {
		return api.Msg{}, 130
	}
	text, rest, ok := cut(rest)
	if !ok || rest != "" {
		return api.Msg{}, 130
	}
	m, ok := wantHead(all)
	m.Text = text
	if !ok || !mayBe(m) {
		return api.Msg{}, 130
	}
	return m, 0
}

func checkTake(t *testing.T, s string) api.Errno {
	t.Helper()
	want, why := wantTake(s)
	if m, e := Take(s); !same(m, want) || e != why {
		t.Fatalf("Take(%.300q) = %.300v, %d, want %.300v, %d", s, fmt.Sprint(m), e, fmt.Sprint(want), why)
	}
	return why
}

// checkMsg sees to it that a message is answered as the document's words say, there and back.
func checkMsg(t *testing.T, m api.Msg) bool {
	t.Helper()
	text, why := textOf(m), api.OK
	put, back := text, m
	if !mayBe(m) {
		put, back, why = "", api.Msg{}, api.ErrArg
	}
	if e := Check(m); e != why {
		t.Fatalf("Check(%.300v) = %d, want %d", fmt.Sprint(m), e, why)
	}
	if s, e := Put(m); s != put || e != why {
		t.Fatalf("Put(%.300v) = %.300q, %d, want %.300q, %d", fmt.Sprint(m), s, e, put, why)
	}
	if why != api.OK {
		why = api.ErrPost
	}
	if got, e := Take(text); !same(got, back) || e != why {
		t.Fatalf("Take(%.300q) = %.300v, %d, want %.300v, %d", text, fmt.Sprint(got), e, fmt.Sprint(back), why)
	}
	return why == api.OK
}

// ok and no see to it that a message may be, and may not.
func ok(t *testing.T, m api.Msg) {
	t.Helper()
	if !checkMsg(t, m) {
		t.Errorf("%.300v may not be", fmt.Sprint(m))
	}
}

func no(t *testing.T, m api.Msg) {
	t.Helper()
	if checkMsg(t, m) {
		t.Errorf("%.300v may be", fmt.Sprint(m))
	}
}

// vector is one that may be, of so many numbers.
func (g *numbers) vector(many int) []int {
	var l []int
	for range many {
		l = append(l, g.among(coords))
	}
	return l
}

// hits are some that may be.
func (g *numbers) hits(many int) []api.Hit {
	var l []api.Hit
	for range many {
		l = append(l, api.Hit{Id: g.among(anys), Dist: g.among(counts)})
	}
	return l
}

// bytes are any so many bytes.
func (g *numbers) bytes(many int) string {
	b := make([]byte, many)
	for i := range b {
		b[i] = byte(g.next(256))
	}
	return string(b)
}

// some is a message that may be.
func (g *numbers) some() api.Msg {
	var m api.Msg
	for _, f := range fieldsOf() {
		f.set(&m, g.among(f.may))
	}
	m.Op.V, m.Reply.Hits, m.Text = g.vector(g.next(17)), g.hits(g.next(5)), g.bytes(g.next(20))
	return m
}

// greatest is the message whose text is the longest.
func greatest() api.Msg {
	m := api.Msg{Kind: 19, Shard: 15, Epoch: 1 << 40, Client: 1 << 40, Seq: 1 << 40, N: 1 << 40, Version: 1 << 40, Limit: 1 << 40}
	m.Op = api.Op{Kind: 3, Id: math.MinInt, K: 64, V: slices.Repeat([]int{-1 << 31}, 16)}
	m.Reply = api.Reply{Err: 255, Was: true, Hits: slices.Repeat([]api.Hit{{Id: math.MinInt, Dist: 1 << 40}}, 64)}
	m.Text = strings.Repeat("\xff", 1<<18)
	return m
}

// bases are messages that may be, of which one thing at a time is made another one.
func bases() []api.Msg {
	var g numbers
	full := greatest()
	full.Text = "text"
	return []api.Msg{{Kind: 1}, full, g.some(), g.some()}
}

// Example 1.
func TestExample(t *testing.T) {
	for kind := 1; kind <= 19; kind++ {
		if s, e := Put(api.Msg{Kind: kind}); e != api.OK || s[13] != 'l' {
			t.Errorf("Put of the kind %d = %q, %d", kind, s, e)
		}
	}
}

// Po1: each number of a message at each of its limits, and beyond.
func TestNumbers(t *testing.T) {
	for _, base := range bases() {
		for _, f := range fieldsOf() {
			for _, n := range f.may {
				m := base
				f.set(&m, n)
				ok(t, m)
			}
			for _, n := range f.not {
				m := base
				f.set(&m, n)
				no(t, m)
			}
		}
	}
}

// Po1: the kinds of messages and of operations are those of package api, all of them.
func TestKinds(t *testing.T) {
	for n := -300; n <= 300; n++ {
		if e := Check(api.Msg{Kind: n}); (e == api.OK) != (n >= api.MsgWrite && n <= api.MsgMoved) {
			t.Errorf("the kind %d: %d", n, e)
		}
		if e := Check(api.Msg{Kind: 1, Op: api.Op{Kind: n}}); (e == api.OK) != (n == 0 || n >= api.OpInsert && n <= api.OpQuery) {
			t.Errorf("the operation's kind %d: %d", n, e)
		}
	}
}

// Po1: vectors of each count of numbers, at each of their limits, and beyond; none is one, too.
func TestVectors(t *testing.T) {
	var g numbers
	for _, base := range bases() {
		m := base
		m.Op.V = nil
		ok(t, m)
		m.Op.V = []int{}
		ok(t, m)
		for many := 1; many <= 16; many++ {
			for i := range many {
				for _, n := range coords {
					m.Op.V = g.vector(many)
					m.Op.V[i] = n
					ok(t, m)
				}
				for _, n := range noCoords {
					m.Op.V[i] = n
					no(t, m)
				}
			}
		}
		for _, many := range []int{17, 18, 32, 64, 256, 257, 1 << 12} {
			m.Op.V = make([]int, many)
			no(t, m)
		}
	}
	for _, many := range []int{1 << 16, 1<<16 + 1, 1 << 20, 1 << 24} {
		if s, e := Put(api.Msg{Kind: 1, Op: api.Op{V: make([]int, many)}}); s != "" || e != api.ErrArg {
			t.Errorf("%d numbers: %d bytes, %d", many, len(s), e)
		}
	}
}

// Po1: hits of each count, of any number, and as far as may be, and farther; they need not be in any order.
func TestHits(t *testing.T) {
	var g numbers
	for _, base := range bases() {
		m := base
		for many := range 65 {
			m.Reply.Hits = g.hits(many)
			ok(t, m)
		}
		for _, many := range []int{65, 66, 128, 256, 257, 1 << 12} {
			m.Reply.Hits = make([]api.Hit, many)
			no(t, m)
		}
		for _, many := range []int{1, 2, 64} {
			for _, i := range []int{0, many / 2, many - 1} {
				m.Reply.Hits = g.hits(many)
				for _, n := range anys {
					m.Reply.Hits[i].Id = n
					ok(t, m)
				}
				for _, n := range counts {
					m.Reply.Hits[i].Dist = n
					ok(t, m)
				}
				for _, n := range noCounts {
					m.Reply.Hits[i].Dist = n
					no(t, m)
				}
			}
		}
		for _, l := range [][]api.Hit{{{Id: 2, Dist: 9}, {Id: 1, Dist: 3}}, {{Id: 1}, {Id: 1}}, {{Id: 5, Dist: 1}, {Id: 5}, {Id: 4, Dist: 1}}} {
			m.Reply.Hits = l
			ok(t, m)
		}
	}
	for _, many := range []int{1 << 16, 1<<16 + 1, 1 << 20, 1 << 23} {
		if s, e := Put(api.Msg{Kind: 1, Reply: api.Reply{Hits: make([]api.Hit, many)}}); s != "" || e != api.ErrArg {
			t.Errorf("%d hits: %d bytes, %d", many, len(s), e)
		}
	}
}

// Po1: texts of any bytes, up to the most of a frame, and beyond.
func TestTexts(t *testing.T) {
	var g numbers
	all := make([]byte, 256)
	for i := range all {
		all[i] = byte(i)
	}
	for _, base := range bases() {
		m := base
		for many := range 40 {
			m.Text = g.bytes(many)
			ok(t, m)
		}
		for _, s := range []string{"", "\n", "|", "le", "\x00", "\xff\xfe", "Ä\u3000", string(all), frameOf("hi"), textOf(base), textOf(base)[1:], textOf(base) + textOf(base)} {
			m.Text = s
			ok(t, m)
		}
		for _, many := range []int{1 << 16, 1<<16 + 1, 1<<18 - 1, 1 << 18} {
			m.Text = g.bytes(many)
			ok(t, m)
			m.Text = strings.Repeat("e", many)
			ok(t, m)
		}
		for _, many := range []int{1<<18 + 1, 1<<18 + 2, 1 << 19, 1 << 20} {
			m.Text = strings.Repeat("e", many)
			no(t, m)
		}
	}
	for _, many := range []int{1<<24 - 1, 1 << 24, 1<<24 + 1, 1 << 28} {
		if s, e := Put(api.Msg{Kind: 1, Text: strings.Repeat("e", many)}); s != "" || e != api.ErrArg {
			t.Errorf("%d bytes: %d bytes, %d", many, len(s), e)
		}
	}
}

// Po1: the longest text of all.
func TestGreatest(t *testing.T) {
	m := greatest()
	ok(t, m)
	if s, _ := Put(m); len(s) != 14+1+4+4+6*15+3+22+4+1+16*13+1+5+3+1+64*(22+15)+2+14+1<<18 {
		t.Error(len(s))
	}
	m.Text += "x"
	no(t, m)
}

// Po1: faults that meet; one is enough.
func TestFaultsMeet(t *testing.T) {
	var g numbers
	faults := []func(m *api.Msg){
		func(m *api.Msg) { m.Op.V = g.vector(17) },
		func(m *api.Msg) { m.Op.V = []int{0, 1 << 31} },
		func(m *api.Msg) { m.Reply.Hits = g.hits(65) },
		func(m *api.Msg) { m.Reply.Hits = []api.Hit{{}, {Dist: -1}} },
		func(m *api.Msg) { m.Text = strings.Repeat("x", 1<<18+1) },
	}
	for _, f := range fieldsOf() {
		if len(f.not) > 0 {
			faults = append(faults, func(m *api.Msg) { f.set(m, g.among(f.not)) })
		}
	}
	for _, one := range faults {
		for _, two := range faults {
			m := g.some()
			one(&m)
			two(&m)
			if e := Check(m); e != api.ErrArg {
				t.Errorf("Check(%.300v) = %d", fmt.Sprint(m), e)
			}
			if s, e := Put(m); s != "" || e != api.ErrArg {
				t.Errorf("Put(%.300v) = %.300q, %d", fmt.Sprint(m), s, e)
			}
		}
	}
	no(t, api.Msg{})
}

// Po1, Po2: messages of any numbers, there and back.
func TestAnyMessages(t *testing.T) {
	var g numbers
	found := 0
	for range 30000 {
		m := g.some()
		for _, f := range fieldsOf() {
			if len(f.not) > 0 && g.next(40) == 0 {
				f.set(&m, g.among(f.not))
			}
		}
		if checkMsg(t, m) {
			found++
		}
	}
	if found < 10000 || found > 29000 {
		t.Error(found)
	}
}

// R3: lists that are handed in stay as they are, and so does the room behind them.
func TestHandedIn(t *testing.T) {
	var g numbers
	for range 100 {
		v, hits := g.vector(16), g.hits(64)
		v2, hits2 := slices.Clone(v), slices.Clone(hits)
		m := g.some()
		i, j := g.next(16), g.next(64)
		v[i], v2[i] = math.MaxInt, math.MaxInt
		hits[j].Dist, hits2[j].Dist = -1, -1
		m.Op.V, m.Reply.Hits = v[:i], hits[:j]
		kept := m
		ok(t, m)
		if !slices.Equal(v, v2) || !slices.Equal(hits, hits2) || !same(m, kept) {
			t.Fatal("a list was changed")
		}
	}
}

// R3: lists that are answered are new memory.
func TestNewMemory(t *testing.T) {
	var g numbers
	for range 100 {
		m := g.some()
		s, _ := Put(m)
		a, _ := Take(s)
		b, _ := Take(s)
		_ = append(a.Op.V, 9)
		_ = append(a.Reply.Hits, api.Hit{Id: 9})
		for i := range a.Op.V {
			a.Op.V[i]++
		}
		for i := range a.Reply.Hits {
			a.Reply.Hits[i].Id++
		}
		if c, e := Take(s); !same(b, m) || !same(c, m) || e != api.OK {
			t.Fatal(a, b, c, e)
		}
	}
}

// R4: what was asked, or refused, ahead changes nothing.
func TestAskedOften(t *testing.T) {
	var g numbers
	for range 100 {
		m, other := g.some(), g.some()
		s, _ := Put(m)
		Take(s[1:])
		Put(other)
		Check(api.Msg{Kind: 20})
		Put(api.Msg{Kind: 20})
		Take(textOf(other))
		if back, e := Take(s); !same(back, m) || e != api.OK {
			t.Fatal(back, e)
		}
		if again, e := Put(m); again != s || e != api.OK {
			t.Fatal(again, e)
		}
	}
}

// heap is how many bytes are in use.
func heap() int {
	runtime.GC()
	var m runtime.MemStats
	runtime.ReadMemStats(&m)
	return int(m.HeapAlloc)
}

// Po1: nothing is kept from call to call, nor does an answer keep what was handed in.
func TestKeptMemory(t *testing.T) {
	var g numbers
	before := heap()
	var kept []string
	var msgs []api.Msg
	for range 100 {
		room, far := make([]int, 1<<16), make([]api.Hit, 1<<14)
		s, e := Put(api.Msg{Kind: 1 + g.next(19), Op: api.Op{V: room[:3]}, Reply: api.Reply{Hits: far[:3]}})
		if e != api.OK {
			t.Fatal(e)
		}
		m, e := Take((strings.Repeat("x", 1<<16) + s)[1<<16:])
		if e != api.OK {
			t.Fatal(e)
		}
		kept, msgs = append(kept, s), append(msgs, m)
	}
	for range 3000 {
		m := g.some()
		s, _ := Put(m)
		Take(s)
		Take(s + s)
		Check(m)
	}
	if n := heap() - before; n > 1<<18 {
		t.Errorf("%d bytes are kept", n)
	}
	runtime.KeepAlive(kept)
	runtime.KeepAlive(msgs)
}
