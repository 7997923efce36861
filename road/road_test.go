package road

import (
	"fmt"
	"math"
	"plover/api"
	"runtime"
	"slices"
	"strconv"
	"strings"
	"testing"
)

// numbers gives numbers one behind the other, by a short rule.
type numbers struct{ at uint64 }

func (g *numbers) next(below int) int {
	g.at = g.at*6364136223846793005 + 1442695040888963407
	return int(g.at >> 33 % uint64(below))
}

// Numbers that are no place to wait of any road, no count of nodes, and no place of a letter in a full inbox.
var (
	noWhere = []int{math.MinInt, math.MinInt + 1, -1 << 32, -1<<32 - 1, -1 << 31, -1024, -9, -8, -3, -2, 8, 9, 10, 15, 16, 255, 256, 1023, 1 << 31, 1<<32 - 1, 1 << 32, 1<<32 + 1, math.MaxInt - 1, math.MaxInt}
	noNodes = []int{math.MinInt, math.MinInt + 1, -1 << 32, -1<<32 + 1, -1 << 31, -8, -2, -1, 0, 9, 10, 16, 255, 256, 257, 1<<31 - 1, 1 << 31, 1<<32 + 1, math.MaxInt - 1, math.MaxInt}
	noPlace = []int{math.MinInt, math.MinInt + 1, -1 << 32, -1 << 31, -1025, -1024, -2, -1, 1024, 1025, 2048, 1<<31 - 1, 1 << 31, 1 << 32, 1<<32 + 1, math.MaxInt - 1, math.MaxInt}
)

// model is the document's words: all letters in one list; those of a place to wait stand one behind the other there, with others between.
type model struct {
	nodes int
	all   []api.Letter
}

func (m *model) is(to int) bool { return to >= -1 && to <= m.nodes-1 }

// stand tells where in the list the letters of a place to wait are.
func (m *model) stand(to int) []int {
	var out []int
	for i, l := range m.all {
		if l.To == to {
			out = append(out, i)
		}
	}
	return out
}

func (m *model) send(l api.Letter) api.Errno {
	if !m.is(l.From) || !m.is(l.To) || len(l.Text) > 1048576 {
		return api.ErrArg
	}
	if len(m.stand(l.To)) == 1024 {
		return api.ErrFull
	}
	m.all = append(m.all, l)
	return api.OK
}

func (m *model) next(to int) (api.Letter, api.Errno) {
	if !m.is(to) {
		return api.Letter{}, api.ErrArg
	}
	s := m.stand(to)
	if len(s) == 0 {
		return api.Letter{}, api.ErrNone
	}
	l := m.all[s[0]]
	m.drop(to, 0)
	return l, api.OK
}

func (m *model) drop(to, at int) api.Errno {
	s := m.stand(to)
	switch {
	case !m.is(to):
		return api.ErrArg
	case at < 0 || at >= len(s):
		return api.ErrNone
	}
	m.all = append(slices.Clone(m.all[:s[at]]), m.all[s[at]+1:]...)
	return api.OK
}

func (m *model) twice(to, at int) api.Errno {
	s := m.stand(to)
	switch {
	case !m.is(to):
		return api.ErrArg
	case at < 0 || at >= len(s):
		return api.ErrNone
	case len(s) == 1024:
		return api.ErrFull
	}
	m.all = append(slices.Clone(m.all[:s[at]+1]), m.all[s[at]:]...)
	return api.OK
}

func (m *model) swap(to, at int) api.Errno {
	s := m.stand(to)
	switch {
	case !m.is(to):
		return api.ErrArg
	case at < 0 || at >= len(s)-1:
		return api.ErrNone
	}
	m.all[s[at]], m.all[s[at+1]] = m.all[s[at+1]], m.all[s[at]]
	return api.OK
}

func (m *model) clear(to int) api.Errno {
	if !m.is(to) {
		return api.ErrArg
	}
	m.all = slices.DeleteFunc(slices.Clone(m.all), func(l api.Letter) bool { return l.To == to })
	return api.OK
}

// pair is a road, and what it must be.
type pair struct {
	t    *testing.T
	r    *Road
	m    *model
	sent int
}

func newRoad(t *testing.T, nodes int) *Road {
	t.Helper()
	r, e := New(nodes)
	if r == nil || e != api.OK {
		t.Fatalf("New(%d) = %v, %d", nodes, r, e)
	}
	return r
}

func newPair(t *testing.T, nodes int) *pair {
	t.Helper()
	return &pair{t, newRoad(t, nodes), &model{nodes: nodes}, 0}
}

// send sends a letter with a text of its own.
func (p *pair) send(from, to int) {
	p.t.Helper()
	p.sent++
	p.sendIt(api.Letter{From: from, To: to, Text: "letter " + strconv.Itoa(p.sent)})
}

func (p *pair) sendIt(l api.Letter) {
	p.t.Helper()
	want := p.m.send(l)
	if e := p.r.Send(l); e != want {
		p.t.Fatalf("Send(%d to %d, %d bytes) = %d, want %d", l.From, l.To, len(l.Text), e, want)
	}
}

func (p *pair) next(to int) {
	p.t.Helper()
	want, wantE := p.m.next(to)
	if l, e := p.r.Next(to); l != want || e != wantE {
		p.t.Fatalf("Next(%d) = %s, %d, want %s, %d", to, show(l), e, show(want), wantE)
	}
}

// show is a letter as a short text.
func show(l api.Letter) string {
	return fmt.Sprintf("(%d to %d, %d bytes: %.40q)", l.From, l.To, len(l.Text), l.Text)
}

func (p *pair) drop(to, at int) {
	p.t.Helper()
	want := p.m.drop(to, at)
	if e := p.r.Drop(to, at); e != want {
		p.t.Fatalf("Drop(%d, %d) = %d, want %d", to, at, e, want)
	}
}

func (p *pair) twice(to, at int) {
	p.t.Helper()
	want := p.m.twice(to, at)
	if e := p.r.Twice(to, at); e != want {
		p.t.Fatalf("Twice(%d, %d) = %d, want %d", to, at, e, want)
	}
}

func (p *pair) swap(to, at int) {
	p.t.Helper()
	want := p.m.swap(to, at)
	if e := p.r.Swap(to, at); e != want {
		p.t.Fatalf("Swap(%d, %d) = %d, want %d", to, at, e, want)
	}
}

func (p *pair) clear(to int) {
	p.t.Helper()
	want := p.m.clear(to)
	if e := p.r.Clear(to); e != want {
		p.t.Fatalf("Clear(%d) = %d, want %d", to, e, want)
	}
}

// same holds how many wait at all places, and at such as there are not.
func (p *pair) same() {
	p.t.Helper()
	for to := -3; to <= 10; to++ {
		if n := p.r.Waits(to); n != len(p.m.stand(to)) {
			p.t.Fatalf("Waits(%d) = %d, want %d", to, n, len(p.m.stand(to)))
		}
	}
}

// all takes all letters, from all places.
func (p *pair) all() {
	p.t.Helper()
	p.same()
	for to := -2; to <= p.m.nodes; to++ {
		for range len(p.m.stand(to)) {
			p.next(to)
		}
		p.next(to)
		p.next(to)
		p.same()
	}
}

// texts takes all letters of a place to wait: their texts.
func texts(r *Road, to int) string {
	var out []string
	for r.Waits(to) > 0 {
		l, _ := r.Next(to)
		out = append(out, l.Text)
	}
	return strings.Join(out, " ")
}

// Ro1, Ro2: the chapter's example.
func TestExample(t *testing.T) {
	r := newRoad(t, 1)
	for _, s := range []string{"a", "b", "c"} {
		if e := r.Send(api.Letter{From: -1, To: 0, Text: s}); e != api.OK {
			t.Fatal(e)
		}
	}
	if e := r.Swap(0, 0); e != api.OK {
		t.Fatal(e)
	}
	for _, want := range []string{"b", "a", "c"} {
		if l, e := r.Next(0); e != api.OK || l.Text != want {
			t.Errorf("Next = %v, %d, want %s", l, e, want)
		}
	}
}

// Ro1: a road has 1 to 8 nodes.
func TestNew(t *testing.T) {
	if api.MaxNodes != 8 || api.MaxInbox != 1024 {
		t.Fatal("the limits are others")
	}
	for nodes := 1; nodes <= 8; nodes++ {
		p := newPair(t, nodes)
		p.all()
	}
	for _, nodes := range noNodes {
		if r, e := New(nodes); r != nil || e != api.ErrArg {
			t.Errorf("New(%d) = %v, %d", nodes, r, e)
		}
	}
}

// Ro1, Ro2: there are just the places -1 to nodes less 1, for each call.
func TestPlaces(t *testing.T) {
	for nodes := 1; nodes <= 8; nodes++ {
		wheres := slices.Clone(noWhere)
		for to := -2; to < 8; to++ {
			wheres = append(wheres, to)
		}
		for _, to := range wheres {
			p := newPair(t, nodes)
			p.send(-1, to)
			p.send(nodes-1, to)
			p.send(to, 0)
			p.send(to, nodes-1)
			p.send(to, -1)
			p.send(to, to)
			p.same()
			p.swap(to, 0)
			p.twice(to, 1)
			p.same()
			p.drop(to, 0)
			p.same()
			p.next(to)
			p.same()
			for _, at := range noPlace {
				p.swap(to, at)
				p.twice(to, at)
				p.drop(to, at)
			}
			p.same()
			p.clear(to)
			p.same()
			p.swap(to, 0)
			p.twice(to, 0)
			p.drop(to, 0)
			p.next(to)
			p.clear(to)
			p.all()
		}
	}
}

// Ro1: a letter is told as it was sent, from and to all places, also to where it comes from.
func TestFromTo(t *testing.T) {
	for nodes := 1; nodes <= 8; nodes++ {
		r := newRoad(t, nodes)
		for from := -3; from <= 9; from++ {
			for to := -3; to <= 9; to++ {
				sent := api.Letter{From: from, To: to, Text: strconv.Itoa(from*100 + to)}
				may := from >= -1 && from < nodes && to >= -1 && to < nodes
				e := r.Send(sent)
				if may != (e == api.OK) || !may && e != api.ErrArg {
					t.Fatalf("%d nodes: Send(%d to %d) = %d", nodes, from, to, e)
				}
				if !may {
					continue
				}
				for other := -2; other <= 8; other++ {
					if n := r.Waits(other); n != 0 && other != to || n != 1 && other == to {
						t.Fatalf("%d wait at %d behind a letter to %d", n, other, to)
					}
				}
				if l, e := r.Next(to); l != sent || e != api.OK {
					t.Fatalf("Next(%d) = %v, %d, want %v", to, l, e, sent)
				}
			}
		}
	}
}

// Ro1: a text has 2^20 bytes at the most, whichever they are.
func TestTexts(t *testing.T) {
	long := strings.Repeat("0123456\xff", 1<<17)
	for _, s := range []string{"", "a", "\x00", "\n", "\xff\xfe", "ÄbΩ\u3000", long[:1<<20-1], long, long[:1<<18], long[:1<<18+1], long[:1<<16+1]} {
		for to := -1; to < 3; to++ {
			p := newPair(t, 3)
			p.sendIt(api.Letter{From: 2, To: to, Text: s})
			p.twice(to, 0)
			p.send(2, to)
			p.sendIt(api.Letter{From: -1, To: to, Text: s})
			p.swap(to, 2)
			p.all()
		}
	}
	for _, more := range []int{1, 2, 1 << 10, 1 << 20, 1<<20 + 1} {
		s := long + strings.Repeat("x", more)
		for to := -2; to <= 3; to++ {
			p := newPair(t, 3)
			p.sendIt(api.Letter{From: 2, To: to, Text: s})
			p.same()
			p.send(-1, 1)
			p.sendIt(api.Letter{From: 2, To: to, Text: s})
			p.sendIt(api.Letter{From: 3, To: to, Text: s})
			p.all()
		}
	}
}

// full is a road on which as many letters wait at a place as may.
func full(t *testing.T, nodes, to int) *pair {
	t.Helper()
	p := newPair(t, nodes)
	for i := range 1024 {
		if n := p.r.Waits(to); n != i {
			t.Fatalf("%d wait behind %d letters", n, i)
		}
		p.send(i%(nodes+1)-1, to)
	}
	return p
}

// Ro1, Ro2: 1024 letters wait at a place at the most; ErrArg is told ahead of ErrFull, and so is ErrNone.
func TestFull(t *testing.T) {
	for _, to := range []int{-1, 0, 2} {
		p := full(t, 3, to)
		p.send(0, to) // ErrFull
		p.send(to, to)
		for _, no := range noWhere {
			p.send(no, to) // ErrArg
			p.send(to, no)
			p.twice(no, 0)
			p.twice(no, -1)
		}
		p.sendIt(api.Letter{From: 0, To: to, Text: strings.Repeat("x", 1<<20)})   // ErrFull
		p.sendIt(api.Letter{From: 0, To: to, Text: strings.Repeat("x", 1<<20+1)}) // ErrArg
		for _, at := range []int{0, 1, 2, 511, 512, 1021, 1022, 1023} {
			p.twice(to, at) // ErrFull
			p.swap(to, at)
		}
		for _, at := range noPlace {
			p.twice(to, at) // ErrNone
			p.swap(to, at)
			p.drop(to, at)
		}
		for other := -1; other < 3; other++ {
			p.send(to, other) // just that one is full
		}
		p.same()
		p.next(to)
		p.twice(to, 1022)
		p.twice(to, 1022) // ErrFull
		p.drop(to, 700)
		p.twice(to, 0)
		p.send(0, to) // ErrFull
		p.drop(to, 1023)
		p.send(0, to)
		p.send(0, to) // ErrFull
		p.same()
		p.all()
		p.send(0, to)
		p.all()
	}
}

// Ro1: all places are full at once, and each is told on its own.
func TestAllFull(t *testing.T) {
	p := newPair(t, 8)
	for i := range 1024 * 9 {
		p.r.Send(api.Letter{From: i%9 - 1, To: i*2%9 - 1, Text: strconv.Itoa(i)})
	}
	for to := -1; to < 8; to++ {
		if e := p.r.Send(api.Letter{From: 0, To: to}); e != api.ErrFull || p.r.Waits(to) != 1024 {
			t.Errorf("%d wait at %d: %d", p.r.Waits(to), to, e)
		}
	}
	seen := map[string]bool{}
	for to := 7; to >= -1; to-- {
		last := -1
		for range 1024 {
			l, e := p.r.Next(to)
			n, _ := strconv.Atoi(l.Text)
			if e != api.OK || n <= last || n*2%9-1 != to || n%9-1 != l.From || l.To != to || seen[l.Text] {
				t.Fatalf("Next(%d) = %v, %d behind %d", to, l, e, last)
			}
			seen[l.Text], last = true, n
		}
		if _, e := p.r.Next(to); e != api.ErrNone {
			t.Error(e)
		}
	}
}

// Ro1: Clear loses all of one place, and no more; it can be filled again.
func TestClear(t *testing.T) {
	for n := range 4 {
		for to := -2; to <= 3; to++ {
			p := newPair(t, 3)
			for i := range 4 * n {
				p.send(0, i%4-1)
			}
			p.clear(to)
			p.same()
			p.clear(to)
			p.send(1, to)
			p.send(2, to)
			p.twice(to, 0)
			p.all()
		}
	}
	p := full(t, 1, 0)
	p.clear(0)
	p.same()
	for range 1025 {
		p.send(0, 0)
	}
	p.all()
}

// Ro2: known answers of the three.
func TestThree(t *testing.T) {
	type row struct {
		do   func(r *Road, to, at int) api.Errno
		at   int
		e    api.Errno
		want string
	}
	for _, x := range []row{
		{(*Road).Drop, 0, api.OK, "b c d"},
		{(*Road).Drop, 1, api.OK, "a c d"},
		{(*Road).Drop, 3, api.OK, "a b c"},
		{(*Road).Drop, 4, api.ErrNone, "a b c d"},
		{(*Road).Drop, -1, api.ErrNone, "a b c d"},
		{(*Road).Twice, 0, api.OK, "a a b c d"},
		{(*Road).Twice, 2, api.OK, "a b c c d"},
		{(*Road).Twice, 3, api.OK, "a b c d d"},
		{(*Road).Twice, 4, api.ErrNone, "a b c d"},
		{(*Road).Twice, -1, api.ErrNone, "a b c d"},
		{(*Road).Swap, 0, api.OK, "b a c d"},
		{(*Road).Swap, 1, api.OK, "a c b d"},
		{(*Road).Swap, 2, api.OK, "a b d c"},
		{(*Road).Swap, 3, api.ErrNone, "a b c d"},
		{(*Road).Swap, 4, api.ErrNone, "a b c d"},
		{(*Road).Swap, -1, api.ErrNone, "a b c d"},
	} {
		for to := -1; to < 2; to++ {
			r := newRoad(t, 2)
			for _, s := range []string{"a", "b", "c", "d"} {
				for at := -1; at < 2; at++ {
					r.Send(api.Letter{From: 0, To: at, Text: s})
				}
			}
			if e := x.do(r, to, x.at); e != x.e {
				t.Errorf("at %d: %d, want %d", x.at, e, x.e)
			}
			for at := -1; at < 2; at++ {
				want := "a b c d"
				if at == to {
					want = x.want
				}
				if s := texts(r, at); s != want {
					t.Errorf("at %d of %d: %s at %d, want %s", x.at, to, s, at, want)
				}
			}
		}
	}
}

// Ro2: the three at each place of rows of letters of each length up to 7, behind letters that were taken, too.
func TestEachPlace(t *testing.T) {
	for taken := range 4 {
		for n := range 8 {
			for at := -2; at <= n+2; at++ {
				for kind := range 3 {
					p := newPair(t, 2)
					for range taken {
						p.send(0, 1)
					}
					for range n {
						p.send(-1, 1)
						p.send(0, 0)
					}
					for range taken {
						p.next(1)
					}
					switch kind {
					case 0:
						p.drop(1, at)
					case 1:
						p.twice(1, at)
					case 2:
						p.swap(1, at)
					}
					p.same()
					p.send(1, 1)
					p.all()
				}
			}
		}
	}
}

// Ro2: a letter and the same once more go apart from one another.
func TestTwiceApart(t *testing.T) {
	p := newPair(t, 1)
	p.send(0, -1)
	p.send(-1, -1)
	p.twice(-1, 0)
	p.twice(-1, 1)
	p.swap(-1, 2)
	p.drop(-1, 0)
	p.twice(-1, 1)
	p.swap(-1, 0)
	p.all()
	p.send(0, 0)
	for range 1030 {
		p.twice(0, 0)
	}
	p.same()
	for range 1000 {
		p.drop(0, 5)
	}
	p.all()
}

// Ro1, Ro2: all short rows of calls at two places, with all that waits behind each row.
func TestShortRows(t *testing.T) {
	calls := []func(p *pair){
		func(p *pair) { p.send(-1, 0) },
		func(p *pair) { p.send(0, -1) },
		func(p *pair) { p.next(0) },
		func(p *pair) { p.drop(0, 1) },
		func(p *pair) { p.twice(0, 0) },
		func(p *pair) { p.swap(0, 0) },
		func(p *pair) { p.swap(0, 1) },
		func(p *pair) { p.clear(0) },
		func(p *pair) { p.next(-1) },
	}
	var row []int
	var rows func(depth int)
	rows = func(depth int) {
		if depth == 0 {
			p := newPair(t, 1)
			for _, c := range row {
				calls[c](p)
			}
			p.all()
			return
		}
		for c := range calls {
			row = append(row, c)
			rows(depth - 1)
			row = row[:len(row)-1]
		}
	}
	for depth := range 6 {
		rows(depth)
	}
}

// any does one call or another.
func (p *pair) any(g *numbers, many int) {
	to := g.next(p.m.nodes+1) - 1
	if g.next(30) == 0 {
		to = noWhere[g.next(len(noWhere))]
	}
	at := g.next(many) - 1
	if g.next(30) == 0 {
		at = noPlace[g.next(len(noPlace))]
	}
	switch g.next(10) {
	case 0, 1, 2:
		p.send(g.next(p.m.nodes+1)-1, to)
	case 3, 4:
		p.next(to)
	case 5:
		p.drop(to, at)
	case 6:
		p.twice(to, at)
	case 7, 8:
		p.swap(to, at)
	default:
		if g.next(many) == 0 {
			p.clear(to)
		}
	}
}

// Ro1, Ro2: long rows of calls, where few wait and where many do.
func TestLongRows(t *testing.T) {
	for seed := range 48 {
		g := &numbers{uint64(seed)}
		p := newPair(t, 1+seed%8)
		for range 2000 {
			p.any(g, []int{4, 12, 60}[seed%3])
			if g.next(20) == 0 {
				p.same()
			}
		}
		p.all()
	}
}

// Ro1, Ro2: long rows of calls at a place that is full, or nearly so.
func TestLongRowsFull(t *testing.T) {
	p := full(t, 2, 1)
	g := &numbers{9}
	for range 2500 {
		at := g.next(1040) - 8
		switch g.next(8) {
		case 0, 1:
			p.send(g.next(3)-1, 1)
		case 2, 3:
			p.twice(1, at)
		case 4:
			p.next(1)
		case 5:
			p.drop(1, at)
		default:
			p.swap(1, at)
		}
	}
	p.all()
}

// Ro3: without the three, letters come to each place in the order in which they were sent there.
func TestOrder(t *testing.T) {
	g := &numbers{5}
	r := newRoad(t, 8)
	sent, taken := [9]int{}, [9]int{}
	for range 60000 {
		i := g.next(9)
		l := api.Letter{From: g.next(9) - 1, To: i - 1, Text: strconv.Itoa(sent[i])}
		if g.next(2) == 0 {
			e := r.Send(l)
			if is := sent[i]-taken[i] == 1024; is != (e == api.ErrFull) || !is && e != api.OK {
				t.Fatalf("Send = %d where %d wait", e, sent[i]-taken[i])
			}
			if e == api.OK {
				sent[i]++
			}
			continue
		}
		got, e := r.Next(i - 1)
		if sent[i] == taken[i] {
			if e != api.ErrNone {
				t.Fatalf("Next = %v, %d where none waits", got, e)
			}
			continue
		}
		if e != api.OK || got.Text != strconv.Itoa(taken[i]) || got.To != i-1 {
			t.Fatalf("Next(%d) = %v, %d, want %d", i-1, got, e, taken[i])
		}
		taken[i]++
	}
}

// Ro3: whatever is done at other places, one's letters come as if there were no others.
func TestPlacesApart(t *testing.T) {
	for seed := range 30 {
		g := &numbers{uint64(seed)}
		alone, among := newRoad(t, 3), newRoad(t, 3)
		for i := range 400 {
			to := g.next(4) - 1
			at := g.next(5) - 1
			do := calls(g.next(6), to, at, i)
			s := do(among)
			if to == 1 {
				if want := do(alone); s != want {
					t.Fatalf("%s among others, %s alone", s, want)
				}
			}
		}
		if s, want := texts(among, 1), texts(alone, 1); s != want {
			t.Fatalf("%s among others, %s alone", s, want)
		}
	}
}

// calls is one call or another, which tells what was answered.
func calls(kind, to, at, i int) func(r *Road) string {
	return func(r *Road) string {
		switch kind {
		case 0:
			return fmt.Sprint("Drop ", r.Drop(to, at))
		case 1:
			return fmt.Sprint("Twice ", r.Twice(to, at))
		case 2:
			return fmt.Sprint("Swap ", r.Swap(to, at))
		case 3:
			l, e := r.Next(to)
			return fmt.Sprint("Next ", l, e)
		default:
			return fmt.Sprint("Send ", r.Send(api.Letter{From: i%4 - 1, To: to, Text: strconv.Itoa(i)}), r.Waits(to))
		}
	}
}

// R2: calls that are refused, and one that only asks, change nothing that a later call could tell.
func TestRefused(t *testing.T) {
	for _, n := range []int{0, 1, 2, 5, 1024} {
		asked, quiet := newPair(t, 2), newPair(t, 2)
		for range n {
			asked.send(0, 1)
			quiet.send(0, 1)
		}
		for _, no := range noWhere {
			asked.send(no, 1)
			asked.send(1, no)
			asked.next(no)
			asked.drop(no, 0)
			asked.twice(no, 0)
			asked.swap(no, 0)
			asked.clear(no)
		}
		for _, no := range append(slices.Clone(noPlace), n, n+1) {
			asked.drop(1, no)
			asked.twice(1, no)
			asked.swap(1, no)
		}
		asked.swap(1, n-1)
		asked.next(0)
		asked.sendIt(api.Letter{From: 0, To: 1, Text: strings.Repeat("x", 1<<20+1)})
		if n == 1024 {
			asked.send(0, 1)
			asked.twice(1, 3)
		}
		asked.same()
		quiet.same()
		if a, b := texts(asked.r, 1), texts(quiet.r, 1); a != b {
			t.Errorf("%d letters: calls that were refused have changed something", n)
		}
	}
}

// R3: a letter is kept as it was sent, and as it was told, whatever comes behind it.
func TestKeptLetters(t *testing.T) {
	r := newRoad(t, 1)
	l := api.Letter{From: 0, To: -1, Text: "a"}
	r.Send(l)
	l.From, l.Text = -1, "b"
	r.Send(l)
	first, _ := r.Next(-1)
	r.Twice(-1, 0)
	r.Send(api.Letter{From: 0, To: -1, Text: "c"})
	second, _ := r.Next(-1)
	r.Swap(-1, 0)
	r.Clear(-1)
	if first != (api.Letter{From: 0, To: -1, Text: "a"}) || second != (api.Letter{From: -1, To: -1, Text: "b"}) {
		t.Error(first, second)
	}
}

// R4: roads are apart from one another, and what one tells hangs on its calls alone.
func TestApart(t *testing.T) {
	row := func() string {
		one, two := newRoad(t, 2), newRoad(t, 8)
		g := &numbers{31}
		s := ""
		for i := range 200 {
			s += calls(g.next(6), g.next(3)-1, g.next(4), i)(one)
			s += calls(g.next(6), g.next(9)-1, g.next(4), i)(two)
		}
		return s
	}
	first := row()
	for range 50 {
		if row() != first {
			t.Fatal("the same calls were answered otherwise")
		}
	}
	one, two := newRoad(t, 1), newRoad(t, 1)
	one.Send(api.Letter{From: 0, To: 0, Text: "a"})
	if _, e := two.Next(0); e != api.ErrNone || two.Waits(0) != 0 || two.Clear(0) != api.OK {
		t.Error("a road has another one's letter")
	}
	if l, e := one.Next(0); l.Text != "a" || e != api.OK {
		t.Error(l, e)
	}
}

// R1: a road that New did not give: ErrArg, no letter, 0; and it changes none that New gave.
func TestNotGiven(t *testing.T) {
	r := newRoad(t, 2)
	empty := *newRoad(t, 8)
	r.Send(api.Letter{From: 0, To: 1, Text: "a"})
	r.Send(api.Letter{From: 0, To: 1, Text: "b"})
	copied := *r
	for name, n := range map[string]*Road{"nil": nil, "zero": {}, "copied": &copied, "copied, without letters": &empty} {
		for _, to := range append([]int{-1, 0, 1, 2, 7}, noWhere...) {
			for _, from := range append([]int{-1, 0, 1}, noWhere...) {
				if e := n.Send(api.Letter{From: from, To: to}); e != api.ErrArg {
					t.Errorf("%s: Send(%d to %d) = %d", name, from, to, e)
				}
			}
			if l, e := n.Next(to); l != (api.Letter{}) || e != api.ErrArg {
				t.Errorf("%s: Next(%d) = %v, %d", name, to, l, e)
			}
			for _, at := range append([]int{0, 1, 2}, noPlace...) {
				if a, b, c := n.Drop(to, at), n.Twice(to, at), n.Swap(to, at); a != api.ErrArg || b != api.ErrArg || c != api.ErrArg {
					t.Errorf("%s: the three at %d, %d: %d, %d, %d", name, to, at, a, b, c)
				}
			}
			if e := n.Clear(to); e != api.ErrArg || n.Waits(to) != 0 {
				t.Errorf("%s: Clear(%d) = %d, %d wait", name, to, e, n.Waits(to))
			}
		}
	}
	if s := texts(r, 1); s != "a b" {
		t.Errorf("the road that was copied has changed: %s", s)
	}
}

// heap is how many bytes are in use.
func heap() int {
	runtime.GC()
	var m runtime.MemStats
	runtime.ReadMemStats(&m)
	return int(m.HeapAlloc)
}

// Ro1, Ro2: nothing is kept of letters that were taken, lost, or are there no more.
func TestKeptMemory(t *testing.T) {
	r := newRoad(t, 8)
	before := heap()
	gone := func(what string) {
		t.Helper()
		if n := heap() - before; n > 1<<20 {
			t.Errorf("%d bytes are kept of letters that were %s", n, what)
		}
	}
	fill := func() {
		t.Helper()
		for i := range 500 {
			if e := r.Send(api.Letter{From: 0, To: 3, Text: strings.Repeat(strconv.Itoa(i%10), 1<<15)}); e != api.OK {
				t.Fatal(e)
			}
		}
	}
	fill()
	for range 500 {
		r.Next(3)
	}
	gone("taken")
	fill()
	for i := range 499 {
		r.Drop(3, i*7%(500-i))
	}
	gone("lost")
	r.Clear(3)
	fill()
	for i := range 499 {
		r.Drop(3, 499-i)
	}
	gone("lost, the last ones first")
	r.Clear(3)
	fill()
	r.Clear(3)
	gone("cleared")
	r.Send(api.Letter{From: 0, To: 3})
	for i := range 100000 {
		r.Send(api.Letter{From: 0, To: 3, Text: strings.Repeat("x", 100+i%7)})
		r.Next(3)
	}
	gone("taken, where one always waits")
	r.Clear(3)
	for i := range 1000 {
		long := strings.Repeat(strconv.Itoa(i), 1<<14)
		r.Send(api.Letter{From: 0, To: 3, Text: long[:20]})
	}
	gone("cut from long texts")
	runtime.KeepAlive(r)
}
