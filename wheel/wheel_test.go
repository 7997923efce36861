package wheel

import (
	"fmt"
	"math"
	"plover/api"
	"runtime"
	"slices"
	"testing"
)

// numbers gives numbers one behind the other, by a short rule.
type numbers struct{ at uint64 }

func (g *numbers) next(below int) int {
	g.at = g.at*6364136223846793005 + 1442695040888963407
	return int(g.at >> 33 % uint64(below))
}

// Numbers at the limits, and beyond them.
var (
	ids     = []int{math.MinInt, math.MinInt + 1, -1 << 32, -1 << 31, -4096, -10, -9, -1, 0, 1, 9, 10, 4095, 4096, 1 << 20, 1<<31 - 1, 1 << 32, math.MaxInt - 1, math.MaxInt}
	ticks   = []int{1, 2, 3, 255, 256, 257, 4095, 4096, 4097, 1<<16 - 1, 1 << 16, 1<<20 - 1, 1 << 20}
	noTicks = []int{math.MinInt, math.MinInt + 1, -1 << 32, -1 << 31, -1 << 20, -4096, -2, -1, 0, 1<<20 + 1, 1<<20 + 2, 1 << 21, 1 << 24, 1<<31 - 1, 1 << 31, 1 << 32, 1<<32 + 1, math.MaxInt - 1, math.MaxInt}
)

// timer and model are the document's words: a list of timers, each with how many ticks it has yet.
type timer struct{ id, left int }

type model struct{ all []timer }

func (m *model) find(id int) int {
	return slices.IndexFunc(m.all, func(t timer) bool { return t.id == id })
}

func (m *model) set(id, ticks int) api.Errno {
	at := m.find(id)
	switch {
	case ticks < 1 || ticks > 1<<20:
		return api.ErrArg
	case at >= 0:
		m.all[at].left = ticks
	case len(m.all) == 4096:
		return api.ErrFull
	default:
		m.all = append(m.all, timer{id, ticks})
	}
	return api.OK
}

func (m *model) cancel(id int) bool {
	at := m.find(id)
	if at >= 0 {
		m.all = slices.Delete(m.all, at, at+1)
	}
	return at >= 0
}

func (m *model) left(id int) (int, api.Errno) {
	if at := m.find(id); at >= 0 {
		return m.all[at].left, api.OK
	}
	return 0, api.ErrNone
}

func (m *model) tick() []int {
	var out []int
	var rest []timer
	for _, t := range m.all {
		if t.left--; t.left == 0 {
			out = append(out, t.id)
		} else {
			rest = append(rest, t)
		}
	}
	m.all = rest
	slices.Sort(out)
	return out
}

// pair is a wheel, and what it must be.
type pair struct {
	t *testing.T
	w *Wheel
	m *model
}

func newPair(t *testing.T) *pair {
	return &pair{t, newWheel(t), &model{}}
}

func newWheel(t *testing.T) *Wheel {
	t.Helper()
	w := New()
	if w == nil {
		t.Fatal("New told nil")
	}
	return w
}

func (p *pair) set(id, ticks int) {
	p.t.Helper()
	want := p.m.set(id, ticks)
	if e := p.w.Set(id, ticks); e != want {
		p.t.Fatalf("Set(%d, %d) = %d, want %d", id, ticks, e, want)
	}
}

func (p *pair) cancel(id int) {
	p.t.Helper()
	want := p.m.cancel(id)
	if has := p.w.Cancel(id); has != want {
		p.t.Fatalf("Cancel(%d) = %v, want %v", id, has, want)
	}
}

func (p *pair) tick() {
	p.t.Helper()
	want := p.m.tick()
	if l := p.w.Tick(); !slices.Equal(l, want) {
		p.t.Fatalf("Tick = %v, want %v", l, want)
	}
}

// same holds all that can be asked without a change.
func (p *pair) same(ids ...int) {
	p.t.Helper()
	if n := p.w.Len(); n != len(p.m.all) {
		p.t.Fatalf("Len = %d, want %d", n, len(p.m.all))
	}
	for _, id := range ids {
		want, wantE := p.m.left(id)
		if n, e := p.w.Left(id); n != want || e != wantE {
			p.t.Fatalf("Left(%d) = %d, %d, want %d, %d", id, n, e, want, wantE)
		}
	}
}

// Wh1: the chapter's example.
func TestExample(t *testing.T) {
	w := newWheel(t)
	if e := w.Set(5, 2); e != api.OK {
		t.Fatal(e)
	}
	if l := w.Tick(); len(l) != 0 {
		t.Errorf("the first tick tells %v", l)
	}
	if l := w.Tick(); !slices.Equal(l, []int{5}) {
		t.Errorf("the second tick tells %v", l)
	}
	if l := w.Tick(); len(l) != 0 || w.Len() != 0 {
		t.Errorf("the third tick tells %v, %d are left", l, w.Len())
	}
}

// Wh1: each call, at one timer and without one.
func TestOne(t *testing.T) {
	for _, id := range ids {
		for _, n := range ticks {
			w := newWheel(t)
			if l, e := w.Left(id); l != 0 || e != api.ErrNone || w.Len() != 0 || w.Cancel(id) {
				t.Fatalf("a new wheel has %d: %d, %d", id, l, e)
			}
			if e := w.Set(id, n); e != api.OK {
				t.Fatalf("Set(%d, %d) = %d", id, n, e)
			}
			if l, e := w.Left(id); l != n || e != api.OK || w.Len() != 1 {
				t.Fatalf("behind Set(%d, %d): Left = %d, %d, Len = %d", id, n, l, e, w.Len())
			}
			if !w.Cancel(id) || w.Cancel(id) || w.Len() != 0 {
				t.Fatalf("Cancel(%d) takes away one just once", id)
			}
			if l, e := w.Left(id); l != 0 || e != api.ErrNone {
				t.Fatalf("behind Cancel(%d): Left = %d, %d", id, l, e)
			}
			if n > 300 {
				continue
			}
			for range n + 2 {
				if l := w.Tick(); len(l) != 0 {
					t.Fatalf("%d runs out, though it was taken away", id)
				}
			}
		}
	}
}

// Wh1: ticks that may not be are refused, whether the number has a timer or none, and nothing changes.
func TestSetTicks(t *testing.T) {
	for _, n := range noTicks {
		for _, id := range ids {
			p := newPair(t)
			p.set(id, n)
			p.same(id)
			p.set(id, 2)
			p.set(1000, 1)
			p.set(id, n)
			p.set(2000, n)
			p.same(id, 1000, 2000)
			p.tick()
			p.same(id, 1000, 2000)
			p.set(id, n)
			p.tick()
			p.same(id, 1000, 2000)
			p.tick()
		}
	}
}

// full is a wheel with as many timers as there may be, of the numbers from 0 on.
func full(t *testing.T) *pair {
	p := newPair(t)
	for id := range 4096 {
		p.set(id, 3+id%5)
		if n := p.w.Len(); n != id+1 {
			t.Fatalf("Len = %d behind %d timers", n, id+1)
		}
	}
	return p
}

// Wh1: there are 4096 timers at the most; one of them can be set again.
func TestFull(t *testing.T) {
	if api.MaxTimers != 4096 || api.MaxDelay != 1<<20 {
		t.Fatal("the limits are others")
	}
	p := full(t)
	for _, id := range []int{math.MinInt, -1, 4096, 4097, math.MaxInt} {
		if e := p.w.Set(id, 1); e != api.ErrFull {
			t.Errorf("Set(%d, 1) = %d at a full wheel", id, e)
		}
		for _, n := range noTicks {
			if e := p.w.Set(id, n); e != api.ErrArg {
				t.Errorf("Set(%d, %d) = %d at a full wheel: both errors meet", id, n, e)
			}
		}
		p.same(id)
	}
	p.set(0, 1)
	p.set(4095, 1<<20)
	p.set(17, 0)
	p.same(0, 1, 17, 4094, 4095, 4096)
	p.cancel(4096)
	p.set(4096, 1) // ErrFull: nothing was taken away
	p.cancel(7)
	p.set(4096, 1)
	p.set(7, 1) // ErrFull
	p.same(7, 4096)
	p.tick() // 0 and 4096
	p.set(-1, 1)
	p.set(-2, 1)
	p.set(-3, 1) // ErrFull
	p.same(-1, -2, -3)
	for range 10 {
		p.tick()
		p.same(-1, 0, 1, 2, 3, 4, 4095, 4096)
	}
	if n := p.w.Len(); n != 1 {
		t.Errorf("%d are left", n)
	}
}

// Wh1: a tick at which all timers run out tells all, rising, and none is left.
func TestAllAtOnce(t *testing.T) {
	for _, step := range []int{1, -1, 5, 4095, 1 << 40, -3 << 50} {
		p := newPair(t)
		for i := range 4096 {
			p.set(step*(i*1001%4096), 2)
		}
		p.tick()
		p.same(0, step, 4095*step)
		l := p.w.Tick()
		if len(l) != 4096 || !slices.IsSorted(l) || len(slices.Compact(slices.Clone(l))) != 4096 {
			t.Errorf("steps of %d: %d run out", step, len(l))
		}
		p.m.tick()
		p.same(0, step, 4095*step)
		p.set(1, 1)
		p.tick()
	}
}

// Wh1: numbers of all kinds are told rising, whatever their timers' order was.
func TestRising(t *testing.T) {
	g := numbers{3}
	for range 200 {
		l := slices.Clone(ids)
		for i := range l {
			j := i + g.next(len(l)-i)
			l[i], l[j] = l[j], l[i]
		}
		p := newPair(t)
		for i, id := range l {
			p.set(id, 1+g.next(3))
			if i%3 == 0 {
				p.set(l[g.next(i+1)], 1+g.next(3))
			}
			if i%4 == 0 {
				p.cancel(l[g.next(i+1)])
			}
		}
		for range 4 {
			p.same(ids...)
			p.tick()
		}
	}
}

// Wh2: a timer runs out once, just at the tick that was said, at each count of ticks and from each tick on.
func TestJustThen(t *testing.T) {
	for from := range 70 {
		w := newWheel(t)
		for range from {
			w.Tick()
		}
		for n := 1; n <= 70; n++ {
			if e := w.Set(-n, n); e != api.OK {
				t.Fatal(e)
			}
		}
		for n := 1; n <= 140; n++ {
			var want []int
			if n <= 70 {
				want = []int{-n}
			}
			if l := w.Tick(); !slices.Equal(l, want) {
				t.Fatalf("from %d: tick %d tells %v", from, n, l)
			}
			if w.Len() != max(0, 70-n) {
				t.Fatalf("from %d: %d are left behind %d", from, w.Len(), n)
			}
		}
	}
}

// Wh2: the longest delay, and those just ahead of it and round about powers of two.
func TestLongDelays(t *testing.T) {
	w := newWheel(t)
	at := map[int][]int{}
	add := func(id, from, n int) {
		if e := w.Set(id, n); e != api.OK {
			t.Fatalf("Set(%d, %d) = %d", id, n, e)
		}
		at[from+n] = append(at[from+n], id)
	}
	for b := range 20 {
		for d := range 3 {
			add(10*b+d, 0, max(1, 1<<b-1+d))
		}
	}
	add(300, 0, 1<<20-1)
	add(301, 0, 1<<20)
	for now := 1; now <= 3<<20; now++ {
		if l := w.Tick(); !slices.Equal(l, at[now]) {
			t.Fatalf("tick %d tells %v, want %v", now, l, at[now])
		}
		if now == 12345 || now == 1<<20-1 || now == 1<<20+7 {
			add(400+now, now, 1<<20)
			add(401+now, now, 1<<20-1)
		}
	}
	if w.Len() != 0 {
		t.Errorf("%d are left", w.Len())
	}
}

// Wh1, Wh2: a number that is set again has that timer alone, also for the same tick, a nearer and a farther one.
func TestSetAgain(t *testing.T) {
	for first := 1; first <= 6; first++ {
		for wait := range first {
			for second := 1; second <= 8; second++ {
				for _, other := range []int{0, first, wait + second} {
					p := newPair(t)
					p.set(4, first)
					if other > 0 {
						p.set(5, other)
					}
					for range wait {
						p.tick()
					}
					p.set(4, second)
					p.same(4, 5)
					for range 16 {
						p.tick()
						p.same(4, 5)
					}
				}
			}
		}
	}
}

// Wh1, Wh2: all short rows of calls at two numbers, with all that can be asked behind each.
func TestShortRows(t *testing.T) {
	type call func(p *pair)
	calls := []call{
		func(p *pair) { p.tick() },
		func(p *pair) { p.set(1, 1) },
		func(p *pair) { p.set(1, 2) },
		func(p *pair) { p.set(1, 0) },
		func(p *pair) { p.set(-2, 1) },
		func(p *pair) { p.set(-2, 3) },
		func(p *pair) { p.cancel(1) },
		func(p *pair) { p.cancel(-2) },
	}
	var row []int
	var rows func(depth int)
	rows = func(depth int) {
		if depth == 0 {
			p := newPair(t)
			for _, c := range row {
				calls[c](p)
				p.same(1, -2, 0)
			}
			for range 4 {
				p.tick()
				p.same(1, -2)
			}
			if t.Failed() {
				t.Fatal(row)
			}
			return
		}
		for c := range calls {
			row = append(row, c)
			rows(depth - 1)
			row = row[:len(row)-1]
		}
	}
	for depth := range 6 {
		rows(depth)
	}
}

// Wh1, Wh2: long rows of calls, of few numbers and of many.
func TestLongRows(t *testing.T) {
	for seed := range 40 {
		g := numbers{uint64(seed)}
		p := newPair(t)
		many := []int{3, 20, 300}[seed%3]
		far := []int{4, 30, 500}[g.next(3)]
		for range 4000 {
			id := g.next(many) - many/2
			switch g.next(8) {
			case 0, 1, 2:
				p.set(id, 1+g.next(far))
			case 3:
				p.cancel(id)
			case 4:
				p.set(id, noTicks[g.next(len(noTicks))])
			default:
				p.tick()
			}
			p.same(id, g.next(many)-many/2)
		}
	}
}

// Wh1: long rows of calls at a wheel that is full, or nearly so.
func TestLongRowsFull(t *testing.T) {
	g := numbers{77}
	p := full(t)
	for range 3000 {
		id := g.next(4300) - 100
		switch g.next(16) {
		case 0:
			p.cancel(id)
		case 1:
			p.tick()
			for p.w.Len() < 4090 {
				p.set(g.next(math.MaxInt32), 1+g.next(1<<20))
			}
		default:
			p.set(id, 1+g.next(2000))
		}
		p.same(id)
	}
}

// R2: a call that is refused, and one that only asks, change nothing that a later call could tell.
func TestRefused(t *testing.T) {
	asked, quiet := full(t), full(t)
	asked.cancel(3)
	quiet.cancel(3)
	for round := range 12 {
		for _, n := range noTicks {
			asked.set(3, n)
			asked.set(5, n)
		}
		asked.cancel(3)
		asked.cancel(-1)
		asked.same(3, 5, -1)
		if round == 0 {
			asked.set(9999, 50)
			asked.set(10000, 1) // ErrFull
			quiet.set(9999, 50)
		}
		if a, b := asked.w.Tick(), quiet.w.Tick(); !slices.Equal(a, b) {
			t.Fatalf("round %d: %v and %v", round, a, b)
		}
		asked.m.tick()
		quiet.m.tick()
		asked.same(5, 9999, 10000)
		quiet.same(5, 9999, 10000)
	}
}

// R3: what Tick tells is new memory: changing it, also behind its end, changes nothing.
func TestNewMemory(t *testing.T) {
	w := newWheel(t)
	var told [][]int
	for round := range 50 {
		for i := range 20 {
			w.Set(round*100+i, 1)
			w.Set(round*100+50+i, 2)
		}
		l := w.Tick()
		want := 20
		if round > 0 {
			want = 40
		}
		if len(l) != want {
			t.Fatalf("round %d: %v", round, l)
		}
		for i := range l {
			if l[i] < 0 {
				t.Fatalf("round %d: %v was changed", round, l)
			}
		}
		for i := range l[:cap(l)] {
			l[:cap(l)][i] = -1 - round
		}
		told = append(told, l)
	}
	for round, l := range told {
		for _, n := range l {
			if n != -1-round {
				t.Fatalf("what round %d told shares memory with others", round)
			}
		}
	}
}

// R4: wheels are apart from one another, and what one tells hangs on its calls alone.
func TestApart(t *testing.T) {
	row := func() string {
		one, two := newWheel(t), newWheel(t)
		s := ""
		for i := range 60 {
			s += fmt.Sprint(one.Set(i%7, 1+i%5), two.Set(i%11, 1+i%3), one.Cancel(i%3))
			if i%2 == 0 {
				s += fmt.Sprint(one.Tick())
			}
			if i%3 == 0 {
				s += fmt.Sprint(two.Tick())
			}
			n, e := one.Left(4)
			s += fmt.Sprintln(one.Len(), two.Len(), n, e)
		}
		return s
	}
	first := row()
	for range 100 {
		if row() != first {
			t.Fatal("the same calls were answered otherwise")
		}
	}
	one, two := newWheel(t), newWheel(t)
	one.Set(1, 1)
	if two.Len() != 0 || len(two.Tick()) != 0 || two.Cancel(1) {
		t.Error("a wheel has another one's timer")
	}
	if l := one.Tick(); !slices.Equal(l, []int{1}) {
		t.Error(l)
	}
}

// R4: timers set in whichever order are told alike.
func TestAnyOrder(t *testing.T) {
	for from := range 24 {
		w := newWheel(t)
		rest := []int{8, 1, 5, 3}
		for n, k := 4, from; n > 0; n-- {
			i := k % n
			k /= n
			w.Set(rest[i], 1)
			rest = slices.Delete(rest, i, i+1)
		}
		if l := w.Tick(); !slices.Equal(l, []int{1, 3, 5, 8}) {
			t.Errorf("order %d: %v", from, l)
		}
	}
}

// R1, Wh1: a wheel that New did not give: ErrArg, false, 0, nothing; and it changes none that New gave.
func TestNotGiven(t *testing.T) {
	w := newWheel(t)
	w.Set(3, 2)
	copied := *w
	empty := *newWheel(t)
	for name, n := range map[string]*Wheel{"nil": nil, "zero": {}, "copied": &copied, "copied, without timers": &empty} {
		for range 3 {
			for _, id := range append([]int{3}, ids...) {
				for _, k := range append(slices.Clone(ticks), noTicks...) {
					if e := n.Set(id, k); e != api.ErrArg {
						t.Errorf("%s: Set(%d, %d) = %d", name, id, k, e)
					}
				}
				if n.Cancel(id) {
					t.Errorf("%s: Cancel(%d)", name, id)
				}
				if l, e := n.Left(id); l != 0 || e != api.ErrArg {
					t.Errorf("%s: Left(%d) = %d, %d", name, id, l, e)
				}
			}
			if l := n.Tick(); len(l) != 0 || n.Len() != 0 {
				t.Errorf("%s: Tick = %v, Len = %d", name, l, n.Len())
			}
		}
	}
	if n, e := w.Left(3); n != 2 || e != api.OK || w.Len() != 1 {
		t.Errorf("the wheel that was copied has changed: %d, %d", n, e)
	}
	w.Tick()
	if l := w.Tick(); !slices.Equal(l, []int{3}) {
		t.Error(l)
	}
}

// heap is how many bytes are in use.
func heap() int {
	runtime.GC()
	var m runtime.MemStats
	runtime.ReadMemStats(&m)
	return int(m.HeapAlloc)
}

// Wh1: nothing is kept of timers that ran out, were taken away, or set again.
func TestKeptMemory(t *testing.T) {
	w := newWheel(t)
	before := heap()
	for i := range 200000 {
		w.Set(i, 1<<20)
		w.Set(i, 1<<20-i%1000)
		w.Cancel(i)
		w.Set(-i, 1+i%3)
		w.Tick()
	}
	if n := heap() - before; n > 1<<16 {
		t.Errorf("%d bytes are kept of timers that are gone", n)
	}
	for id := range 4096 {
		w.Set(id, 1<<20-id)
	}
	if n := heap() - before; n > 1<<21 {
		t.Errorf("%d bytes are kept of a full wheel", n)
	}
	runtime.KeepAlive(w)
}
