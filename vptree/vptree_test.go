package vptree

import (
	"fmt"
	"maps"
	"math"
	"plover/api"
	"plover/vec"
	"runtime"
	"slices"
	"testing"
)

// numbers gives numbers one behind the other, by a short rule.
type numbers struct{ at uint64 }

func (g *numbers) next(below int) int {
	g.at = g.at*6364136223846793005 + 1442695040888963407
	return int(g.at >> 33 % uint64(below))
}

// place gives vectors of a kind: many at one place, on a grid of few places, on a line, in two heaps, anywhere, or at the outermost places.
func (g *numbers) place(kind, dim int) []int {
	v := make([]int, dim)
	heap := g.next(2) * 1000000
	for i := range v {
		switch kind {
		case 0:
			v[i] = 7
		case 1:
			v[i] = g.next(3)
		case 2:
			v[i] = v[0] * i
			if i == 0 {
				v[i] = g.next(1000)
			}
		case 3:
			v[i] = heap + g.next(50)
		case 4:
			v[i] = g.next(1<<31)*2 + g.next(2) - 1<<31
		default:
			v[i] = []int{-1 << 31, -1<<31 + 1, 0, 1<<31 - 2, 1<<31 - 1}[g.next(5)]
		}
	}
	return v
}

const kinds = 6

// ids are numbers of points that are likely to go wrong, and others.
var ids = []int{math.MinInt, math.MinInt + 1, -1 << 32, -2, -1, 0, 1, 2, 1 << 31, 1 << 32, 1<<32 + 1, math.MaxInt - 1, math.MaxInt}

func (g *numbers) id(of int) int {
	if n := g.next(of); n >= len(ids) {
		return n * 1000003
	} else {
		return ids[n]
	}
}

// words are points by the document's words: all else is reckoned from them.
type words struct {
	dim    int
	points map[int][]int
}

func (w *words) isVector(v []int) bool {
	for _, n := range v {
		if n < -2147483648 || n > 2147483647 {
			return false
		}
	}
	return len(v) == w.dim
}

func (w *words) put(p api.Point) (bool, api.Errno) {
	if !w.isVector(p.V) {
		return false, api.ErrDim
	}
	_, was := w.points[p.Id]
	if len(w.points) == 512 && !was {
		return false, api.ErrFull
	}
	w.points[p.Id] = slices.Clone(p.V)
	return was, api.OK
}

func (w *words) all() []api.Point {
	var l []api.Point
	for _, id := range slices.Sorted(maps.Keys(w.points)) {
		l = append(l, api.Point{Id: id, V: w.points[id]})
	}
	return l
}

// within are the points that are not farther from a vector than a limit, in order.
func (w *words) within(v []int, limit int) []api.Hit {
	var l []api.Hit
	for id, p := range w.points {
		dist := 0
		for i := range p {
			if p[i] > v[i] {
				dist += p[i] - v[i]
			} else {
				dist += v[i] - p[i]
			}
		}
		if dist <= limit {
			l = append(l, api.Hit{Id: id, Dist: dist})
		}
	}
	slices.SortFunc(l, func(a, b api.Hit) int {
		if a.Dist < b.Dist || a.Dist == b.Dist && a.Id < b.Id {
			return -1
		}
		return 1
	})
	return l
}

// top is what the document says word by word: layer 5's Search of the points that are near enough.
func (w *words) top(v []int, k, limit int) ([]api.Hit, api.Errno) {
	if !w.isVector(v) {
		return nil, api.ErrDim
	}
	if k < 1 || k > 64 {
		return nil, api.ErrK
	}
	var near []api.Point
	for id, p := range w.points {
		if dist, _ := vec.Dist(p, v); dist <= limit {
			near = append(near, api.Point{Id: id, V: p})
		}
	}
	return vec.Search(near, v, k)
}

// both is a tree, and what it is by the document's words.
type both struct {
	t *testing.T
	x *Tree
	w *words
}

func newBoth(t *testing.T, dim int) *both {
	t.Helper()
	x, e := New(dim)
	if e != api.OK || x == nil {
		t.Fatalf("New(%d) = %v, %d", dim, x, e)
	}
	return &both{t, x, &words{dim, map[int][]int{}}}
}

// of puts points in: their numbers are their places.
func of(t *testing.T, l ...[]int) *both {
	t.Helper()
	b := newBoth(t, len(l[0]))
	for id, v := range l {
		b.put(id, v...)
	}
	return b
}

func (b *both) put(id int, v ...int) {
	b.t.Helper()
	want, err := b.w.put(api.Point{Id: id, V: v})
	if was, e := b.x.Put(api.Point{Id: id, V: v}); was != want || e != err {
		b.t.Fatalf("Put(%d at %v) = %v, %d; want %v, %d", id, v, was, e, want, err)
	}
}

func (b *both) drop(id int) {
	b.t.Helper()
	_, want := b.w.points[id]
	delete(b.w.points, id)
	if was := b.x.Drop(id); was != want {
		b.t.Fatalf("Drop(%d) = %v; want %v", id, was, want)
	}
}

func (b *both) build() {
	b.t.Helper()
	if e := b.x.Build(); e != api.OK {
		b.t.Fatalf("Build() = %d", e)
	}
}

func (b *both) get(id int) {
	b.t.Helper()
	want, there := b.w.points[id]
	err := api.OK
	if !there {
		err = api.ErrNone
	}
	if v, e := b.x.Get(id); !slices.Equal(v, want) || e != err {
		b.t.Fatalf("Get(%d) = %v, %d; want %v, %d", id, v, e, want, err)
	}
}

func (b *both) top(v []int, k, limit int) {
	b.t.Helper()
	want, err := b.w.top(v, k, limit)
	if l, e := b.x.Top(v, k, limit); !slices.Equal(l, want) || e != err {
		b.t.Fatalf("Top(%v, %d, %d) = %v, %d; want %v, %d; of %v", v, k, limit, l, e, want, err, b.w.points)
	}
}

// look sees to how many there are, all of them, each, and some that are not there.
func (b *both) look() {
	b.t.Helper()
	if b.x.Len() != len(b.w.points) {
		b.t.Fatalf("Len() = %d; want %d", b.x.Len(), len(b.w.points))
	}
	if l := b.x.Points(); !samePoints(l, b.w.all()) {
		b.t.Fatalf("Points() = %v; want %v", l, b.w.all())
	}
	for id := range b.w.points {
		b.get(id)
	}
	for _, id := range ids {
		b.get(id)
	}
}

// round sees to what is nearest to a vector: the first ones, more than there are, and within limits around each distance.
func (b *both) round(v []int) {
	b.t.Helper()
	all := b.w.within(v, math.MaxInt)
	for _, k := range []int{1, 2, 7, 63, 64} {
		for i := 0; i < len(all); i += 1 + len(all)/5 {
			for limit := all[i].Dist - 1; limit <= all[i].Dist+1; limit++ {
				b.topOf(all, v, k, limit)
			}
		}
		for _, limit := range []int{math.MinInt, math.MinInt + 1, -1 << 40, -1, 0, 1, 1 << 31, 1 << 40, math.MaxInt - 1, math.MaxInt} {
			b.topOf(all, v, k, limit)
		}
	}
}

// ask sees to what is nearest to a vector within a limit that is the distance of a point, or one less.
func (b *both) ask(g *numbers, v []int) {
	b.t.Helper()
	all := b.w.within(v, math.MaxInt)
	limit := math.MaxInt
	if len(all) > 0 {
		limit = all[g.next(len(all))].Dist - g.next(2)
	}
	b.topOf(all, v, 1+g.next(64), limit)
	b.top(v, 1+g.next(64), limit)
}

// topOf sees to what is nearest, of all points in their order from the vector.
func (b *both) topOf(all []api.Hit, v []int, k, limit int) {
	b.t.Helper()
	n := 0
	for n < len(all) && n < k && all[n].Dist <= limit {
		n++
	}
	if l, e := b.x.Top(v, k, limit); !slices.Equal(l, all[:n]) || e != api.OK {
		b.t.Fatalf("Top(%v, %d, %d) = %v, %d; want %v; of %v", v, k, limit, l, e, all[:n], b.w.points)
	}
}

func samePoints(a, b []api.Point) bool {
	return slices.EqualFunc(a, b, func(a, b api.Point) bool {
		return a.Id == b.Id && slices.Equal(a.V, b.V)
	})
}

// Vp1: for 1 to 16 numbers, and nothing else; a new tree has no points.
func TestNew(t *testing.T) {
	for dim := 1; dim <= 16; dim++ {
		b := newBoth(t, dim)
		b.look()
		b.round(make([]int, dim))
		b.build()
		b.look()
		b.round(make([]int, dim))
		for _, id := range ids {
			b.drop(id)
		}
	}
	for _, dim := range []int{0, -1, -16, 17, 18, 512, 1 << 32, 1<<32 + 1, math.MaxInt, math.MinInt, math.MinInt + 1} {
		if x, e := New(dim); x != nil || e != api.ErrArg {
			t.Errorf("New(%d) = %v, %d", dim, x, e)
		}
	}
}

// Vp1, Vp2: the document's example, and others reckoned by hand, with the tree built at each time.
func TestKnown(t *testing.T) {
	for when := range 5 {
		x, _ := New(1)
		for i, p := range []api.Point{{Id: 3, V: []int{9}}, {Id: 1, V: []int{7}}, {Id: 2, V: []int{5}}, {Id: 1, V: []int{0}}} {
			if i == when {
				x.Build()
			}
			if was, e := x.Put(p); was != (i == 3) || e != api.OK {
				t.Errorf("Put(%v) = %v, %d", p, was, e)
			}
		}
		if when == 4 {
			x.Build()
		}
		for _, c := range []struct {
			v, k, limit int
			want        []api.Hit
		}{
			{4, 2, 4, []api.Hit{{Id: 2, Dist: 1}, {Id: 1, Dist: 4}}},
			{4, 3, 4, []api.Hit{{Id: 2, Dist: 1}, {Id: 1, Dist: 4}}},
			{4, 3, 5, []api.Hit{{Id: 2, Dist: 1}, {Id: 1, Dist: 4}, {Id: 3, Dist: 5}}},
			{4, 1, 4, []api.Hit{{Id: 2, Dist: 1}}},
			{4, 2, 3, []api.Hit{{Id: 2, Dist: 1}}},
			{4, 2, 1, []api.Hit{{Id: 2, Dist: 1}}},
			{4, 64, 0, nil},
			{5, 64, 0, []api.Hit{{Id: 2}}},
			{5, 64, -1, nil},
			{7, 64, 2, []api.Hit{{Id: 2, Dist: 2}, {Id: 3, Dist: 2}}},
			{7, 1, 2, []api.Hit{{Id: 2, Dist: 2}}},
			{-1 << 31, 1, math.MaxInt, []api.Hit{{Id: 1, Dist: 1 << 31}}},
		} {
			if l, e := x.Top([]int{c.v}, c.k, c.limit); !slices.Equal(l, c.want) || e != api.OK {
				t.Errorf("built ahead of %d: Top(%d, %d, %d) = %v, %d; want %v", when, c.v, c.k, c.limit, l, e, c.want)
			}
		}
		if l := x.Points(); fmt.Sprint(l) != "[{1 [0]} {2 [5]} {3 [9]}]" || x.Len() != 3 {
			t.Errorf("Points() = %v, Len() = %d", l, x.Len())
		}
		if !x.Drop(2) || x.Drop(2) || x.Drop(4) || fmt.Sprint(x.Points()) != "[{1 [0]} {3 [9]}]" {
			t.Errorf("Drop leaves %v", x.Points())
		}
		if v, e := x.Get(2); len(v) != 0 || e != api.ErrNone {
			t.Errorf("Get(2) = %v, %d", v, e)
		}
	}
}

// bad are numbers that are no vector of so many.
func bad(dim int) [][]int {
	var all [][]int
	for n := range 40 {
		if n != dim {
			all = append(all, make([]int, n))
		}
	}
	all = append(all, nil, make([]int, 1<<10))
	for _, n := range []int{1 << 31, -1<<31 - 1, 1 << 32, -1 << 32, 1<<32 + 1, 1 << 62, math.MaxInt, math.MinInt} {
		for at := range dim {
			v := make([]int, dim)
			v[at] = n
			all = append(all, v)
		}
	}
	return all
}

// Vp1: what is no vector of so many numbers is not put in, whether its number is there or not, nor takes a point away.
func TestPutRefused(t *testing.T) {
	for _, dim := range []int{1, 2, 3, 15, 16} {
		b := newBoth(t, dim)
		for built := range 4 {
			for _, v := range bad(dim) {
				for _, id := range []int{0, 1, 7, -1} {
					if was, e := b.x.Put(api.Point{Id: id, V: v}); was || e != api.ErrDim {
						t.Fatalf("Put(%d at %v) = %v, %d; for %d numbers", id, v, was, e, dim)
					}
				}
			}
			b.look()
			b.round(make([]int, dim))
			for _, n := range []int{0, -1 << 31, 1<<31 - 1} { // the outermost ones may be
				b.put(built, slices.Repeat([]int{n}, dim)...)
			}
			if built == 1 {
				b.build()
			}
		}
		b.look()
		b.round(make([]int, dim))
	}
}

// Vp1: 512 points; then those that are there may go elsewhere, and there is room again for each that was dropped.
func TestFull(t *testing.T) {
	for _, when := range []int{-1, 0, 100, 511, 512} { // how many there are when the tree is built
		b := newBoth(t, 1)
		for id := range 512 {
			if id == when {
				b.build()
			}
			b.put(id, id)
		}
		if when == 512 {
			b.build()
		}
		full := func() {
			t.Helper()
			for _, id := range []int{512, -1, math.MaxInt, math.MinInt} {
				for range 2 {
					b.put(id, 5)
				}
				if _, e := b.x.Put(api.Point{Id: id, V: []int{5}}); e != api.ErrFull {
					t.Fatalf("of a tree that is full, Put answers %d", e)
				}
				for _, v := range bad(1) {
					b.put(id, v...) // ErrDim, ahead of ErrFull
				}
			}
			for _, v := range bad(1) {
				b.put(511, v...)
			}
		}
		full()
		for id := range 512 {
			b.put(id, id+1)
		}
		full()
		b.look()
		b.round([]int{250})
		for id := range 512 {
			b.drop(id * 7 % 512)
			b.put(1000+id, 1)
			full()
		}
		b.look()
		b.round([]int{250})
		b.build()
		full()
		b.drop(1000)
		b.build()
		b.put(0, 0)
		full()
		b.look()
	}
}

// Vp1: each int may be a number, and each is another point's.
func TestNumbers(t *testing.T) {
	for when := range len(ids) + 1 {
		b := newBoth(t, 2)
		for i, id := range ids {
			if i == when {
				b.build()
			}
			b.put(id, i, -i)
			b.put(id, i*i, -i)
		}
		b.look()
		b.round([]int{40, 0})
		for i := range ids {
			b.drop(ids[i*5%len(ids)])
			b.drop(ids[i*5%len(ids)])
			b.look()
			b.round([]int{40, 0})
		}
	}
}

// Vp1: a point that is put in again is at its new place alone, wherever it stood.
func TestInPlace(t *testing.T) {
	for how := range 16 {
		b := of(t, []int{0, 0}, []int{5, 5}, []int{9, 1})
		for step, v := range [][]int{{1 << 20, 0}, {0, 0}, {0, 0}, {5, 5}} {
			if how>>step&1 == 1 {
				b.build()
			}
			b.put(0, v...)
			b.look()
			b.round([]int{0, 0})
			b.round([]int{1 << 20, 0})
			b.round([]int{5, 5})
		}
		for range 2 {
			b.drop(0)
			b.look()
			b.round([]int{5, 5})
			b.build()
		}
	}
}

// Vp2: what is refused, and what is told ahead, whatever the limit and the points are.
func TestTopRefused(t *testing.T) {
	for _, dim := range []int{1, 2, 16} {
		b := newBoth(t, dim)
		for n := range 12 {
			good := slices.Repeat([]int{n}, dim)
			for _, limit := range []int{-1, 0, 100, math.MaxInt, math.MinInt} {
				for _, k := range []int{0, -1, -64, math.MinInt, 65, 66, 512, 1 << 32, 1<<32 + 1, math.MaxInt} {
					if l, e := b.x.Top(good, k, limit); len(l) != 0 || e != api.ErrK {
						t.Fatalf("Top(%v, %d, %d) = %v, %d", good, k, limit, l, e)
					}
				}
				for _, k := range []int{1, 64, 0, 65, -1, math.MaxInt} {
					for _, v := range bad(dim) {
						if l, e := b.x.Top(v, k, limit); len(l) != 0 || e != api.ErrDim {
							t.Fatalf("Top(%v, %d, %d) = %v, %d", v, k, limit, l, e)
						}
					}
				}
			}
			b.put(n, good...)
			if n%4 == 2 {
				b.build()
			}
		}
		b.look()
	}
}

// Vp2: each k from 1 to 64, of fewer points and of more.
func TestTopK(t *testing.T) {
	for _, n := range []int{0, 1, 2, 3, 30, 63, 64, 65, 512} {
		b := newBoth(t, 1)
		for id := range n {
			b.put(id, id*7919%n/3)
		}
		for range 2 {
			for k := 1; k <= 64; k++ {
				for _, limit := range []int{0, 5, 20, 21, 1000} {
					b.top([]int{4}, k, limit)
				}
			}
			b.build()
		}
	}
}

// Vp2: each limit, also below 0, of points at each distance.
func TestTopLimit(t *testing.T) {
	b := of(t, []int{50, 0}, []int{50, 1}, []int{52, 0}, []int{53, -3}, []int{50, 10}, []int{20, 0}, []int{50, 0}, []int{0, 50})
	for range 2 {
		for limit := -3; limit <= 103; limit++ {
			for _, k := range []int{1, 2, 3, 7, 8, 9, 64} {
				b.top([]int{50, 0}, k, limit)
				b.top([]int{49, 0}, k, limit)
			}
		}
		b.build()
	}
	far := 16 * (1<<32 - 1) // no two vectors are farther from one another
	b = of(t, slices.Repeat([]int{-1 << 31}, 16), slices.Repeat([]int{1<<31 - 1}, 16), make([]int, 16))
	for range 2 {
		for _, v := range [][]int{b.w.points[0], b.w.points[1], b.w.points[2]} {
			b.round(v)
			for limit := far - 2; limit <= far+2; limit++ {
				b.top(v, 64, limit)
			}
		}
		b.build()
	}
}

// Vp2: Build changes nothing that any call tells, of points all put in since, all built, and some of each, with some dropped.
func TestBuild(t *testing.T) {
	var g numbers
	for n := range 60 {
		b := newBoth(t, 2)
		v := g.place(1, 2)
		for id := range n {
			b.put(id, g.place(1+n%5, 2)...)
			if id == n/2 {
				b.build()
			}
		}
		for id := 0; id < n; id += 3 {
			b.drop(id)
		}
		tell := func() string {
			l, e := b.x.Top(v, 64, 10)
			one, e1 := b.x.Get(1)
			return fmt.Sprint(b.x.Len(), b.x.Points(), l, e, one, e1)
		}
		was := tell()
		for range 3 {
			b.build()
			if is := tell(); is != was {
				t.Fatalf("built anew, the tree tells %s; it told %s", is, was)
			}
			b.look()
			b.round(v)
		}
	}
}

// Vp3: all short rows of calls: two numbers, three places, dropped, built anew.
func TestShortRows(t *testing.T) {
	var calls []func(b *both)
	for id := range 2 {
		calls = append(calls, func(b *both) { b.drop(id) })
		for place := range 3 {
			calls = append(calls, func(b *both) { b.put(id, place) })
		}
	}
	calls = append(calls, (*both).build)
	var row func(done []func(b *both), more int)
	row = func(done []func(b *both), more int) {
		b := newBoth(t, 1)
		for _, do := range done {
			do(b)
		}
		for v := range 3 {
			all := b.w.within([]int{v}, math.MaxInt)
			for limit := -1; limit <= 2; limit++ {
				b.topOf(all, []int{v}, 1, limit)
				b.topOf(all, []int{v}, 2, limit)
			}
		}
		if b.x.Len() != len(b.w.points) || !samePoints(b.x.Points(), b.w.all()) {
			t.Fatalf("Points() = %v, Len() = %d; want %v", b.x.Points(), b.x.Len(), b.w.points)
		}
		if more == 0 {
			return
		}
		for _, do := range calls {
			row(append(slices.Clone(done), do), more-1)
		}
	}
	row(nil, 5)
}

// Vp3: all trees of up to four points on a small grid, from all its places.
func TestSmallTrees(t *testing.T) {
	var grid [][]int
	for x := range 3 {
		for y := range 2 {
			grid = append(grid, []int{x, y})
		}
	}
	var each func(l [][]int)
	each = func(l [][]int) {
		if len(l) > 0 {
			b := of(t, l...)
			b.build()
			for _, v := range grid {
				all := b.w.within(v, math.MaxInt)
				for limit := range 4 {
					for k := 1; k <= len(l); k++ {
						b.topOf(all, v, k, limit)
					}
				}
			}
		}
		if len(l) < 4 {
			for _, v := range grid {
				each(append(slices.Clone(l), v))
			}
		}
	}
	each(nil)
}

// Vp3: long rows of calls, of vectors of all numbers of numbers and of each kind of places, of few points and of many, built often, seldom and never.
func TestRows(t *testing.T) {
	var g numbers
	for dim := 1; dim <= 16; dim++ {
		for kind := range kinds {
			for _, many := range []int{4, 40, 700} {
				b := newBoth(t, dim)
				every := []int{3, 50, 1 << 30}[g.next(3)] // how seldom it is built
				for i := range 2 * many {
					switch {
					case g.next(every) == 0:
						b.build()
					case g.next(4) == 0:
						b.drop(g.id(many))
					default:
						b.put(g.id(many), g.place(kind, dim)...)
					}
					if i%(1+many/40) == 0 {
						b.ask(&g, g.place(kind, dim))
					}
				}
				b.look()
				b.round(g.place(kind, dim))
			}
		}
	}
}

// Vp3: a full tree, of each kind of places, with more and more points dropped, and put in elsewhere, since it was built.
func TestFullTrees(t *testing.T) {
	var g numbers
	for _, dim := range []int{1, 2, 3, 8, 16} {
		for kind := range kinds {
			b := newBoth(t, dim)
			for id := range 512 {
				b.put(id, g.place(kind, dim)...)
			}
			b.build()
			for range 8 {
				for range 3 {
					b.round(g.place(kind, dim))
					b.round(g.place(4, dim))
				}
				for range 60 {
					b.drop(g.next(512))
					b.put(g.next(512), g.place(kind, dim)...)
				}
			}
			b.look()
		}
	}
}

// R1: a tree that New did not give, and none at all.
func TestNotGiven(t *testing.T) {
	b := of(t, []int{1, 2}, []int{3, 4})
	b.build()
	b.put(2, 5, 6)
	copied := *b.x
	for name, x := range map[string]*Tree{"nil": nil, "zero": {}, "copied": &copied} {
		for _, v := range [][]int{nil, {}, {1}, {1, 2}, {1 << 40, 1}, make([]int, 17)} {
			for _, id := range []int{0, 2, 3} {
				if was, e := x.Put(api.Point{Id: id, V: v}); was || e != api.ErrArg {
					t.Errorf("%s: Put(%d at %v) = %v, %d", name, id, v, was, e)
				}
			}
			for _, k := range []int{0, 1, 65} {
				if l, e := x.Top(v, k, 5); len(l) != 0 || e != api.ErrArg {
					t.Errorf("%s: Top(%v, %d) = %v, %d", name, v, k, l, e)
				}
			}
		}
		for id := -1; id <= 3; id++ {
			if x.Drop(id) {
				t.Errorf("%s: Drop(%d)", name, id)
			}
			if v, e := x.Get(id); len(v) != 0 || e != api.ErrArg {
				t.Errorf("%s: Get(%d) = %v, %d", name, id, v, e)
			}
		}
		if x.Len() != 0 || len(x.Points()) != 0 || x.Build() != api.ErrArg {
			t.Errorf("%s: Len() = %d, Points() = %v, Build() = %d", name, x.Len(), x.Points(), x.Build())
		}
	}
	b.look()
	b.round([]int{3, 3})
}

// R3: what is handed in is neither kept nor changed, nor read beyond its end, and an answer is nobody else's.
func TestMemory(t *testing.T) {
	for built := range 2 {
		b := newBoth(t, 2)
		room := []int{3, 4, 1 << 40}
		b.put(1, room[:2]...)
		b.put(2, room[:2]...)
		if built == 1 {
			b.build()
		}
		room[0], room[1] = 77, 1<<40
		b.look()
		b.round([]int{3, 4})
		if room[2] != 1<<40 {
			t.Fatal("Put has changed what stands behind a vector")
		}
		room = []int{3, 3, 1 << 40}
		first, _ := b.x.Top(room[:2], 2, 9)
		second, _ := b.x.Top(room[:2], 2, 9)
		if !slices.Equal(room, []int{3, 3, 1 << 40}) {
			t.Fatalf("Top has changed what was handed in: %v", room)
		}
		spoil(first, api.Hit{Id: 9, Dist: -1})
		if !slices.Equal(second, []api.Hit{{Id: 1, Dist: 1}, {Id: 2, Dist: 1}}) {
			t.Fatalf("an answer was changed with another one: %v", second)
		}
		one, _ := b.x.Get(1)
		other, _ := b.x.Get(1)
		spoil(one, 9)
		all, again := b.x.Points(), b.x.Points()
		spoil(all[0].V, 9)
		if !slices.Equal(other, []int{3, 4}) || fmt.Sprint(again) != "[{1 [3 4]} {2 [3 4]}]" || !slices.Equal(all[1].V, []int{3, 4}) {
			t.Fatalf("answers were changed with others: %v, %v, %v", other, again, all)
		}
		spoil(all, api.Point{Id: 9, V: []int{9}})
		b.look()
		b.round([]int{3, 4})
	}
}

// spoil writes into all of a list, and into the room behind it.
func spoil[T any](l []T, by T) {
	l = l[:cap(l)]
	for i := range l {
		l[i] = by
	}
}

// R4: a tree hangs on the calls on it alone, not on other trees.
func TestApart(t *testing.T) {
	a, b := newBoth(t, 2), newBoth(t, 2)
	for id := range 20 {
		a.put(id, id, 1)
		b.put(id, 2, id)
		if id == 10 {
			a.build()
		}
		if id == 15 {
			b.build()
		}
		b.drop(id / 2)
		a.look()
		b.look()
		a.round([]int{4, 4})
		b.round([]int{4, 4})
	}
}

// R4: the same calls are answered the same, with all that is to be seen of the answer, for how many points they are and however many are built.
func TestSameAgain(t *testing.T) {
	tell := func(n, built int) string {
		b := newBoth(t, 1)
		for id := range n {
			b.put(id, id*7919%n)
			if id == built {
				b.build()
			}
		}
		s := ""
		for k := 1; k <= 64; k++ {
			l, _ := b.x.Top([]int{1}, k, n-2)
			s += fmt.Sprint(l, cap(l))
		}
		return s
	}
	for _, n := range []int{2, 3, 5, 9, 70} {
		for _, built := range []int{0, n / 2, n} {
			was := tell(n, built)
			for range 20 {
				if is := tell(n, built); is != was {
					t.Fatalf("the same calls are answered %.200s; they were answered %.200s", is, was)
				}
			}
		}
	}
}

// walk goes over the nodes, and sees to it that the points within a node's distance are so, and those beyond it not nearer; it answers all points of a node, and how deep it is.
func walk(t *testing.T, n *node) (all []api.Point, deep int) {
	t.Helper()
	if n == nil {
		return nil, 0
	}
	within, deepWithin := walk(t, n.within)
	beyond, deepBeyond := walk(t, n.beyond)
	for _, p := range within {
		if far, _ := vec.Dist(p.V, n.v); far > n.radius {
			t.Fatalf("%v stands within %d of %v", p, n.radius, n.v)
		}
	}
	for _, p := range beyond {
		if far, _ := vec.Dist(p.V, n.v); far < n.radius {
			t.Fatalf("%v stands beyond %d of %v", p, n.radius, n.v)
		}
	}
	all = append(all, api.Point{Id: n.id, V: n.v})
	return slices.Concat(all, within, beyond), 1 + max(deepWithin, deepBeyond)
}

// Ways: the nodes of a tree that was built hold all its points, as deep on all sides, and those put in since stand in a map.
func TestNodes(t *testing.T) {
	var g numbers
	for n := range 513 {
		for kind := range kinds {
			if n%37 > 5 && n != 512 {
				continue
			}
			b := newBoth(t, 3)
			for id := range n {
				b.put(id, g.place(kind, 3)...)
			}
			if b.x.root != nil || len(b.x.fresh) != n {
				t.Fatalf("ahead of Build %d of %d points stand in the map", len(b.x.fresh), n)
			}
			b.build()
			all, deep := walk(t, b.x.root)
			slices.SortFunc(all, func(a, b api.Point) int { return a.Id - b.Id })
			if !samePoints(all, b.w.all()) || len(b.x.fresh) != 0 {
				t.Fatalf("the nodes hold %v of %v", all, b.w.points)
			}
			if 1<<deep > 2*n+1 {
				t.Fatalf("%d points stand %d deep", n, deep)
			}
		}
	}
}

// Ways: of a tree that was built, a search leaves out most points, if they are anywhere on a plane; and of one with a limit more.
func TestLeavesOut(t *testing.T) {
	var g numbers
	b := newBoth(t, 2)
	for id := range 512 {
		b.put(id, g.place(4, 2)...)
	}
	b.build()
	for _, c := range []struct{ limit, most int }{{math.MaxInt, 40}, {1 << 20, 12}, {-1, 12}} {
		seen := 0
		for range 100 {
			best := nearest{k: 5, limit: c.limit}
			b.x.root.seek(g.place(4, 2), best.reach(), func(h api.Hit) int {
				seen++
				best.take(h)
				return best.reach()
			})
		}
		if seen > c.most*100 {
			t.Errorf("within %d, %d points of 512 are looked at", c.limit, seen/100)
		}
	}
}

// heap is how many bytes are in use.
func heap() int {
	runtime.GC()
	var m runtime.MemStats
	runtime.ReadMemStats(&m)
	return int(m.HeapAlloc)
}

// Vp1: what was put in ahead, dropped, or handed in is not kept.
func TestKeptMemory(t *testing.T) {
	b := newBoth(t, 16)
	before := heap()
	for name, do := range map[string]func(i int){
		"long vectors": func(i int) { b.x.Put(api.Point{Id: i % 512, V: make([]int, 1<<16)[i : i+16]}) },
		"in place":     func(i int) { b.x.Put(api.Point{Id: 5, V: make([]int, 16)}) },
		"many numbers": func(i int) { b.x.Put(api.Point{Id: i, V: make([]int, 16)}); b.x.Drop(i - 100) },
		"built":        func(i int) { b.x.Put(api.Point{Id: i, V: make([]int, 16)}); b.x.Build(); b.x.Drop(i - 100) },
		"refused":      func(i int) { b.x.Put(api.Point{Id: i, V: make([]int, 17)}); b.x.Top(make([]int, 16), 0, i) },
		"asked":        func(i int) { b.x.Top(make([]int, 16), 64, i); b.x.Points(); b.x.Get(i) },
	} {
		for i := range 3000 {
			do(i)
		}
		if n := heap() - before; n > 1<<19 {
			t.Errorf("%s: %d bytes are kept", name, n)
		}
		for _, p := range b.x.Points() {
			b.x.Drop(p.Id)
		}
		if b.x.root != nil || b.x.Len() != 0 {
			t.Errorf("%s: nodes are kept of which no point is left", name)
		}
	}
	runtime.KeepAlive(b)
}
