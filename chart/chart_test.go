package chart

import (
	"math"
	"plover/api"
	"plover/ring"
	"runtime"
	"slices"
	"testing"
)

// numbers gives numbers one behind the other, by a short rule.
type numbers struct{ at uint64 }

func (g *numbers) next(below int) int {
	g.at = g.at*6364136223846793005 + 1442695040888963407
	return int(g.at >> 33 % uint64(below))
}

// Numbers at the limits, and beyond them.
var (
	epochs   = []int{1, 2, 9, 10, 1<<31 - 1, 1 << 31, 1<<32 - 1, 1 << 32, 1<<32 + 1, 1<<40 - 2, 1<<40 - 1, 1 << 40}
	noEpochs = []int{math.MinInt, math.MinInt + 1, -1 << 40, -1 << 32, -2, -1, 0, 1<<40 + 1, 1<<40 + 2, 1 << 41, 1 << 62, math.MaxInt}
	noNodes  = []int{math.MinInt, -1 << 32, -8, -1, 8, 9, 15, 16, 64, 255, 256, 1 << 32, 1<<32 + 1, math.MaxInt}
	noPlaces = []int{math.MinInt, -1 << 32, -64, -1, 0, 65, 66, 128, 256, 1 << 32, 1<<32 + 1, math.MaxInt}
	noShards = []int{math.MinInt, -1 << 32, -16, -1, 0, 17, 18, 32, 256, 1 << 32, 1<<32 + 1, math.MaxInt}
)

func chartOf(epoch int, nodes ...int) api.Chart {
	return api.Chart{Epoch: epoch, Nodes: nodes}
}

func same(a, b api.Chart) bool {
	return a.Epoch == b.Epoch && slices.Equal(a.Nodes, b.Nodes)
}

// none tells whether a chart has nothing in it.
func none(c api.Chart) bool {
	return c.Epoch == 0 && len(c.Nodes) == 0
}

// mayBe tells whether a chart may be, by the document's words.
func mayBe(c api.Chart) bool {
	many := 0
	for _, n := range c.Nodes {
		if n >= 0 && n <= 7 {
			many++
		}
	}
	return c.Epoch >= 1 && c.Epoch <= 1099511627776 && many == len(c.Nodes) && many >= 1 && many <= 16
}

// some is a chart that may be, of so many shards.
func (g *numbers) some(many int) api.Chart {
	c := api.Chart{Epoch: 1 + g.next(1000)}
	for range many {
		c.Nodes = append(c.Nodes, g.next(8))
	}
	return c
}

// noCharts are charts that may not be, each by one fault.
func noCharts() []api.Chart {
	var l []api.Chart
	for _, epoch := range noEpochs {
		l = append(l, chartOf(epoch, 0), chartOf(epoch, 0, 1, 2), chartOf(epoch, slices.Repeat([]int{7}, 16)...))
	}
	for _, epoch := range []int{1, 1 << 40} {
		l = append(l, chartOf(epoch), api.Chart{Epoch: epoch, Nodes: make([]int, 5)[:0]})
		for _, many := range []int{17, 18, 32, 256, 1 << 16} {
			l = append(l, chartOf(epoch, make([]int, many)...))
		}
		for _, n := range noNodes {
			for _, many := range []int{1, 2, 3, 16} {
				for i := range many {
					nodes := slices.Repeat([]int{3}, many)
					nodes[i] = n
					l = append(l, chartOf(epoch, nodes...))
				}
			}
		}
	}
	return append(l, api.Chart{})
}

// doing does moves one behind the other.
func doing(t *testing.T, c api.Chart, moves []api.Move) api.Chart {
	t.Helper()
	for _, m := range moves {
		next, e := Done(c, m)
		if e != api.OK {
			t.Fatalf("Done(%v, %v) = %d", c, m, e)
		}
		c = next
	}
	return c
}

func checkDiff(t *testing.T, from, to api.Chart, want []api.Move) {
	t.Helper()
	if l, e := Diff(from, to); !slices.Equal(l, want) || e != api.OK {
		t.Fatalf("Diff(%v, %v) = %v, %d, want %v", from, to, l, e, want)
	}
}

func checkDone(t *testing.T, c api.Chart, m api.Move, want api.Chart, why api.Errno) {
	t.Helper()
	next, e := Done(c, m)
	if !same(next, want) || e != why {
		t.Fatalf("Done(%v, %v) = %v, %d, want %v, %d", c, m, next, e, want, why)
	}
}

func checkPlan(t *testing.T, c api.Chart, nodes []int, places int, want []api.Move, why api.Errno) {
	t.Helper()
	if l, e := Plan(c, nodes, places); !slices.Equal(l, want) || e != why {
		t.Fatalf("Plan(%v, %v, %d) = %v, %d, want %v, %d", c, nodes, places, l, e, want, why)
	}
}

// Example 1.
func TestExample(t *testing.T) {
	checkDone(t, chartOf(1, 0, 1, 0), api.Move{Shard: 2, From: 0, To: 1}, chartOf(2, 0, 1, 1), api.OK)
}

// Ct1: charts that may be, at each limit.
func TestCheck(t *testing.T) {
	ok := func(c api.Chart) {
		t.Helper()
		if e := Check(c); e != api.OK {
			t.Errorf("Check(%v) = %d", c, e)
		}
	}
	for _, epoch := range epochs {
		for many := 1; many <= 16; many++ {
			for n := range 8 {
				ok(chartOf(epoch, slices.Repeat([]int{n}, many)...))
			}
			ok(chartOf(epoch, []int{0, 1, 2, 3, 4, 5, 6, 7, 7, 6, 5, 4, 3, 2, 1, 0}[:many]...))
		}
	}
	room := slices.Repeat([]int{-1}, 20) // what lies behind the list's end is no node
	room[0], room[1] = 0, 7
	ok(chartOf(3, room[:1]...))
	ok(chartOf(3, room[:2]...))
}

// Ct1: charts that may not be, beyond each limit.
func TestCheckRefused(t *testing.T) {
	for _, c := range noCharts() {
		if e := Check(c); e != api.ErrArg {
			t.Errorf("Check(%d, %d nodes) = %d", c.Epoch, len(c.Nodes), e)
		}
	}
}

// Ct1: first charts that were reckoned elsewhere.
func TestFirstKnown(t *testing.T) {
	for _, c := range []struct {
		nodes        []int
		places, many int
		homes        []int
	}{
		{[]int{0, 1}, 1, 4, []int{0, 1, 1, 0}},
		{[]int{2, 5}, 3, 16, []int{5, 5, 5, 5, 2, 2, 2, 2, 5, 5, 5, 5, 5, 5, 2, 2}},
		{[]int{1, 2, 0}, 64, 16, []int{2, 2, 0, 1, 1, 0, 1, 2, 2, 2, 2, 0, 0, 1, 0, 0}},
		{[]int{7, 6, 5, 4, 3, 2, 1, 0}, 8, 16, []int{2, 2, 2, 2, 0, 0, 7, 0, 2, 2, 1, 2, 2, 2, 0, 0}},
		{[]int{6, 1, 4}, 2, 5, []int{6, 4, 4, 6, 4}},
		{[]int{3}, 1, 5, []int{3, 3, 3, 3, 3}},
		{[]int{7, 0}, 64, 1, []int{7}},
	} {
		got, e := First(c.nodes, c.places, c.many)
		if !same(got, chartOf(1, c.homes...)) || e != api.OK {
			t.Errorf("First(%v, %d, %d) = %v, %d, want %v", c.nodes, c.places, c.many, got, e, c.homes)
		}
	}
}

// Ct1: of each count of places and of shards, what layer 11 tells.
func TestFirst(t *testing.T) {
	for _, nodes := range [][]int{{0}, {7}, {4, 2}, {6, 0, 3}, {0, 1, 2, 3, 4, 5, 6, 7}} {
		for places := 1; places <= 64; places++ {
			r, _ := ring.New(nodes, places)
			for many := 1; many <= 16; many++ {
				want, _ := r.Shards(many)
				got, e := First(nodes, places, many)
				if !same(got, chartOf(1, want...)) || e != api.OK || Check(got) != api.OK {
					t.Fatalf("First(%v, %d, %d) = %v, %d, want %v", nodes, places, many, got, e, want)
				}
			}
		}
	}
}

// Ct1: what layer 11's New refuses, and then what its Shards does.
func TestFirstRefused(t *testing.T) {
	refused := func(nodes []int, places, shards int, why api.Errno) {
		t.Helper()
		if c, e := First(nodes, places, shards); !none(c) || e != why {
			t.Errorf("First(%v, %d, %d) = %v, %d, want %d", nodes, places, shards, c, e, why)
		}
	}
	for _, n := range noNodes {
		refused([]int{n}, 1, 1, api.ErrArg)
		refused([]int{0, 1, n}, 64, 16, api.ErrArg)
		refused([]int{n, 1}, 0, 0, api.ErrArg)
	}
	for _, nodes := range [][]int{nil, {}, {0}, {7, 3}} {
		for _, places := range noPlaces {
			refused(nodes, places, 1, api.ErrArg)
			refused(nodes, places, 16, api.ErrArg)
		}
		for _, shards := range noShards {
			refused(nodes, 1, shards, api.ErrArg)
			refused(nodes, 64, shards, api.ErrArg)
			refused(nodes, 65, shards, api.ErrArg)
		}
	}
	refused([]int{1, 1}, 1, 1, api.ErrArg)
	refused([]int{0, 1, 2, 3, 4, 5, 6, 7, 0}, 64, 16, api.ErrArg)
	for _, places := range []int{1, 64} {
		for many := 1; many <= 16; many++ {
			refused(nil, places, many, api.ErrNone)
			refused([]int{3, 4}[:0], places, many, api.ErrNone)
		}
	}
}

// Ct1: moves that are told by hand; epochs do not count.
func TestDiffKnown(t *testing.T) {
	checkDiff(t, chartOf(4, 0, 1, 0, 2), chartOf(9, 0, 2, 1, 2), []api.Move{{Shard: 1, From: 1, To: 2}, {Shard: 2, From: 0, To: 1}})
	checkDiff(t, chartOf(9, 0, 2, 1, 2), chartOf(4, 0, 1, 0, 2), []api.Move{{Shard: 1, From: 2, To: 1}, {Shard: 2, From: 1, To: 0}})
	checkDiff(t, chartOf(1<<40, 7), chartOf(1, 0), []api.Move{{Shard: 0, From: 7, To: 0}})
	checkDiff(t, chartOf(1, 7), chartOf(1<<40, 7), nil)
	checkDiff(t, chartOf(3, 0, 1), chartOf(3, 1, 0), []api.Move{{Shard: 0, From: 0, To: 1}, {Shard: 1, From: 1, To: 0}})
}

// Ct1: all pairs of charts of few shards, and full ones that differ in each way, against the document's words.
func TestDiff(t *testing.T) {
	check := func(from, to api.Chart) {
		t.Helper()
		var want []api.Move
		for i := len(from.Nodes) - 1; i >= 0; i-- {
			if from.Nodes[i] != to.Nodes[i] {
				want = append(want, api.Move{Shard: i, From: from.Nodes[i], To: to.Nodes[i]})
			}
		}
		slices.Reverse(want)
		checkDiff(t, from, to, want)
	}
	for a := range 512 {
		for b := range 512 {
			check(chartOf(1, a&7, a>>3&7, a>>6), chartOf(1, b&7, b>>3&7, b>>6))
		}
	}
	var g numbers
	from := g.some(16)
	for bits := range 1 << 16 {
		to := chartOf(2, slices.Clone(from.Nodes)...)
		for i := range 16 {
			if bits>>i&1 == 1 {
				to.Nodes[i] = (to.Nodes[i] + 1 + g.next(7)) % 8
			}
		}
		check(from, to)
	}
}

// Ct1: charts that may not be, on either side, and charts of other counts of shards.
func TestDiffRefused(t *testing.T) {
	refused := func(from, to api.Chart) {
		t.Helper()
		if l, e := Diff(from, to); len(l) != 0 || e != api.ErrArg {
			t.Errorf("Diff(%v, %v) = %v, %d", from, to, l, e)
		}
	}
	var g numbers
	for _, c := range noCharts() {
		refused(c, c)
		refused(c, chartOf(1, 0))
		refused(chartOf(1, 0), c)
		if many := len(c.Nodes); many >= 1 && many <= 16 {
			refused(c, g.some(many))
			refused(g.some(many), c)
		}
	}
	for many := 1; many <= 16; many++ {
		for other := 1; other <= 16; other++ {
			if many != other {
				refused(chartOf(1, make([]int, many)...), chartOf(1, make([]int, other)...))
			}
		}
	}
	long := g.some(16)
	refused(long, api.Chart{Epoch: 1, Nodes: long.Nodes[:15]}) // with room for as many
	refused(api.Chart{Epoch: 1, Nodes: long.Nodes[:15]}, long)
}

// wantDone is a chart behind a move, by the document's words.
func wantDone(c api.Chart, m api.Move) (api.Chart, api.Errno) {
	switch {
	case !mayBe(c), m.Shard < 0, m.Shard > len(c.Nodes)-1, m.To < 0, m.To > 7, m.To == m.From:
		return api.Chart{}, 1
	case c.Nodes[m.Shard] != m.From:
		return api.Chart{}, 3
	case c.Epoch == 1099511627776:
		return api.Chart{}, 101
	}
	next := api.Chart{Epoch: c.Epoch + 1}
	for i, n := range c.Nodes {
		if i == m.Shard {
			n = m.To
		}
		next.Nodes = append(next.Nodes, n)
	}
	return next, 0
}

// Ct1: each shard, node and epoch, at the limits and beyond, also where several errors meet.
func TestDone(t *testing.T) {
	var g numbers
	nodes := append([]int{0, 1, 2, 3, 4, 5, 6, 7}, noNodes...)
	for many := 1; many <= 16; many++ {
		for _, epoch := range append(slices.Clone(epochs), noEpochs...) {
			c := chartOf(epoch, g.some(many).Nodes...)
			for shard := -2; shard < many+3; shard++ {
				for _, to := range nodes {
					m := api.Move{Shard: shard, From: g.next(8), To: to}
					want, why := wantDone(c, m)
					checkDone(t, c, m, want, why)
					if shard >= 0 && shard < many {
						m.From = c.Nodes[shard]
						want, why = wantDone(c, m)
						checkDone(t, c, m, want, why)
					}
				}
			}
		}
	}
}

// Ct1: of a chart, all moves of all numbers at the limits.
func TestDoneAllMoves(t *testing.T) {
	nodes := append([]int{0, 1, 2, 3, 4, 5, 6, 7}, noNodes...)
	shards := append([]int{0, 1, 2, 3, 4, 7, 8, 15}, noShards...)
	for _, epoch := range []int{0, 1, 5, 1<<40 - 1, 1 << 40, 1<<40 + 1} {
		for _, list := range [][]int{{0}, {7, 0, 3}, {0, 1, 2, 3, 4, 5, 6, 7, 0, 1, 2, 3, 4, 5, 6, 7}, {1, 8}, {}} {
			c := chartOf(epoch, list...)
			for _, shard := range shards {
				for _, from := range nodes {
					for _, to := range nodes {
						m := api.Move{Shard: shard, From: from, To: to}
						want, why := wantDone(c, m)
						checkDone(t, c, m, want, why)
					}
				}
			}
		}
	}
}

// Ct1: errors that meet are told by hand in the chapter's order.
func TestDoneErrorsThatMeet(t *testing.T) {
	last := chartOf(1<<40, 0, 1)
	for _, c := range []struct {
		m   api.Move
		why api.Errno
	}{
		{api.Move{Shard: 2, From: 5, To: 5}, api.ErrArg},
		{api.Move{Shard: 0, From: 5, To: 8}, api.ErrArg},
		{api.Move{Shard: 0, From: 5, To: 5}, api.ErrArg},
		{api.Move{Shard: 1, From: 1, To: 1}, api.ErrArg},
		{api.Move{Shard: 0, From: 8, To: 1}, api.ErrNone},
		{api.Move{Shard: 0, From: -1, To: 0}, api.ErrNone},
		{api.Move{Shard: 0, From: 1, To: 0}, api.ErrNone},
		{api.Move{Shard: 0, From: 0, To: 1}, api.ErrEpoch},
		{api.Move{Shard: 1, From: 1, To: 7}, api.ErrEpoch},
	} {
		checkDone(t, last, c.m, api.Chart{}, c.why)
	}
	for _, c := range noCharts() {
		for _, m := range []api.Move{{Shard: 0, From: 0, To: 1}, {Shard: 0, From: 3, To: 1}, {Shard: 0, From: 7, To: 1}, {Shard: 1, From: 3, To: 0}} {
			checkDone(t, c, m, api.Chart{}, api.ErrArg)
		}
	}
}

// Ct2: plans that were reckoned elsewhere.
func TestPlanKnown(t *testing.T) {
	for _, c := range []struct {
		chart  api.Chart
		nodes  []int
		places int
		want   []api.Move
	}{
		{chartOf(1, 0, 1, 0, 2), []int{0, 1}, 1, []api.Move{{Shard: 2, From: 0, To: 1}, {Shard: 3, From: 2, To: 0}}},
		{chartOf(7, 0, 1, 1, 0), []int{1, 0}, 1, nil},
		{chartOf(1<<40, 0, 1, 2, 0, 1, 2), []int{0, 1, 2}, 8, []api.Move{
			{Shard: 0, From: 0, To: 2}, {Shard: 1, From: 1, To: 0}, {Shard: 2, From: 2, To: 0}, {Shard: 3, From: 0, To: 2}, {Shard: 4, From: 1, To: 0},
		}},
		{chartOf(2, 3), []int{3}, 64, nil},
		{chartOf(2, 0, 0), []int{5}, 1, []api.Move{{Shard: 0, From: 0, To: 5}, {Shard: 1, From: 0, To: 5}}},
	} {
		checkPlan(t, c.chart, c.nodes, c.places, c.want, api.OK)
	}
}

// Ct2: what a chart may not be is told ahead of what layer 11 refuses, and that of New ahead of that of Shards.
func TestPlanRefused(t *testing.T) {
	for _, c := range noCharts() {
		checkPlan(t, c, []int{0, 1}, 4, nil, api.ErrArg)
		checkPlan(t, c, nil, 4, nil, api.ErrArg)
		checkPlan(t, c, []int{8}, 0, nil, api.ErrArg)
	}
	for _, c := range []api.Chart{chartOf(1, 0), chartOf(1<<40, slices.Repeat([]int{7}, 16)...)} {
		for _, n := range noNodes {
			checkPlan(t, c, []int{n}, 1, nil, api.ErrArg)
			checkPlan(t, c, []int{0, n, 3}, 64, nil, api.ErrArg)
		}
		for _, places := range noPlaces {
			checkPlan(t, c, []int{0, 7}, places, nil, api.ErrArg)
			checkPlan(t, c, nil, places, nil, api.ErrArg)
		}
		checkPlan(t, c, []int{2, 2}, 1, nil, api.ErrArg)
		checkPlan(t, c, nil, 1, nil, api.ErrNone)
		checkPlan(t, c, []int{}, 64, nil, api.ErrNone)
		checkPlan(t, c, []int{5}[:0], 8, nil, api.ErrNone)
	}
}

// Ct2, Ct3: a plan is what differs from the first chart; behind its moves there is nothing to move, and but for the epoch it is that chart.
func TestPlan(t *testing.T) {
	var g numbers
	for bits := 1; bits < 256; bits++ {
		var nodes []int
		for n := range 8 {
			if bits>>n&1 == 1 {
				nodes = append(nodes, n)
			}
		}
		for many := 1; many <= 16; many++ {
			c := g.some(many)
			places := 1 + g.next(64)
			to, e := First(nodes, places, many)
			if e != api.OK {
				t.Fatal(e)
			}
			want, e := Diff(c, to)
			if e != api.OK {
				t.Fatal(e)
			}
			checkPlan(t, c, nodes, places, want, api.OK)
			behind := doing(t, c, want)
			checkPlan(t, behind, nodes, places, nil, api.OK)
			if !slices.Equal(behind.Nodes, to.Nodes) || behind.Epoch != c.Epoch+len(want) {
				t.Fatalf("%v behind %v is %v", c, want, behind)
			}
		}
	}
}

// Ct3: behind all moves of Diff, in whichever order, there are the other one's nodes, each move an epoch on; each is done once.
func TestAllMoves(t *testing.T) {
	var g numbers
	for range 3000 {
		many := 1 + g.next(16)
		from, to := g.some(many), g.some(many)
		for i := range many {
			if g.next(3) == 0 {
				to.Nodes[i] = from.Nodes[i]
			}
		}
		moves, e := Diff(from, to)
		if e != api.OK {
			t.Fatal(e)
		}
		behind := doing(t, from, moves)
		if !slices.Equal(behind.Nodes, to.Nodes) || behind.Epoch != from.Epoch+len(moves) {
			t.Fatalf("%v to %v by %v: %v", from, to, moves, behind)
		}
		checkDiff(t, behind, to, nil)
		for i := range moves {
			j := i + g.next(len(moves)-i)
			moves[i], moves[j] = moves[j], moves[i]
		}
		if other := doing(t, from, moves); !same(other, behind) {
			t.Fatalf("%v by %v: %v, want %v", from, moves, other, behind)
		}
		for _, m := range moves {
			checkDone(t, behind, m, api.Chart{}, api.ErrNone)
		}
	}
}

// Ct3: moves that come to the last epoch, and one that would go beyond it.
func TestLastEpoch(t *testing.T) {
	from, to := chartOf(1<<40-2, 0, 1, 2), chartOf(1, 1, 2, 0)
	moves, _ := Diff(from, to)
	c := doing(t, from, moves[:2])
	if !same(c, chartOf(1<<40, 1, 2, 2)) || Check(c) != api.OK {
		t.Fatal(c)
	}
	checkDone(t, c, moves[2], api.Chart{}, api.ErrEpoch)
	checkDiff(t, c, to, moves[2:])
}

// R3: what is handed in is not changed, nor what lies in the room behind its end, nor does an answer share memory with it.
func TestHandedIn(t *testing.T) {
	room := []int{0, 1, 2, 3, -1, 99, 7, 7}
	was := slices.Clone(room)
	c := api.Chart{Epoch: 3, Nodes: room[:3]}
	next, e := Done(c, api.Move{Shard: 0, From: 0, To: 6})
	if e != api.OK || !slices.Equal(room, was) || c.Epoch != 3 || len(c.Nodes) != 3 {
		t.Fatal(next, e, room)
	}
	checkDone(t, c, api.Move{Shard: 3, From: 3, To: 6}, api.Chart{}, api.ErrArg)
	moves, e := Diff(c, next)
	if e != api.OK {
		t.Fatal(e)
	}
	if _, e = Plan(c, room[1:3], 4); e != api.OK {
		t.Fatal(e)
	}
	first, e := First(room[:2], 4, 8)
	if e != api.OK {
		t.Fatal(e)
	}
	if s, e := Text(c); s != "li3eli0ei1ei2eee" || e != api.OK || !slices.Equal(room, was) {
		t.Fatal(s, e, room)
	}
	want := chartOf(first.Epoch, slices.Clone(first.Nodes)...)
	for i := range room {
		room[i] = 5
	}
	if !same(next, chartOf(4, 6, 1, 2)) || !same(first, want) || !slices.Equal(moves, []api.Move{{Shard: 0, From: 0, To: 6}}) {
		t.Fatal(next, first, moves)
	}
}

// spoil writes over a list, and over the room behind its end.
func spoil(l []int) {
	l = l[:cap(l)]
	for i := range l {
		l[i] = 99
	}
}

// R3, R4: answers are new memory, so what becomes of them changes neither what was handed in nor what is answered again.
func TestNewMemory(t *testing.T) {
	room := []int{4, 5, 6, 7}
	c := api.Chart{Epoch: 1, Nodes: room[:2]}
	for range 3 {
		next, e := Done(c, api.Move{Shard: 1, From: 5, To: 0})
		if !same(next, chartOf(2, 4, 0)) || e != api.OK {
			t.Fatal(next, e)
		}
		spoil(next.Nodes)
		first, e := First([]int{0, 1}, 1, 4)
		if !same(first, chartOf(1, 0, 1, 1, 0)) || e != api.OK {
			t.Fatal(first, e)
		}
		spoil(first.Nodes)
		of, e := Of("li5eli0ei7eee")
		if !same(of, chartOf(5, 0, 7)) || e != api.OK {
			t.Fatal(of, e)
		}
		spoil(of.Nodes)
		moves, e := Diff(c, chartOf(9, 1, 2))
		if !slices.Equal(moves, []api.Move{{Shard: 0, From: 4, To: 1}, {Shard: 1, From: 5, To: 2}}) || e != api.OK {
			t.Fatal(moves, e)
		}
		clear(moves[:cap(moves)])
		plan, e := Plan(c, []int{4}, 1)
		if !slices.Equal(plan, []api.Move{{Shard: 1, From: 5, To: 4}}) || e != api.OK {
			t.Fatal(plan, e)
		}
		clear(plan[:cap(plan)])
		if !slices.Equal(room, []int{4, 5, 6, 7}) {
			t.Fatal(room)
		}
	}
}

// Ct1: charts behind moves stand apart, also two behind one.
func TestApart(t *testing.T) {
	c := chartOf(1, 0, 0, 0)
	a := doing(t, c, []api.Move{{Shard: 0, From: 0, To: 1}})
	b := doing(t, c, []api.Move{{Shard: 0, From: 0, To: 2}})
	d := doing(t, a, []api.Move{{Shard: 2, From: 0, To: 3}})
	for _, x := range []struct{ got, want api.Chart }{
		{c, chartOf(1, 0, 0, 0)}, {a, chartOf(2, 1, 0, 0)}, {b, chartOf(2, 2, 0, 0)}, {d, chartOf(3, 1, 0, 3)},
	} {
		if !same(x.got, x.want) {
			t.Errorf("%v, want %v", x.got, x.want)
		}
	}
}

// heap is how many bytes are in use.
func heap() int {
	runtime.GC()
	var m runtime.MemStats
	runtime.ReadMemStats(&m)
	return int(m.HeapAlloc)
}

// Ct1, Ct2: nothing is kept from call to call, nor does an answer keep what was handed in.
func TestKeptMemory(t *testing.T) {
	var g numbers
	before := heap()
	var kept []api.Chart
	for range 100 {
		room := make([]int, 1<<16)
		c, e := Done(api.Chart{Epoch: 1, Nodes: room[:3]}, api.Move{Shard: g.next(3), From: 0, To: 1})
		if e != api.OK {
			t.Fatal(e)
		}
		kept = append(kept, c)
	}
	for range 3000 {
		c := g.some(16)
		Plan(c, []int{g.next(8)}, 64)
		s, _ := Text(c)
		Of(s)
		First([]int{0, 1}, 1+g.next(64), 16)
	}
	if n := heap() - before; n > 1<<18 {
		t.Errorf("%d bytes are kept", n)
	}
	runtime.KeepAlive(kept)
}
