package ring

import (
	"fmt"
	"math"
	"plover/api"
	"runtime"
	"slices"
	"testing"
)

// numbers gives numbers one behind the other, by a short rule.
type numbers struct{ at uint64 }

func (g *numbers) next(below int) int {
	g.at = g.at*6364136223846793005 + 1442695040888963407
	return int(g.at >> 33 % uint64(below))
}

// Numbers at the limits, and beyond them.
var (
	noNodes  = []int{math.MinInt, -1 << 32, -8, -1, 8, 9, 15, 16, 64, 255, 256, 1 << 32, 1<<32 + 1, math.MaxInt}
	noPlaces = []int{math.MinInt, -1 << 32, -64, -1, 0, 65, 66, 128, 256, 1 << 32, 1<<32 + 1, math.MaxInt}
	noMany   = []int{math.MinInt, -1 << 32, -16, -1, 0, 17, 18, 32, 256, 1 << 32, 1<<32 + 1, math.MaxInt}
	noSpots  = []int{math.MinInt, math.MinInt + 1, -1 << 32, -1 << 24, -2, -1, 1 << 24, 1<<24 + 1, 1 << 25, 1<<32 - 1, 1 << 32, 1<<32 + 1, math.MaxInt}
	ids      = []int{math.MinInt, math.MinInt + 1, -1 << 32, -1 << 31, -10, -9, -1, 0, 1, 9, 10, 1 << 24, 1<<31 - 1, 1 << 32, math.MaxInt - 1, math.MaxInt}
)

// spotOf is a spot by the words of layers 3 and 11, bit by bit.
func spotOf(kind string, a, b int) int {
	n := 0xb704ce
	for _, c := range []byte(fmt.Sprintf("%s/%d/%d", kind, a, b)) {
		n ^= int(c) << 16
		for range 8 {
			n *= 2
			if n >= 1<<24 {
				n ^= 0x1864cfb
			}
		}
	}
	return n
}

// spots are the places of all nodes that there may be, and of all shards of each count.
type spots struct {
	node  [8][64]int
	shard [17][16]int
}

func allSpots() *spots {
	s := &spots{}
	for n := range 8 {
		for k := range 64 {
			s.node[n][k] = spotOf("node", n, k)
		}
	}
	for many := 1; many <= 16; many++ {
		for shard := range many {
			s.shard[many][shard] = spotOf("shard", shard, many)
		}
	}
	return s
}

// home is the node that has a spot, by the document's words, by going over all places; -1: none.
func (s *spots) home(nodes []int, places, spot int) int {
	best, far := -1, 0
	for _, n := range nodes {
		for _, at := range s.node[n][:places] {
			on := at - spot
			if on < 0 { // behind all that are no less
				on += 1 << 24
			}
			if best < 0 || on < far || on == far && n < best {
				best, far = n, on
			}
		}
	}
	return best
}

// edges are the spots at each place of nodes, just ahead of it and just behind it, and the outermost ones.
func (s *spots) edges(nodes []int, places int) []int {
	l := []int{0, 1, 1 << 23, 1<<24 - 2, 1<<24 - 1}
	for _, n := range nodes {
		for _, at := range s.node[n][:places] {
			l = append(l, at-1, at, at+1)
		}
	}
	return l
}

// sets are all sets of nodes, each rising.
func sets() [][]int {
	var all [][]int
	for bits := range 256 {
		var l []int
		for n := range 8 {
			if bits>>n&1 == 1 {
				l = append(l, n)
			}
		}
		all = append(all, l)
	}
	return all
}

func ringOf(t *testing.T, nodes []int, places int) *Ring {
	t.Helper()
	r, e := New(nodes, places)
	if r == nil || e != api.OK {
		t.Fatalf("New(%v, %d) = %v, %d", nodes, places, r, e)
	}
	return r
}

func checkHome(t *testing.T, r *Ring, spot, want int) {
	t.Helper()
	if n, e := r.Home(spot); n != want || e != api.OK {
		t.Fatalf("nodes %v: Home(%#x) = %d, %d, want %d", r.Nodes(), spot, n, e, want)
	}
}

func checkShards(t *testing.T, r *Ring, many int, want []int) {
	t.Helper()
	if l, e := r.Shards(many); !slices.Equal(l, want) || e != api.OK {
		t.Fatalf("nodes %v: Shards(%d) = %v, %d, want %v", r.Nodes(), many, l, e, want)
	}
}

// Example 1: a ring of one node has all.
func TestExample(t *testing.T) {
	for node := range 8 {
		for _, places := range []int{1, 2, 64} {
			r := ringOf(t, []int{node}, places)
			for _, spot := range []int{0, 1, 0x797161, 1 << 23, 1<<24 - 1} {
				checkHome(t, r, spot, node)
			}
			for many := 1; many <= 16; many++ {
				checkShards(t, r, many, slices.Repeat([]int{node}, many))
			}
		}
	}
}

// Ri1: homes beside places that were reckoned elsewhere.
func TestHomeKnown(t *testing.T) {
	for _, c := range []struct {
		nodes  []int
		places int
		homes  [][2]int // spots, and the nodes that have them
	}{
		{[]int{0, 1}, 1, [][2]int{{0, 0}, {0x797160, 0}, {0x797161, 0}, {0x797162, 1}, {0xfa78b5, 1}, {0xfa78b6, 1}, {0xfa78b7, 0}, {0xffffff, 0}}},
		{[]int{2, 5}, 3, [][2]int{
			{0, 2}, {0x73fb39, 2}, {0x73fb3a, 5}, {0x7c8ae7, 5}, {0x7c8ae8, 2}, {0x7f62cf, 2}, {0x7f62d0, 5}, {0xf65fea, 5},
			{0xf65feb, 2}, {0xf92e34, 2}, {0xf92e35, 5}, {0xfac61c, 5}, {0xfac61d, 2}, {0xffffff, 2},
		}},
		{[]int{0, 1, 2}, 2, [][2]int{
			{0, 0}, {0x797161, 0}, {0x797162, 1}, {0x7c344d, 1}, {0x7c344e, 2}, {0x7f62cf, 2}, {0x7f62d0, 2},
			{0xf92e34, 2}, {0xf92e35, 1}, {0xfa78b6, 1}, {0xfa78b7, 0}, {0xff3d9a, 0}, {0xff3d9b, 0}, {0xffffff, 0},
		}},
		{[]int{0, 1, 2, 3, 4, 5, 6, 7}, 1, [][2]int{
			{0, 0}, {0x797162, 3}, {0x7a27e4, 5}, {0x7c8ae8, 6}, {0x7fdc66, 2}, {0xf92e35, 1}, {0xfa78b7, 7}, {0xfcd5b2, 7}, {0xfcd5b3, 4}, {0xff8330, 4}, {0xff8331, 0},
		}},
	} {
		r := ringOf(t, c.nodes, c.places)
		for _, h := range c.homes {
			checkHome(t, r, h[0], h[1])
		}
	}
}

// Ri2: shards that were reckoned elsewhere.
func TestShardsKnown(t *testing.T) {
	for _, c := range []struct {
		nodes        []int
		places, many int
		homes        []int
	}{
		{[]int{0, 1}, 1, 4, []int{0, 1, 1, 0}},
		{[]int{2, 5}, 3, 16, []int{5, 5, 5, 5, 2, 2, 2, 2, 5, 5, 5, 5, 5, 5, 2, 2}},
		{[]int{0, 1, 2}, 64, 16, []int{2, 2, 0, 1, 1, 0, 1, 2, 2, 2, 2, 0, 0, 1, 0, 0}},
		{[]int{0, 1, 2, 3, 4, 5, 6, 7}, 64, 16, []int{6, 7, 4, 5, 6, 7, 4, 2, 7, 6, 2, 3, 0, 6, 6, 3}},
		{[]int{0, 1, 2, 3, 4, 5, 6, 7}, 1, 16, []int{2, 2, 2, 2, 0, 0, 0, 0, 2, 2, 2, 2, 2, 2, 0, 0}},
		{[]int{3}, 1, 5, []int{3, 3, 3, 3, 3}},
		{[]int{7, 0}, 64, 1, []int{7}},
	} {
		checkShards(t, ringOf(t, c.nodes, c.places), c.many, c.homes)
	}
}

// Ri2: parts that were reckoned elsewhere.
func TestPartKnown(t *testing.T) {
	for _, c := range [][3]int{
		{0, 1, 0}, {0, 16, 2}, {1, 16, 5}, {-7, 5, 3}, {7, 5, 2}, {-1, 2, 1}, {12345, 3, 1}, {-12345, 13, 9},
		{1000000000, 7, 6}, {math.MaxInt, 16, 7}, {math.MinInt, 16, 13},
	} {
		if n, e := Part(c[0], c[1]); n != c[2] || e != api.OK {
			t.Errorf("Part(%d, %d) = %d, %d, want %d", c[0], c[1], n, e, c[2])
		}
	}
}

// Ri1, Ri2: all sets of nodes, at the least and most places and some between, against the document's words.
func TestBySteps(t *testing.T) {
	s := allSpots()
	var g numbers
	for _, nodes := range sets()[1:] {
		for _, places := range []int{1, 2, 3 + g.next(60), 63, 64} {
			r := ringOf(t, nodes, places)
			some := s.edges(nodes, places)
			for range 60 {
				spot := some[g.next(len(some))]
				checkHome(t, r, spot, s.home(nodes, places, spot))
				spot = g.next(1 << 24)
				checkHome(t, r, spot, s.home(nodes, places, spot))
			}
			for _, many := range []int{1, 16, 2 + g.next(14)} {
				checkShards(t, r, many, s.shards(nodes, places, many))
			}
		}
	}
}

func (s *spots) shards(nodes []int, places, many int) []int {
	var l []int
	for _, spot := range s.shard[many][:many] {
		l = append(l, s.home(nodes, places, spot))
	}
	return l
}

// Ri1, Ri2: of some nodes, each count of places, each edge, and each count of shards.
func TestAllEdges(t *testing.T) {
	s := allSpots()
	for _, nodes := range [][]int{{4}, {1, 6}, {0, 3, 7}, {0, 1, 2, 3, 4, 5, 6, 7}} {
		for places := 1; places <= 64; places++ {
			r := ringOf(t, nodes, places)
			if places%9 == 1 {
				for _, spot := range s.edges(nodes, places) {
					checkHome(t, r, spot, s.home(nodes, places, spot))
				}
			}
			for many := 1; many <= 16; many++ {
				checkShards(t, r, many, s.shards(nodes, places, many))
			}
		}
	}
}

// Ri1: of every spot there is, from the last one back to the first, the node of the place that was met last.
func TestEverySpot(t *testing.T) {
	s := allSpots()
	nodes := []int{0, 1, 2, 3, 4, 5, 6, 7}
	r := ringOf(t, nodes, 64)
	at := map[int]int{}
	for n := range s.node {
		for _, spot := range s.node[n] {
			if other, taken := at[spot]; !taken || n < other {
				at[spot] = n
			}
		}
	}
	home := s.home(nodes, 64, 0)
	for spot := 1<<24 - 1; spot >= 0; spot-- {
		if n, there := at[spot]; there {
			home = n
		}
		if n, e := r.Home(spot); n != home || e != api.OK {
			t.Fatalf("Home(%#x) = %d, %d, want %d", spot, n, e, home)
		}
	}
}

// Ri1: of several at one place, the node with the least number is there, in whichever order they come to it.
func TestOnePlace(t *testing.T) {
	for _, order := range [][]int{{2, 5, 7}, {2, 7, 5}, {5, 2, 7}, {5, 7, 2}, {7, 2, 5}, {7, 5, 2}} {
		r := ringOf(t, nil, 1) // no two nodes meet by their numbers, so they are laid by hand
		r.lay(6, 100)
		for _, n := range order {
			r.lay(n, 200)
		}
		r.lay(3, 300)
		for _, c := range [][2]int{{0, 6}, {100, 6}, {101, 2}, {199, 2}, {200, 2}, {201, 3}, {300, 3}, {301, 6}, {1<<24 - 1, 6}} {
			checkHome(t, r, c[0], c[1])
		}
		if !slices.Equal(r.places, []int{100, 200, 300}) {
			t.Errorf("places %v", r.places)
		}
	}
}

// Ri1: each node is at all of its places, and at no other one.
func TestPlaces(t *testing.T) {
	s := allSpots()
	for places := 1; places <= 64; places++ {
		r := ringOf(t, []int{0, 1, 2, 3, 4, 5, 6, 7}, places)
		if len(r.places) != 8*places || len(r.at) != 8*places || !slices.IsSorted(r.places) {
			t.Fatalf("%d places: %v", places, r.places)
		}
		for n := range 8 {
			for _, spot := range s.node[n][:places] {
				checkHome(t, r, spot, n)
			}
		}
	}
}

// Ri1: what is no node, or is there twice, at each place of the list, and what is no count of places.
func TestNewRefused(t *testing.T) {
	refused := func(nodes []int, places int) {
		t.Helper()
		if r, e := New(nodes, places); r != nil || e != api.ErrArg {
			t.Errorf("New(%v, %d) = %v, %d", nodes, places, r, e)
		}
	}
	for _, nodes := range sets() {
		for _, places := range noPlaces {
			refused(nodes, places)
		}
		for i := range len(nodes) + 1 {
			for _, places := range []int{1, 64} {
				for _, n := range noNodes {
					refused(slices.Insert(slices.Clone(nodes), i, n), places)
				}
				for _, n := range nodes {
					refused(slices.Insert(slices.Clone(nodes), i, n), places)
				}
			}
		}
	}
	refused([]int{8}, 0)
	refused([]int{1, 1}, 65)
	refused([]int{0, 1, 2, 3, 4, 5, 6, 7, 0}, 1)
	refused(slices.Repeat([]int{3}, 1<<20), 1)
	refused(make([]int, 1<<20), 64)
}

// Ri1: all that may be: each count of places, each set of nodes in rising and falling order.
func TestNewLimits(t *testing.T) {
	for places := 1; places <= 64; places++ {
		for _, nodes := range sets() {
			fall := slices.Clone(nodes)
			slices.Reverse(fall)
			for _, l := range [][]int{nodes, fall} {
				if got := ringOf(t, l, places).Nodes(); !slices.Equal(got, nodes) {
					t.Fatalf("New(%v, %d): Nodes %v", l, places, got)
				}
			}
		}
	}
}

// Ri1, Ri2: what is no spot, and no count of shards; that is told ahead of that there are no nodes.
func TestRefused(t *testing.T) {
	for _, nodes := range [][]int{nil, {}, {0}, {3, 1}, {0, 1, 2, 3, 4, 5, 6, 7}} {
		r := ringOf(t, nodes, 2)
		for _, spot := range noSpots {
			if n, e := r.Home(spot); n != 0 || e != api.ErrArg {
				t.Errorf("nodes %v: Home(%d) = %d, %d", nodes, spot, n, e)
			}
		}
		for _, many := range noMany {
			if l, e := r.Shards(many); len(l) != 0 || e != api.ErrArg {
				t.Errorf("nodes %v: Shards(%d) = %v, %d", nodes, many, l, e)
			}
		}
	}
}

// Ri1, Ri2: without nodes there is no home, of any spot and any shard.
func TestNoNodes(t *testing.T) {
	for _, nodes := range [][]int{nil, {}, make([]int, 9)[:0]} {
		for _, places := range []int{1, 64} {
			r := ringOf(t, nodes, places)
			for _, spot := range []int{0, 1, 1 << 23, 1<<24 - 1} {
				if n, e := r.Home(spot); n != 0 || e != api.ErrNone {
					t.Errorf("Home(%d) = %d, %d", spot, n, e)
				}
			}
			for many := 1; many <= 16; many++ {
				if l, e := r.Shards(many); len(l) != 0 || e != api.ErrNone {
					t.Errorf("Shards(%d) = %v, %d", many, l, e)
				}
			}
			if l := r.Nodes(); len(l) != 0 {
				t.Errorf("Nodes = %v", l)
			}
		}
	}
}

// Ri2: each count of shards, ids of each count of digits on both sides of 0.
func TestPart(t *testing.T) {
	var g numbers
	all := slices.Clone(ids)
	for shift := range 63 {
		n := (g.next(1<<31)<<32 | g.next(1<<31)) >> shift
		all = append(all, n, -n)
	}
	for id := -1500; id < 1500; id++ {
		all = append(all, id)
	}
	for _, id := range all {
		spot := spotOf("id", id, 0)
		for shards := 1; shards <= 16; shards++ {
			if n, e := Part(id, shards); n != spot%shards || e != api.OK {
				t.Fatalf("Part(%d, %d) = %d, %d, want %d", id, shards, n, e, spot%shards)
			}
		}
		for _, shards := range noMany {
			if n, e := Part(id, shards); n != 0 || e != api.ErrArg {
				t.Fatalf("Part(%d, %d) = %d, %d", id, shards, n, e)
			}
		}
	}
}

// moved sees to it that of two homes, without and with a node, the other one is just that node.
func moved(t *testing.T, node, without, with int) {
	t.Helper()
	if with != without && with != node || without == node {
		t.Fatalf("node %d: home %d without it, %d with it", node, without, with)
	}
}

// checkComes sees to it that what has another home, when a node comes, has it with that node.
func checkComes(t *testing.T, s *spots, nodes []int, node, places int) {
	t.Helper()
	few := ringOf(t, nodes, places)
	more := ringOf(t, append(slices.Clone(nodes), node), places)
	for many := 1; many <= 16; many++ {
		a, e := few.Shards(many)
		b, f := more.Shards(many)
		if e != api.OK || f != api.OK || len(a) != many || len(b) != many {
			t.Fatal(a, e, b, f)
		}
		for i := range many {
			moved(t, node, a[i], b[i])
		}
	}
	for _, spot := range s.edges(more.Nodes(), places) {
		a, e := few.Home(spot)
		b, f := more.Home(spot)
		if e != api.OK || f != api.OK {
			t.Fatal(spot, e, f)
		}
		moved(t, node, a, b)
	}
	for _, spot := range s.node[node][:places] { // here it comes
		checkHome(t, more, spot, node)
	}
}

// Ri3: each node that comes to each set of others, and, the other way about, goes.
func TestComesAndGoes(t *testing.T) {
	s := allSpots()
	var g numbers
	for _, nodes := range sets()[1:] {
		for node := range 8 {
			if !slices.Contains(nodes, node) {
				checkComes(t, s, nodes, node, 1)
				checkComes(t, s, nodes, node, 2+g.next(63))
			}
		}
	}
}

// Ri1: in whichever order the nodes are told, the ring is the same.
func TestAnyOrder(t *testing.T) {
	var g numbers
	nodes := []int{0, 1, 2, 3, 4, 5, 6, 7}
	for range 300 {
		for i := range nodes {
			j := i + g.next(len(nodes)-i)
			nodes[i], nodes[j] = nodes[j], nodes[i]
		}
		some := nodes[:1+g.next(8)]
		rising := slices.Sorted(slices.Values(some))
		places := 1 + g.next(64)
		a, b := ringOf(t, some, places), ringOf(t, rising, places)
		if !slices.Equal(a.Nodes(), rising) {
			t.Fatalf("Nodes of %v: %v", some, a.Nodes())
		}
		for range 50 {
			spot := g.next(1 << 24)
			want, _ := b.Home(spot)
			checkHome(t, a, spot, want)
		}
		want, _ := b.Shards(16)
		checkShards(t, a, 16, want)
	}
}

// R3: what is handed in is not changed, not read beyond its end, and not kept.
func TestHandedIn(t *testing.T) {
	room := []int{6, 2, 4, 8, 2, -1}
	r := ringOf(t, room[:3], 5)
	if !slices.Equal(room, []int{6, 2, 4, 8, 2, -1}) {
		t.Fatal(room)
	}
	want, _ := r.Shards(16)
	for i := range room {
		room[i] = 7
	}
	if l := r.Nodes(); !slices.Equal(l, []int{2, 4, 6}) {
		t.Error(l)
	}
	checkShards(t, r, 16, want)
	if _, e := New(room[:2], 5); e != api.ErrArg {
		t.Error(e)
	}
	checkShards(t, r, 16, want)
}

// R3: an answer's list is new memory, also in the room behind its end.
func TestNewMemory(t *testing.T) {
	r := ringOf(t, []int{5, 0, 3}, 5)
	homes, _ := r.Shards(16)
	want := slices.Clone(homes)
	for range 3 {
		nodes := r.Nodes()
		l, e := r.Shards(16)
		if !slices.Equal(nodes, []int{0, 3, 5}) || !slices.Equal(l, want) || e != api.OK {
			t.Fatal(nodes, l, e)
		}
		for _, old := range [][]int{nodes[:cap(nodes)], l[:cap(l)]} {
			for i := range old {
				old[i] = 7
			}
		}
		if !slices.Equal(homes, want) {
			t.Fatal(homes)
		}
	}
}

// R4: rings stand apart, and what was asked, or refused, ahead changes nothing.
func TestApart(t *testing.T) {
	s := allSpots()
	var g numbers
	var rings []*Ring
	some := [][]int{{0}, {1, 2}, {7, 3, 5}, {0, 1, 2, 3, 4, 5, 6, 7}, {2, 1}}
	for i, nodes := range some {
		rings = append(rings, ringOf(t, nodes, 3*i+1))
	}
	for range 3000 {
		i := g.next(len(rings))
		spot := g.next(1 << 24)
		many := 1 + g.next(16)
		checkHome(t, rings[i], spot, s.home(some[i], 3*i+1, spot))
		checkShards(t, rings[i], many, s.shards(some[i], 3*i+1, many))
		rings[i].Home(-1 - spot)
		rings[i].Shards(many + 16)
		New([]int{8}, 3)
	}
}

// R1: of a ring that New did not give, there is nothing.
func TestNotGiven(t *testing.T) {
	r := ringOf(t, []int{1, 4}, 3)
	copied := *r
	none := ringOf(t, nil, 3)
	alike := *none
	for name, n := range map[string]*Ring{"nil": nil, "zero": {}, "copied": &copied, "copied, without nodes": &alike} {
		for _, spot := range append([]int{0, 1, 1<<24 - 1}, noSpots...) {
			if h, e := n.Home(spot); h != 0 || e != api.ErrArg {
				t.Errorf("%s: Home(%d) = %d, %d", name, spot, h, e)
			}
		}
		for _, many := range append([]int{1, 2, 16}, noMany...) {
			if l, e := n.Shards(many); len(l) != 0 || e != api.ErrArg {
				t.Errorf("%s: Shards(%d) = %v, %d", name, many, l, e)
			}
		}
		if l := n.Nodes(); len(l) != 0 {
			t.Errorf("%s: Nodes = %v", name, l)
		}
	}
	checkHome(t, r, 0x7c344d, 1)
}

// heap is how many bytes are in use.
func heap() int {
	runtime.GC()
	var m runtime.MemStats
	runtime.ReadMemStats(&m)
	return int(m.HeapAlloc)
}

// Ri1: a ring keeps its nodes and places, not what it was handed, and no more for being asked.
func TestKeptMemory(t *testing.T) {
	r := ringOf(t, []int{0, 1, 2, 3, 4, 5, 6, 7}, 64)
	before := heap()
	for spot := range 100000 {
		r.Home(spot)
		r.Nodes()
		if spot%16 == 0 {
			r.Shards(16)
		}
	}
	if n := heap() - before; n > 1<<16 {
		t.Errorf("%d bytes are kept of what was asked", n)
	}
	var l []*Ring
	for i := range 100 {
		room := make([]int, 1<<16)
		l = append(l, ringOf(t, room[:i%2], 1))
	}
	if n := heap() - before; n > 1<<18 {
		t.Errorf("%d bytes are kept of what was handed in", n)
	}
	runtime.KeepAlive(l)
	runtime.KeepAlive(r)
}
