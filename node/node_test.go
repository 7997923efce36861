package node

import (
	"fmt"
	"math"
	"plover/api"
	"plover/block"
	"reflect"
	"runtime"
	"slices"
	"strings"
	"testing"
)

// No1: the chapter's example.
func TestExample(t *testing.T) {
	n := newNode(t, config(2, 1), newDisks(t, 2, 100))
	if e := n.Found(0, 1); e != api.OK {
		t.Fatal(e)
	}
	if m, ok := n.Hears(insert(0, 2, 1, 7, 3)); !ok || m.Kind != api.MsgWrote {
		t.Error(show(m), ok)
	}
	if l := n.Marks(); len(l) != 1 || l[0].Client != 2 || l[0].Seq != 1 {
		t.Error(l)
	}
}

// fieldsOf are the fields of a config, in order, and the greatest that each may be; the least is 1, but for Blocks.
func fieldsOf(c *api.Config) ([]*int, []int, []int) {
	return []*int{&c.Nodes, &c.Shards, &c.Dim, &c.Clients, &c.Blocks, &c.Tries, &c.Wait}, []int{1, 1, 1, 1, 16, 1, 1}, []int{8, 16, 16, 8, 16384, 1000, 1000}
}

// No1: each field of a config at its limits and beyond.
func TestConfig(t *testing.T) {
	disks := newDisks(t, 17, 16)
	try := func(c api.Config, many int, may bool) {
		t.Helper()
		n, e := New(c, disks[:many])
		if may && (n == nil || e != api.OK) || !may && (n != nil || e != api.ErrArg) {
			t.Fatalf("New(%+v) of %d disks = %v, %d", c, many, n, e)
		}
	}
	for i := range 7 {
		c := config(3, 2)
		fields, least, most := fieldsOf(&c)
		at, low, high := fields[i], least[i], most[i]
		for _, n := range []int{low, low + 1, (low + high) / 2, high - 1, high} {
			*at = n
			try(c, c.Shards, true)
		}
		for _, n := range []int{math.MinInt, math.MinInt + 1, -high, -low, -1, 0, low - 1, high + 1, high + 2, 2 * high, 1 << 20, 1<<32 + low, 1<<40 + high, math.MaxInt} {
			*at = n
			for many := range 18 {
				try(c, many, false)
			}
		}
	}
	for i := range 7 {
		for j := range 7 {
			for _, n := range []int{-1, 0, 1 << 20} {
				c := config(3, 2)
				fields, _, _ := fieldsOf(&c)
				*fields[i], *fields[j] = n, n
				try(c, 3, false)
			}
		}
	}
	try(api.Config{}, 0, false)
	c := api.Config{Nodes: 1, Shards: 1, Dim: 1, Clients: 1, Blocks: 16, Tries: 1, Wait: 1}
	try(c, 1, true)
	try(api.Config{Nodes: 8, Shards: 16, Dim: 16, Clients: 8, Blocks: 16384, Tries: 1000, Wait: 1000}, 16, true)
}

// No1: there are as many disks as Shards.
func TestHowManyDisks(t *testing.T) {
	for shards := 1; shards <= 16; shards++ {
		for many := range 18 {
			n, e := New(config(shards, 1), newDisks(t, many, 4))
			if many == shards && (n == nil || e != api.OK) || many != shards && (n != nil || e != api.ErrArg) {
				t.Errorf("%d shards, %d disks: %v, %d", shards, many, n, e)
			}
		}
	}
	if n, e := New(config(1, 1), nil); n != nil || e != api.ErrArg {
		t.Errorf("no disks: %v, %d", n, e)
	}
}

// spoilt is a disk which a shard that is opened on it would write: a record's part is there, and something is loose.
func spoilt(t *testing.T) *block.Disk {
	t.Helper()
	d := newDisk(t, 16)
	d.Put(2, "junk")
	d.Sync()
	d.Put(9, "loose")
	return d
}

// No1, R2: one that is no disk, at each place; the others stay as they were.
func TestNoDisk(t *testing.T) {
	for shards := 1; shards <= 5; shards++ {
		for at := range shards {
			copied := *newDisk(t, 16)
			for _, no := range []*block.Disk{nil, {}, &copied} {
				var disks []*block.Disk
				for range shards {
					disks = append(disks, spoilt(t))
				}
				disks[at] = no
				before := blocksOf(disks)
				if n, e := New(config(shards, 1), disks); n != nil || e != api.ErrArg {
					t.Errorf("%d disks, no one at %d: %v, %d", shards, at, n, e)
				}
				if !slices.Equal(before, blocksOf(disks)) {
					t.Errorf("%d disks, no one at %d: another one has changed", shards, at)
				}
			}
		}
	}
	disks := []*block.Disk{spoilt(t), spoilt(t)}
	before := blocksOf(disks)
	bad := config(2, 1)
	bad.Wait = 0
	New(bad, disks)
	New(config(3, 1), disks)
	New(config(1, 1), disks)
	if !slices.Equal(before, blocksOf(disks)) {
		t.Error("a New that is refused has changed a disk")
	}
}

// R1: one disk at two places is a disk: all calls end, whatever its two shards write over one another.
func TestOneDiskTwice(t *testing.T) {
	d := newDisk(t, 40)
	all := questions(t)
	for seed := range 20 {
		g := &numbers{uint64(seed)}
		n := newNode(t, config(2, 1), []*block.Disk{d, d})
		for range 300 {
			m := all[g.next(len(all))]
			m.Shard = g.next(2)
			n.Found(m.Shard, 1+g.next(9))
			if _, ok := n.Hears(m); !ok {
				t.Fatalf("Hears(%s) gives no answer", show(m))
			}
		}
	}
}

// No1: what else a config has changes no answer: nodes, clients, blocks, tries and ticks are not the node's.
func TestWhatElseConfigHas(t *testing.T) {
	play := func(c api.Config) string {
		n := newNode(t, c, newDisks(t, 2, 40))
		n.Found(1, 2)
		s := ""
		for i := range 60 {
			m, ok := n.Hears(insert(1, i%8, 1+i, i%9, i))
			s += fmt.Sprint(m, ok)
		}
		m, ok := n.Hears(query(1, 3, 64, 1<<40, 4))
		return s + fmt.Sprint(m, ok, n.Marks())
	}
	want := play(config(2, 1))
	if !strings.Contains(want, "{2 1 0 7 ") || strings.Contains(want, "{19 ") {
		t.Error(want)
	}
	for _, c := range []api.Config{{Nodes: 1, Clients: 1, Blocks: 16, Tries: 1, Wait: 1}, {Nodes: 8, Clients: 3, Blocks: 16384, Tries: 1000, Wait: 1000}} {
		c.Shards, c.Dim = 2, 1
		if play(c) != want {
			t.Errorf("with %+v the answers are others", c)
		}
	}
}

// No1: vectors are of Dim numbers.
func TestDim(t *testing.T) {
	for dim := 1; dim <= 16; dim++ {
		n := newNode(t, config(1, dim), newDisks(t, 1, 100))
		n.Found(0, 1)
		for many := range 17 {
			want := api.ErrDim
			if many == dim {
				want = api.OK
			}
			v := make([]int, many)
			if m, ok := n.Hears(insert(0, 1, many+1, 3, v...)); !ok || m.Kind != api.MsgWrote || m.Reply.Err != want {
				t.Errorf("dim %d, %d numbers: %s, %v", dim, many, show(m), ok)
			}
			if m, ok := n.Hears(query(0, 1, 1, 0, v...)); !ok || m.Kind != api.MsgTold || m.Reply.Err != want {
				t.Errorf("dim %d, %d numbers: %s, %v", dim, many, show(m), ok)
			}
		}
	}
}

// No1: which shards there are, for Found, Stands, Points and Hears.
func TestWhichShards(t *testing.T) {
	for shards := 1; shards <= 16; shards++ {
		x := newTwin(t, config(shards, 1), 16)
		for _, no := range []int{math.MinInt, -1 << 32, -16, -1, shards, shards + 1, 15, 16, 17, 256, 1 << 32, 1<<32 + shards - 1, math.MaxInt} {
			if no >= 0 && no < shards {
				continue
			}
			for _, epoch := range []int{1, 0, 1 << 41} {
				if e := x.found(no, epoch); e != api.ErrArg {
					t.Errorf("%d shards: Found(%d) = %d", shards, no, e)
				}
			}
			for kind := range 20 {
				if m, ok := x.n.Hears(api.Msg{Kind: kind, Shard: no, N: 1, Epoch: 1, Client: 1, Seq: 1}); ok || !same(m, api.Msg{}) {
					t.Errorf("%d shards: one to %d: %s, %v", shards, no, show(m), ok)
				}
			}
			if a, b, c, d := x.n.Stands(no); a != 0 || b != 0 || c != 0 || d != 0 {
				t.Errorf("%d shards: Stands(%d) = %d, %d, %d, %d", shards, no, a, b, c, d)
			}
			if l := x.n.Points(no); len(l) != 0 {
				t.Errorf("%d shards: Points(%d) = %v", shards, no, l)
			}
		}
		for s := range shards {
			x.found(s, s+1)
			x.must(insert(s, s%8, 9, -s, 5*s))
		}
		for s := range shards {
			if state, epoch, version, move := x.n.Stands(s); state != 2 || epoch != s+1 || version != 1 || move != 0 {
				t.Errorf("%d shards: Stands(%d) = %d, %d, %d, %d", shards, s, state, epoch, version, move)
			}
			if l := x.n.Points(s); len(l) != 1 || l[0].Id != -s || !slices.Equal(l[0].V, []int{5 * s}) {
				t.Errorf("%d shards: Points(%d) = %v", shards, s, l)
			}
		}
		x.end()
	}
}

// No1: Found is as layer 10's.
func TestFound(t *testing.T) {
	x := newTwin(t, config(2, 1), 100)
	for _, no := range append([]int{0}, noNumber...) {
		if e := x.found(1, no); e != api.ErrArg {
			t.Errorf("Found of the epoch %d = %d", no, e)
		}
	}
	if e := x.found(1, 1<<40-1); e != api.OK {
		t.Error(e)
	}
	if e := x.found(1, 1<<40); e != api.ErrSealed {
		t.Error(e)
	}
	x.must(api.Msg{Kind: 11, Shard: 1, N: 4})
	if e := x.found(1, 1<<40); e != api.ErrSealed {
		t.Error(e)
	}
	x.must(api.Msg{Kind: 15, Shard: 1, N: 4})
	if e := x.found(1, 1<<40-1); e != api.ErrEpoch {
		t.Error(e)
	}
	if e := x.found(1, 1<<40); e != api.OK {
		t.Error(e)
	}
	if e := x.found(0, 1); e != api.OK {
		t.Error(e)
	}
	x.end()
	small := newTwin(t, config(1, 1), 4)
	long := 1<<40 - 3
	if e := small.found(0, long); e != api.OK && e != api.ErrDisk {
		t.Error(e)
	}
	small.end()
}

// No1: what is no question has no answer, and changes nothing.
func TestNoQuestion(t *testing.T) {
	x := some(t, "owner")
	y := some(t, "copy")
	for _, kind := range noKind {
		for _, n := range []int{0, 3, 5, 1 << 40} {
			for _, m := range []api.Msg{{Kind: kind, N: n}, full(api.Msg{Kind: kind, N: n}), insert(0, 1, 9, 4, 4)} {
				m.Kind, m.N = kind, n
				x.hears(m)
				y.hears(m)
			}
		}
	}
	x.end()
	y.end()
}

// No1: what layer 13 refuses has no answer, whichever question it is; at its limits it has one.
func TestPostRefuses(t *testing.T) {
	type change func(m *api.Msg)
	number := func(at func(m *api.Msg) *int, good []int, bad ...int) (may, no []change) {
		for _, n := range good {
			may = append(may, func(m *api.Msg) { *at(m) = n })
		}
		for _, n := range append(bad, math.MinInt, -1, math.MaxInt) {
			no = append(no, func(m *api.Msg) { *at(m) = n })
		}
		return may, no
	}
	var may, no []change
	add := func(m, n []change) { may, no = append(may, m...), append(no, n...) }
	for _, at := range []func(m *api.Msg) *int{
		func(m *api.Msg) *int { return &m.Epoch }, func(m *api.Msg) *int { return &m.Client }, func(m *api.Msg) *int { return &m.Seq },
		func(m *api.Msg) *int { return &m.N }, func(m *api.Msg) *int { return &m.Version }, func(m *api.Msg) *int { return &m.Limit },
	} {
		add(number(at, []int{0, 1, 1 << 40}, 1<<40+1))
	}
	add(number(func(m *api.Msg) *int { return &m.Op.Kind }, []int{0, 1, 2, 3}, 4))
	add(number(func(m *api.Msg) *int { return &m.Op.K }, []int{0, 1, 64}, 65))
	add(number(func(m *api.Msg) *int { return (*int)(&m.Reply.Err) }, []int{0, 1, 255}, 256))
	add([]change{func(m *api.Msg) { m.Op.V = nil }, func(m *api.Msg) { m.Op.V = make([]int, 16) }, func(m *api.Msg) { m.Op.Id = math.MinInt }},
		[]change{func(m *api.Msg) { m.Op.V = make([]int, 17) }, func(m *api.Msg) { m.Op.V = []int{1 << 31} }})
	add([]change{func(m *api.Msg) { m.Reply.Hits = make([]api.Hit, 64) }, func(m *api.Msg) { m.Reply.Was = true }},
		[]change{func(m *api.Msg) { m.Reply.Hits = make([]api.Hit, 65) }, func(m *api.Msg) { m.Reply.Hits = []api.Hit{{Dist: -1}} }})
	add([]change{func(m *api.Msg) { m.Text = strings.Repeat("x", 1<<18) }}, []change{func(m *api.Msg) { m.Text = strings.Repeat("x", 1<<18+1) }})
	for _, state := range states {
		for kind := 1; kind <= 17; kind += 2 {
			base := api.Msg{Kind: kind, Client: 1, Seq: 99, N: 50, Epoch: 50, Op: api.Op{Kind: 2, Id: 1, V: []int{3}, K: 2}}
			x := some(t, state)
			for i, by := range no {
				m := base
				by(&m)
				if out := x.hears(m); out.Kind != 0 {
					t.Fatalf("%s: kind %d, change %d: %s", state, kind, i, show(out))
				}
			}
			x.sameMarks()
			for i, by := range may {
				x := some(t, state)
				m := base
				by(&m)
				if out := x.hears(m); out.Kind == 0 {
					t.Fatalf("%s: kind %d, limit %d: %s", state, kind, i, show(out))
				}
			}
		}
	}
}

// No1: marks, in order, of changes that were done for the first time.
func TestMarks(t *testing.T) {
	x := newTwin(t, config(3, 1), 100)
	if l := x.n.Marks(); len(l) != 0 {
		t.Error(l)
	}
	x.hears(insert(1, 1, 1, 1, 1)) // not the owner
	x.found(1, 1)
	x.found(2, 1)
	for _, m := range []api.Msg{
		insert(1, 7, 3, 5, 1), insert(2, 7, 2, 5, 1), insert(1, 0, 1<<40, 5, 1), insert(1, 7, 3, 5, 1), drop(1, 6, 1, 9),
		drop(1, 6, 1, 5), drop(2, 7, 5, 5), insert(1, 7, 4, 5, 2),
	} {
		x.must(m)
	}
	for _, m := range []api.Msg{
		insert(1, 7, 2, 5, 1), insert(1, 7, 5, 5), insert(1, 7, 5, 5, 1, 2), insert(1, 8, 1, 5, 1), insert(1, 7, 0, 5, 1), insert(0, 7, 9, 5, 1),
		query(1, 4, 3, 9, 1), {Kind: 5, Shard: 1, N: 4}, {Kind: 7, Shard: 1, N: 4}, {Kind: 2, Shard: 1, Client: 1, Seq: 1}, {Kind: 1, Shard: 1, Client: 7, Seq: 5, Op: api.Op{Kind: 3}},
	} {
		x.hears(m)
	}
	want := []Mark{{7, 3}, {7, 2}, {0, 1 << 40}, {6, 1}, {7, 5}, {7, 4}}
	l := x.n.Marks()
	if !slices.Equal(l, want) {
		t.Errorf("Marks = %v, want %v", l, want)
	}
	if l := x.n.Marks(); len(l) != 0 {
		t.Errorf("Marks again = %v", l)
	}
	x.must(insert(2, 3, 4, 5, 1))
	x.must(insert(2, 3, 4, 5, 1))
	more := x.n.Marks()
	if !slices.Equal(more, []Mark{{3, 4}}) || !slices.Equal(l, want) {
		t.Errorf("Marks = %v, and those of before %v", more, l)
	}
	l[0], more[0] = Mark{9, 9}, Mark{8, 8}
	if l := append(more, Mark{1, 1}); len(l) != 2 || len(x.n.Marks()) != 0 {
		t.Error("Marks that were told are the node's")
	}
	x.must(drop(1, 5, 5, 5))
	x.must(insert(2, 4, 1, 5, 1))
	if l := x.n.Marks(); !slices.Equal(l, []Mark{{5, 5}, {4, 1}}) {
		t.Errorf("Marks = %v", l)
	}
}

// No1: marks are those of the node: one that is made anew has none, and does none twice.
func TestMarksAnew(t *testing.T) {
	x := newTwin(t, config(1, 1), 100)
	x.found(0, 1)
	x.must(insert(0, 1, 1, 5, 1))
	x.fail(0, 0)
	x.must(insert(0, 1, 1, 5, 1))
	if l := x.n.Marks(); len(l) != 0 {
		t.Error(l)
	}
	x.must(insert(0, 1, 2, 5, 1))
	if l := x.n.Marks(); !slices.Equal(l, []Mark{{1, 2}}) {
		t.Error(l)
	}
}

// R1: of a node that New did not give: ErrArg, nothing, 0; and it changes none that New gave.
func TestNotGiven(t *testing.T) {
	for _, state := range states {
		x := some(t, state)
		copied := *x.n
		for name, n := range map[string]*Node{"nil": nil, "zero": {}, "copied": &copied} {
			for _, shard := range []int{-1, 0, 1, 16, math.MinInt, math.MaxInt} {
				if e := n.Found(shard, 99); e != api.ErrArg {
					t.Errorf("%s: Found(%d) = %d", name, shard, e)
				}
				if a, b, c, d := n.Stands(shard); a != 0 || b != 0 || c != 0 || d != 0 {
					t.Errorf("%s: Stands(%d) = %d, %d, %d, %d", name, shard, a, b, c, d)
				}
				if l := n.Points(shard); len(l) != 0 {
					t.Errorf("%s: Points(%d) = %v", name, shard, l)
				}
				for kind := range 20 {
					for _, m := range []api.Msg{{Kind: kind, Shard: shard}, {Kind: kind, Shard: shard, N: 9, Epoch: 9}, full(api.Msg{Kind: kind, Shard: shard}), insert(shard, 1, 99, 4, 4)} {
						if out, ok := n.Hears(m); ok || !same(out, api.Msg{}) {
							t.Errorf("%s: Hears(%s) = %s, %v", name, show(m), show(out), ok)
						}
					}
				}
			}
			if l := n.Marks(); len(l) != 0 {
				t.Errorf("%s: Marks = %v", name, l)
			}
		}
		x.check()
		x.end()
	}
}

// R3: what is handed in is not changed, nor kept where it is a list, nor what lies behind a list's end.
func TestHandedIn(t *testing.T) {
	c := config(2, 2)
	all := newDisks(t, 4, 100)
	disks := append([]*block.Disk(nil), all...)
	n := newNode(t, c, disks[:2])
	if !slices.Equal(disks, all) {
		t.Fatal("the disks have changed")
	}
	clear(disks)
	n.Found(1, 1)
	v := []int{4, 5, 6, 7}
	hits := []api.Hit{{Id: 1, Dist: 2}, {Id: 3, Dist: 4}}
	m := insert(1, 1, 1, 9, v[:2]...)
	m.Op.V, m.Reply.Hits = v[:2], hits[:1]
	n.Hears(m)
	ask := query(1, 1, 5, 99, 0, 0)
	ask.Op.V = v[:2]
	out, _ := n.Hears(ask)
	if !slices.Equal(v, []int{4, 5, 6, 7}) || !slices.Equal(hits, []api.Hit{{Id: 1, Dist: 2}, {Id: 3, Dist: 4}}) {
		t.Error(v, hits)
	}
	v[0], v[1] = 100, 100
	if again, _ := n.Hears(query(1, 1, 5, 99, 4, 5)); !same(out, again) || len(again.Reply.Hits) != 1 || again.Reply.Hits[0] != (api.Hit{Id: 9}) {
		t.Error(show(again))
	}
	if all[1].Loose() != 0 || newNode(t, c, all[:2]).Points(1)[0].V[0] != 4 {
		t.Error("it is not on its disk")
	}
}

// R3: an answer's lists are new memory.
func TestNewMemory(t *testing.T) {
	n := newNode(t, config(1, 1), newDisks(t, 1, 100))
	n.Found(0, 1)
	for i := range 9 {
		n.Hears(insert(0, 0, i+1, i, i))
	}
	ask := query(0, 1, 3, 99, 4)
	first, _ := n.Hears(ask)
	want := slices.Clone(first.Reply.Hits)
	_ = append(first.Reply.Hits[:1], api.Hit{Id: 77})
	first.Reply.Hits[0].Id = 66
	if again, _ := n.Hears(ask); !slices.Equal(again.Reply.Hits, want) {
		t.Error(show(again))
	}
	l := n.Points(0)
	l[0].V[0], l[1].Id = 55, 44
	if l := n.Points(0); l[0].V[0] != 0 || l[1].Id != 1 {
		t.Error(l)
	}
}

// R4: nodes are apart from one another, and what one tells hangs on its calls alone.
func TestApart(t *testing.T) {
	play := func() string {
		var all []*Node
		for range 4 {
			n := newNode(t, config(3, 2), newDisks(t, 3, 60))
			all = append(all, n)
		}
		g := &numbers{23}
		s := ""
		for range 600 {
			n, shard := all[g.next(4)], g.next(3)
			if g.next(20) == 0 {
				s += fmt.Sprint(n.Found(shard, 1+g.next(9)))
			}
			m := insert(shard, g.next(8), 1+g.next(40), g.next(9), g.next(50), g.next(50))
			if g.next(3) == 0 {
				m = query(shard, g.next(9), 1+g.next(9), g.next(99), g.next(50), g.next(50))
			}
			out, ok := n.Hears(m)
			s += fmt.Sprint(out, ok)
			if g.next(9) == 0 {
				s += fmt.Sprint(n.Marks(), n.Points(shard))
			}
		}
		return s
	}
	first := play()
	for range 5 {
		if play() != first {
			t.Fatal("the same calls were answered otherwise")
		}
	}
}

// heap is how many bytes are in use.
func heap() int {
	runtime.GC()
	var m runtime.MemStats
	runtime.ReadMemStats(&m)
	return int(m.HeapAlloc)
}

// No1: marks that were asked for are not kept, and nothing of what is asked.
func TestKeptMemory(t *testing.T) {
	n := newNode(t, config(1, 1), newDisks(t, 1, 100))
	n.Found(0, 1)
	for i := range 300 {
		n.Hears(insert(0, i%8, i+1, i%9, i))
	}
	n.Marks()
	before := heap()
	for i := range 60000 {
		n.Hears(insert(0, i%8, 301+i, i%9, i%99))
		if i%1000 == 999 {
			if l := n.Marks(); len(l) != 1000 {
				t.Fatal(len(l))
			}
		}
		m := query(0, i, 3, 99, i%99)
		m.Text = strings.Repeat("x", i%100)
		n.Hears(m)
	}
	if n := heap() - before; n > 200_000 {
		t.Errorf("%d bytes are kept", n)
	}
	for i := range 300 {
		n.Hears(api.Msg{Kind: 9, N: 1 + i, Text: strings.Repeat("x", 1<<18)})
	}
	if n := heap() - before; n > 500_000 {
		t.Errorf("%d bytes are kept of texts", n)
	}
	runtime.KeepAlive(n)
}

// The numbers that the chapter names.
func TestNumbers(t *testing.T) {
	if reflect.TypeFor[Mark]() != reflect.TypeOf(Mark{Client: 1, Seq: 2}) || api.MsgWrite != 1 || api.MsgMoved != 19 || api.MaxShards != 16 || api.MaxBlocks != 16384 {
		t.Error("api has other numbers")
	}
}
