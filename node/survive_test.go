package node

import (
	"plover/api"
	"plover/block"
	"plover/move"
	"plover/vec"
	"slices"
	"testing"
)

// No2: behind a failure, whatever survives, each question is answered as it would have been.
func TestEachFailure(t *testing.T) {
	all := questions(t)
	for _, state := range states {
		for i, m := range all {
			if i%5 != len(state)%5 { // some of them: TestEachState asks them all
				continue
			}
			x := some(t, state)
			x.fail(i%7, i%130)
			x.hears(m)
			x.end()
			x.hears(m)
			x.hears(query(1, 1, 64, 1<<40, 5))
			x.hears(api.Msg{Kind: 7, Shard: 1, N: 1})
		}
	}
}

// No2: what was loose on its disks when it was made of them, and told, is there behind a failure, too.
func TestLooseAhead(t *testing.T) {
	told := newDisks(t, 2, 60)
	n := newNode(t, config(2, 1), told)
	n.Found(0, 1)
	n.Hears(insert(0, 1, 1, 7, 3))
	copied := newDisks(t, 2, 60)
	for i, d := range told {
		for b := range d.Blocks() {
			s, _ := d.Get(b)
			copied[i].Put(b, s)
		}
	}
	n = newNode(t, config(2, 1), copied)
	if m, _ := n.Hears(query(0, 1, 1, 0, 3)); len(m.Reply.Hits) != 1 {
		t.Fatal(show(m))
	}
	for _, d := range copied {
		d.Fail(0, 0)
	}
	n = newNode(t, config(2, 1), copied)
	if m, _ := n.Hears(query(0, 1, 1, 0, 3)); len(m.Reply.Hits) != 1 {
		t.Error(show(m))
	}
}

// No2: a failure of one disk, while the others stay, or between any two calls.
func TestLongRows(t *testing.T) {
	base := questions(t)
	for seed := range 60 {
		g := &numbers{uint64(seed)}
		x := newTwin(t, config(3, 1), g.pick(12, 20, 40, 100))
		var texts []string
		for range 400 {
			m := base[g.next(len(base))]
			m.Shard = g.next(4)
			if m.Kind == 13 || m.Kind == 17 || m.Kind == 9 || m.Kind == 11 || m.Kind == 15 {
				m.N = g.pick(0, 1, 2, 3, 4, 5, 6, 7, 8, 9, 10)
				m.Epoch = g.pick(1, 2, 3, 4, 5, 6, 7, 8)
				if len(texts) > 0 && g.next(4) > 0 {
					m.Text = texts[g.next(len(texts))]
				}
			}
			if g.next(3) > 0 {
				m = insert(g.next(3), g.next(8), 1+g.next(30), g.next(12), g.next(9))
			}
			if g.next(12) == 0 {
				x.found(g.next(4)-1, 1+g.next(9))
			}
			out := x.hears(m)
			if out.Text != "" && len(texts) < 20 {
				texts = append(texts, out.Text)
			}
			switch g.next(30) {
			case 0:
				x.fail(g.next(9)-1, g.next(140)-1)
			case 1:
				x.disks[g.next(3)].Fail(g.next(9), g.next(140))
			case 2:
				x.sameMarks()
			}
		}
		x.end()
	}
}

// town is some nodes, a chart, moves, and letters that are lost, doubled and late; what clients did is held against one set of points.
type town struct {
	t      *testing.T
	g      *numbers
	c      api.Config
	disks  [][]*block.Disk
	nodes  []*Node
	chart  []int
	moves  []*move.Move
	begun  int
	to     []letter
	from   []letter
	asked  []api.Msg
	did    map[Mark]api.Msg
	was    map[Mark]bool
	points map[int]api.Point
	epochs []int
	told   int
}

type letter struct {
	node int
	m    api.Msg
}

func newTown(t *testing.T, seed int) *town {
	t.Helper()
	x := &town{t: t, g: &numbers{uint64(seed)}, c: config(3, 2), chart: make([]int, 3), moves: make([]*move.Move, 3), epochs: make([]int, 3),
		did: map[Mark]api.Msg{}, was: map[Mark]bool{}, points: map[int]api.Point{}}
	for range 3 {
		x.disks = append(x.disks, newDisks(t, 3, 200))
		x.nodes = append(x.nodes, newNode(t, x.c, x.disks[len(x.disks)-1]))
	}
	for s := range 3 {
		x.chart[s] = s % 2
		x.nodes[s%2].Found(s, 1)
	}
	return x
}

// post lets a letter wait, once or twice, or loses it.
func (x *town) post(l []letter, node int, m api.Msg) []letter {
	for range x.g.pick(0, 1, 1, 1, 2) {
		l = append(l, letter{node, m})
	}
	return l
}

// take is one of the letters, whichever; most often it is there no more.
func (x *town) take(l *[]letter) (letter, bool) {
	if len(*l) == 0 {
		return letter{}, false
	}
	i := x.g.next(len(*l))
	out := (*l)[i]
	if x.g.next(4) > 0 {
		*l = slices.Delete(*l, i, i+1)
	}
	return out, true
}

// change asks a node, most often the right one, for a client's next change, or for one that was asked before.
func (x *town) change() {
	i := len(x.asked)
	m := insert(i%3, x.g.next(8), i+1, i%3+3*x.g.next(9), x.g.next(20), x.g.next(20))
	if x.g.next(3) == 0 {
		m.Op = api.Op{Kind: 2, Id: m.Op.Id}
	}
	if i > 0 && x.g.next(3) == 0 {
		m = x.asked[x.g.next(i)]
	} else {
		x.asked = append(x.asked, m)
	}
	node := x.chart[m.Shard]
	if x.g.next(5) == 0 {
		node = x.g.next(3)
	}
	x.to = x.post(x.to, node, m)
}

// say lets each move say what it says, or begins one.
func (x *town) say() {
	shard := x.g.next(3)
	m := x.moves[shard]
	if m == nil {
		x.begun++
		way := api.Move{Shard: shard, From: x.chart[shard], To: (x.chart[shard] + 1 + x.g.next(2)) % 3}
		x.moves[shard], _ = move.New(x.begun, 1+x.begun, way)
		return
	}
	if x.g.next(20) == 0 {
		m.Abort()
	}
	node, says, ok := m.Says()
	if ok {
		x.to = x.post(x.to, node, says)
		return
	}
	x.moves[shard] = nil
	if m.Phase() == move.GivenUp {
		return
	}
	for node := range x.nodes {
		if state, _, _, _ := x.nodes[node].Stands(shard); state == 2 {
			x.chart[shard] = node
		}
	}
}

// deliver lets a node hear a letter, or lets a move hear an answer.
func (x *town) deliver() {
	x.t.Helper()
	if l, ok := x.take(&x.from); ok && l.m.Kind != 2 && x.g.next(2) == 0 {
		if m := x.moves[l.m.Shard]; m != nil {
			m.Hears(l.node, l.m)
		}
		return
	}
	l, ok := x.take(&x.to)
	if !ok {
		return
	}
	out, ok := x.nodes[l.node].Hears(l.m)
	if !ok {
		x.t.Fatalf("Hears(%s) gives no answer", show(l.m))
	}
	x.note(l.m, x.nodes[l.node].Marks())
	switch {
	case out.Kind == 2 && out.Reply.Err == api.OK:
		id := Mark{out.Client, out.Seq}
		if was, done := x.was[id]; !done || was != out.Reply.Was {
			x.t.Fatalf("%v is answered %v, and was done %v, %v", id, out.Reply.Was, done, was)
		}
	case out.Kind == 4:
		x.hits(l.m, out)
	}
	x.from = x.post(x.from, l.node, out)
}

// note does what was done to the one set of points.
func (x *town) note(m api.Msg, marks []Mark) {
	x.t.Helper()
	if len(marks) == 0 {
		return
	}
	id := Mark{m.Client, m.Seq}
	if _, twice := x.did[id]; twice || len(marks) != 1 || marks[0] != id || m.Kind != 1 {
		x.t.Fatalf("behind %s: marks %v", show(m), marks)
	}
	_, was := x.points[m.Op.Id]
	x.did[id], x.was[id] = m, was
	delete(x.points, m.Op.Id)
	if m.Op.Kind == 1 {
		x.points[m.Op.Id] = api.Point{Id: m.Op.Id, V: m.Op.V}
	}
}

// hits holds what was found against all points of the shard.
func (x *town) hits(m, out api.Msg) {
	x.t.Helper()
	var l []api.Point
	for id, p := range x.points {
		if id%3 == m.Shard {
			l = append(l, p)
		}
	}
	want, _ := vec.Search(l, m.Op.V, m.Op.K)
	if !slices.Equal(out.Reply.Hits, want) || out.Reply.Err != api.OK {
		x.t.Fatalf("Hears(%s) = %s, want %v", show(m), show(out), want)
	}
	x.told++
}

// owners holds that each shard has one owner at the most, whose epochs grow, and which has all of its points.
func (x *town) owners() {
	x.t.Helper()
	for s := range 3 {
		owners := 0
		for i, n := range x.nodes {
			state, epoch, _, _ := n.Stands(s)
			if state != 2 {
				continue
			}
			owners++
			if epoch < x.epochs[s] {
				x.t.Fatalf("the shard %d at %d has the epoch %d behind %d", s, i, epoch, x.epochs[s])
			}
			x.epochs[s] = epoch
			for _, p := range n.Points(s) {
				if !slices.Equal(p.V, x.points[p.Id].V) || p.Id%3 != s {
					x.t.Fatalf("the shard %d has %v", s, p)
				}
			}
		}
		if owners > 1 {
			x.t.Fatalf("the shard %d has %d owners", s, owners)
		}
	}
}

// step does one thing or another.
func (x *town) step() {
	x.t.Helper()
	switch n := x.g.next(40); {
	case n < 8:
		x.change()
	case n < 12:
		s := x.g.next(3)
		x.to = x.post(x.to, x.chart[s], query(s, 1+x.g.next(9), 1+x.g.next(5), 1<<40, x.g.next(20), x.g.next(20)))
	case n < 18:
		x.say()
	case n == 39:
		at := x.g.next(3)
		for _, d := range x.disks[at] {
			d.Fail(x.g.next(5), x.g.next(130))
		}
		x.nodes[at] = newNode(x.t, x.c, x.disks[at])
	default:
		x.deliver()
	}
}

// No2: shards go from node to node, letters are lost, doubled and late, nodes fail: each change is done once, by one owner, and stands.
func TestTown(t *testing.T) {
	done, told, moved := 0, 0, 0
	for seed := range 30 {
		x := newTown(t, seed)
		for range 3000 {
			x.step()
			x.owners()
		}
		done += len(x.did)
		told += x.told
		for s, epoch := range x.epochs {
			if state, _, _, _ := x.nodes[s%2].Stands(s); epoch > 1 && state != 2 {
				moved++
			}
		}
	}
	if done < 1000 || told < 1000 || moved < 10 {
		t.Errorf("%d changes, %d queries, %d shards elsewhere", done, told, moved)
	}
}
