package node

import (
	"fmt"
	"math"
	"plover/api"
	"plover/block"
	"plover/post"
	"plover/shard"
	"slices"
	"testing"
)

// numbers gives numbers one behind the other, by a short rule.
type numbers struct{ at uint64 }

func (g *numbers) next(below int) int {
	g.at = g.at*6364136223846793005 + 1442695040888963407
	return int(g.at >> 33 % uint64(below))
}

// pick is one of some numbers.
func (g *numbers) pick(from ...int) int { return from[g.next(len(from))] }

// Numbers that are none of 1 to 2^40, and numbers that are no kind of a question.
var (
	noNumber = []int{math.MinInt, -1 << 40, -1, 1<<40 + 1, 1 << 41, 1<<41 + 3, math.MaxInt}
	noKind   = []int{math.MinInt, -17, -1, 0, 2, 4, 6, 8, 10, 12, 14, 16, 18, 19, 20, 21, 256 + 1, 1<<32 + 1, math.MaxInt}
)

// config is one that may be.
func config(shards, dim int) api.Config {
	return api.Config{Nodes: 3, Shards: shards, Dim: dim, Clients: 8, Blocks: 100, Tries: 5, Wait: 2}
}

func newDisk(t *testing.T, blocks int) *block.Disk {
	t.Helper()
	d, e := block.New(blocks)
	if e != api.OK {
		t.Fatalf("block.New(%d) answers %d", blocks, e)
	}
	return d
}

func newDisks(t *testing.T, many, blocks int) []*block.Disk {
	t.Helper()
	var l []*block.Disk
	for range many {
		l = append(l, newDisk(t, blocks))
	}
	return l
}

func newNode(t *testing.T, c api.Config, disks []*block.Disk) *Node {
	t.Helper()
	n, e := New(c, disks)
	if n == nil || e != api.OK {
		t.Fatalf("New(%+v) = %v, %d", c, n, e)
	}
	return n
}

// blocksOf is all that disks have.
func blocksOf(disks []*block.Disk) []string {
	var l []string
	for _, d := range disks {
		for i := range d.Blocks() {
			s, _ := d.Get(i)
			l = append(l, s)
		}
		l = append(l, fmt.Sprint(d.Loose()))
	}
	return l
}

// show is a message as a short text.
func show(x api.Msg) string {
	n := len(x.Text)
	x.Text = fmt.Sprintf("%.40q", x.Text)
	return fmt.Sprintf("(%+v, %d bytes)", x, n)
}

// same tells whether two messages are the same; a nil list and an empty one are.
func same(a, b api.Msg) bool {
	nums := func(x api.Msg) [12]int {
		return [12]int{x.Kind, x.Shard, x.Epoch, x.Client, x.Seq, x.N, x.Version, x.Limit, x.Op.Kind, x.Op.Id, x.Op.K, int(x.Reply.Err)}
	}
	return nums(a) == nums(b) && a.Reply.Was == b.Reply.Was && a.Text == b.Text && slices.Equal(a.Op.V, b.Op.V) && slices.Equal(a.Reply.Hits, b.Reply.Hits)
}

func samePoints(a, b []api.Point) bool {
	return slices.EqualFunc(a, b, func(p, q api.Point) bool {
		return p.Id == q.Id && slices.Equal(p.V, q.V)
	})
}

// twin is a node, and beside it shards on disks of their own, which never fail, of which the chapter's words are asked; the numbers of the kinds, and of the errors, are written out.
type twin struct {
	t      *testing.T
	c      api.Config
	disks  []*block.Disk
	n      *Node
	shards []*shard.Shard
	marks  []Mark
}

func newTwin(t *testing.T, c api.Config, blocks int) *twin {
	t.Helper()
	x := &twin{t: t, c: c, disks: newDisks(t, c.Shards, blocks)}
	x.n = newNode(t, c, x.disks)
	for _, d := range newDisks(t, c.Shards, blocks) {
		s, e := shard.Open(d, c.Dim)
		if e != api.OK {
			t.Fatal(e)
		}
		x.shards = append(x.shards, s)
	}
	x.check()
	return x
}

// fail lets the power fail at all disks of the node, and goes on with one that is made of them anew.
func (x *twin) fail(keep, torn int) {
	x.t.Helper()
	for _, d := range x.disks {
		d.Fail(keep, torn)
	}
	x.n, x.marks = newNode(x.t, x.c, x.disks), nil
	x.check()
}

// found is Found of both.
func (x *twin) found(shard, epoch int) api.Errno {
	x.t.Helper()
	want := api.Errno(1)
	if shard >= 0 && shard < len(x.shards) {
		want = x.shards[shard].Found(epoch)
	}
	if e := x.n.Found(shard, epoch); e != want {
		x.t.Fatalf("Found(%d, %d) = %d, want %d", shard, epoch, e, want)
	}
	x.check()
	return want
}

// kinds tell by which kind a question is answered.
var kinds = map[int]int{1: 2, 3: 4, 5: 6, 7: 8, 9: 10, 11: 12, 13: 14, 15: 16, 17: 18}

// words is what the document says of a message.
func (x *twin) words(m api.Msg) (api.Msg, bool) {
	kind, question := kinds[m.Kind]
	if post.Check(m) != api.OK || m.Shard >= x.c.Shards || !question {
		return api.Msg{}, false
	}
	s := x.shards[m.Shard]
	state, _, version, _ := s.Stands()
	out, e := api.Msg{Kind: kind}, api.Errno(0)
	moved := true
	switch m.Kind {
	case 1:
		out.Reply, e = s.Write(m.Client, m.Seq, m.Op)
		moved = e == 1 || e == 100
		if _, _, now, _ := s.Stands(); now > version {
			x.marks = append(x.marks, Mark{m.Client, m.Seq})
		}
	case 3:
		out.Version = version
		out.Reply.Hits, e = s.Ask(m.Op.V, m.Op.K, m.Limit)
		moved = e == 100
	case 5:
		out.Version = version
		if state != 2 {
			e = 100
		}
	case 7:
		out.Version = version
		out.Text, e = s.Text()
	case 9:
		e = s.Load(m.N, m.Text)
	case 11:
		if e = s.Seal(m.N); e == 0 {
			var no api.Errno
			if out.Text, no = s.Since(m.Version); no != 0 {
				out.Text, _ = s.Text()
			}
		}
	case 13:
		e = s.Adopt(m.N, m.Epoch, m.Text)
	case 15:
		e = s.Forget(m.N)
		moved = e != 90
	case 17:
		e = s.Reopen(m.N, m.Epoch)
	}
	if e != 0 && moved {
		out = api.Msg{Kind: 19, Version: m.Kind}
	}
	if e != 0 && (moved || m.Kind < 5) {
		out.Reply = api.Reply{Err: e}
	}
	out.Shard = m.Shard
	if m.Kind == 1 {
		out.Client, out.Seq = m.Client, m.Seq
	} else {
		out.N = m.N
	}
	return out, true
}

// hears lets both hear a message: the answer.
func (x *twin) hears(m api.Msg) api.Msg {
	x.t.Helper()
	want, is := x.words(m)
	before := blocksOf(x.disks)
	out, ok := x.n.Hears(m)
	if ok != is || !same(out, want) {
		x.t.Fatalf("Hears(%s) = %s, %v, want %s, %v", show(m), show(out), ok, show(want), is)
	}
	if !ok && !slices.Equal(before, blocksOf(x.disks)) {
		x.t.Fatalf("Hears(%s) gives no answer, and writes", show(m))
	}
	if ok && post.Check(out) != api.OK {
		x.t.Fatalf("Hears(%s) = %s, which is no message that may be", show(m), show(out))
	}
	x.check()
	return out
}

// must hears what is done.
func (x *twin) must(m api.Msg) api.Msg {
	x.t.Helper()
	out := x.hears(m)
	if out.Kind != m.Kind+1 || out.Reply.Err != api.OK {
		x.t.Fatalf("Hears(%s) = %s", show(m), show(out))
	}
	return out
}

// check holds how each shard stands, its points, and that all is sure.
func (x *twin) check() {
	x.t.Helper()
	for i, s := range x.shards {
		state, epoch, version, move := s.Stands()
		want := [4]int{state, epoch, version, move}
		state, epoch, version, move = x.n.Stands(i)
		if got := [4]int{state, epoch, version, move}; got != want {
			x.t.Fatalf("Stands(%d) = %v, want %v", i, got, want)
		}
		if l, want := x.n.Points(i), s.Points(); !samePoints(l, want) {
			x.t.Fatalf("Points(%d) = %v, want %v", i, l, want)
		}
		if x.disks[i].Loose() != 0 {
			x.t.Fatalf("something of %d is not sure", i)
		}
	}
}

// sameMarks holds the marks since it was called last.
func (x *twin) sameMarks() {
	x.t.Helper()
	if l := x.n.Marks(); !slices.Equal(l, x.marks) {
		x.t.Fatalf("Marks = %v, want %v", l, x.marks)
	}
	x.marks = nil
	if l := x.n.Marks(); len(l) != 0 {
		x.t.Fatalf("Marks again = %v", l)
	}
}

// end holds the marks, and that all of it survives.
func (x *twin) end() {
	x.t.Helper()
	x.sameMarks()
	x.fail(0, 0)
	x.sameMarks()
}

// insert, and drop, are questions that ask for a change.
func insert(shard, client, seq, id int, v ...int) api.Msg {
	return api.Msg{Kind: 1, Shard: shard, Client: client, Seq: seq, Op: api.Op{Kind: 1, Id: id, V: v}}
}

func drop(shard, client, seq, id int) api.Msg {
	return api.Msg{Kind: 1, Shard: shard, Client: client, Seq: seq, Op: api.Op{Kind: 2, Id: id}}
}

// query asks for the nearest points.
func query(shard, n, k, limit int, v ...int) api.Msg {
	return api.Msg{Kind: 3, Shard: shard, N: n, Limit: limit, Op: api.Op{Kind: 3, V: v, K: k}}
}

// full is a message with something in all of its fields that are 0.
func full(m api.Msg) api.Msg {
	for i, at := range []*int{&m.Epoch, &m.Client, &m.Seq, &m.N, &m.Version, &m.Limit, &m.Op.Kind, &m.Op.Id, &m.Op.K, (*int)(&m.Reply.Err)} {
		if *at == 0 {
			*at = 1 + i%2
		}
	}
	if m.Op.V == nil {
		m.Op.V = []int{1}
	}
	if m.Text == "" {
		m.Text = "x"
	}
	m.Reply.Was, m.Reply.Hits = true, []api.Hit{{Id: 3, Dist: 4}}
	return m
}
