package shard

import (
	"fmt"
	"maps"
	"math"
	"plover/api"
	"plover/block"
	"slices"
	"sort"
	"strings"
	"testing"
)

// numbers gives numbers one behind the other, by a short rule.
type numbers struct{ at uint64 }

func (g *numbers) next(below int) int {
	g.at = g.at*6364136223846793005 + 1442695040888963407
	return int(g.at >> 33 % uint64(below))
}

// did is what a client did last.
type did struct {
	seq int
	was bool
}

// content is what a text tells, by the document's words.
type content struct {
	dim     int
	version int
	points  map[int][]int
	last    map[int]did
}

func emptyOf(dim int) content {
	return content{dim: dim, points: map[int][]int{}, last: map[int]did{}}
}

func (c content) copy() content {
	c.points, c.last = maps.Clone(c.points), maps.Clone(c.last)
	return c
}

func (c content) list() []api.Point {
	var l []api.Point
	for id, v := range c.points {
		l = append(l, api.Point{Id: id, V: v})
	}
	sort.Slice(l, func(i, j int) bool { return l[i].Id < l[j].Id })
	return l
}

// tells is the content as a text of its own, to hold two against one another.
func (c content) tells() string {
	return fmt.Sprint(c.dim, c.version, c.list(), c.last)
}

// words is a shard by the document's words.
type words struct {
	state, epoch, move int
	content
}

func number(n int) bool { return n >= 1 && n <= 1099511627776 }

func (w *words) isVector(v []int) bool {
	for _, n := range v {
		if n < -2147483648 || n > 2147483647 {
			return false
		}
	}
	return len(v) == w.dim
}

func (w *words) found(epoch int) api.Errno {
	if !number(epoch) {
		return 1
	}
	if w.state != 0 {
		return 100
	}
	if epoch <= w.epoch {
		return 101
	}
	w.state, w.epoch, w.content = 2, epoch, emptyOf(w.dim)
	return 0
}

func (w *words) write(client, seq int, o api.Op) (api.Reply, api.Errno) {
	if o.Kind != 1 && o.Kind != 2 || client < 0 || client > 7 || !number(seq) {
		return api.Reply{}, 1
	}
	if w.state != 2 {
		return api.Reply{}, 100
	}
	last := w.last[client]
	if seq < last.seq {
		return api.Reply{}, 90
	}
	if seq == last.seq {
		return api.Reply{Was: last.was}, 0
	}
	_, was := w.points[o.Id]
	if o.Kind == 1 {
		if !w.isVector(o.V) {
			return api.Reply{}, 50
		}
		if !was && len(w.points) == 512 {
			return api.Reply{}, 2
		}
		w.points[o.Id] = slices.Clone(o.V)
	} else {
		delete(w.points, o.Id)
	}
	w.last[client] = did{seq, was}
	w.version++
	return api.Reply{Was: was}, 0
}

func (w *words) ask(v []int, k, limit int) ([]api.Hit, api.Errno) {
	if w.state != 2 {
		return nil, 100
	}
	if !w.isVector(v) {
		return nil, 50
	}
	if k < 1 || k > 64 {
		return nil, 51
	}
	var l []api.Hit
	for id, p := range w.points {
		far := 0
		for i := range p {
			far += int(math.Abs(float64(p[i]) - float64(v[i])))
		}
		if far <= limit {
			l = append(l, api.Hit{Id: id, Dist: far})
		}
	}
	sort.Slice(l, func(i, j int) bool {
		return l[i].Dist < l[j].Dist || l[i].Dist == l[j].Dist && l[i].Id < l[j].Id
	})
	return l[:min(k, len(l))], 0
}

// load takes what a text tells; nil: it is none.
func (w *words) load(move int, c *content) api.Errno {
	if !number(move) {
		return 1
	}
	if w.state == 2 || w.state == 3 {
		return 100
	}
	if w.move > move {
		return 90
	}
	if w.move == move && w.state != 1 {
		return 90
	}
	if c == nil || c.dim != w.dim {
		return 20
	}
	w.state, w.move, w.content = 1, move, c.copy()
	return 0
}

func (w *words) seal(move int) api.Errno {
	if !number(move) {
		return 1
	}
	if w.state == 3 && w.move == move {
		return 0
	}
	if w.state != 2 {
		return 100
	}
	if w.move >= move {
		return 90
	}
	w.state, w.move = 3, move
	return 0
}

func (w *words) adopt(move, epoch int, c *content) api.Errno {
	if !number(move) || !number(epoch) {
		return 1
	}
	if w.state == 2 && w.move == move {
		return 0
	}
	if w.state != 1 {
		return 100
	}
	if w.move != move {
		return 100
	}
	if epoch <= w.epoch {
		return 101
	}
	if c == nil || c.dim != w.dim {
		return 20
	}
	w.state, w.epoch, w.content = 2, epoch, c.copy()
	return 0
}

func (w *words) forget(move int) api.Errno {
	if !number(move) {
		return 1
	}
	if w.move > move {
		return 90
	}
	if w.state == 2 {
		return 100
	}
	w.state, w.move, w.content = 0, move, emptyOf(w.dim)
	return 0
}

func (w *words) reopen(move, epoch int) api.Errno {
	if !number(move) || !number(epoch) {
		return 1
	}
	if w.state == 2 && w.move == move && w.epoch == epoch {
		return 0
	}
	if w.move > move {
		return 90
	}
	if w.state == 0 || w.state == 1 {
		return 100
	}
	if w.state == 3 && w.move != move {
		return 100
	}
	if epoch <= w.epoch {
		return 101
	}
	w.state, w.epoch, w.move = 2, epoch, move
	return 0
}

// book holds what each text tells that some shard told.
type book map[string]content

// both is a shard, its disk, and what the document's words say of it.
type both struct {
	t *testing.T
	d *block.Disk
	s *Shard
	w words
	b book
}

func newDisk(t *testing.T, blocks int) *block.Disk {
	t.Helper()
	d, e := block.New(blocks)
	if e != api.OK {
		t.Fatalf("block.New(%d) answers %d", blocks, e)
	}
	return d
}

func openShard(t *testing.T, d *block.Disk, dim int) *Shard {
	t.Helper()
	s, e := Open(d, dim)
	if e != api.OK || s == nil {
		t.Fatalf("Open = %v, %d", s, e)
	}
	return s
}

func newBoth(t *testing.T, blocks, dim int, b book) *both {
	t.Helper()
	d := newDisk(t, blocks)
	x := &both{t, d, openShard(t, d, dim), words{content: emptyOf(dim)}, b}
	if d.Loose() != 0 {
		t.Fatal("Open of a new disk leaves something loose")
	}
	x.check()
	return x
}

// founded is an owner of the epoch 1.
func founded(t *testing.T, blocks, dim int) *both {
	t.Helper()
	x := newBoth(t, blocks, dim, book{})
	x.ok(x.found(1))
	return x
}

func (x *both) ok(e api.Errno) {
	x.t.Helper()
	if e != api.OK {
		x.t.Fatalf("answers %d", e)
	}
}

func (x *both) same(call string, got, want api.Errno) api.Errno {
	x.t.Helper()
	if got != want {
		x.t.Fatalf("%s = %d, want %d (%+v)", call, got, want, x.w)
	}
	x.check()
	return got
}

func (x *both) told(text string) *content {
	if c, known := x.b[text]; known {
		return &c
	}
	return nil
}

func (x *both) found(epoch int) api.Errno {
	x.t.Helper()
	return x.same(fmt.Sprintf("Found(%d)", epoch), x.s.Found(epoch), x.w.found(epoch))
}

func (x *both) seal(move int) api.Errno {
	x.t.Helper()
	return x.same(fmt.Sprintf("Seal(%d)", move), x.s.Seal(move), x.w.seal(move))
}

func (x *both) forget(move int) api.Errno {
	x.t.Helper()
	return x.same(fmt.Sprintf("Forget(%d)", move), x.s.Forget(move), x.w.forget(move))
}

func (x *both) reopen(move, epoch int) api.Errno {
	x.t.Helper()
	return x.same(fmt.Sprintf("Reopen(%d, %d)", move, epoch), x.s.Reopen(move, epoch), x.w.reopen(move, epoch))
}

func (x *both) load(move int, text string) api.Errno {
	x.t.Helper()
	return x.same(fmt.Sprintf("Load(%d, %.60q)", move, text), x.s.Load(move, text), x.w.load(move, x.told(text)))
}

func (x *both) adopt(move, epoch int, text string) api.Errno {
	x.t.Helper()
	return x.same(fmt.Sprintf("Adopt(%d, %d, %.60q)", move, epoch, text), x.s.Adopt(move, epoch, text), x.w.adopt(move, epoch, x.told(text)))
}

func (x *both) write(client, seq int, o api.Op) api.Errno {
	x.t.Helper()
	e := x.only(client, seq, o)
	x.check()
	return e
}

// only is a write, of which only the answer is held against the words.
func (x *both) only(client, seq int, o api.Op) api.Errno {
	x.t.Helper()
	want, fault := x.w.write(client, seq, o)
	r, e := x.s.Write(client, seq, o)
	if r.Err != want.Err || r.Was != want.Was || len(r.Hits) != 0 || e != fault {
		x.t.Fatalf("Write(%d, %d, %v) = %v, %d; want %v, %d", client, seq, o, r, e, want, fault)
	}
	return e
}

func (x *both) ask(v []int, k, limit int) {
	x.t.Helper()
	want, fault := x.w.ask(v, k, limit)
	l, e := x.s.Ask(v, k, limit)
	if !slices.Equal(l, want) || e != fault {
		x.t.Fatalf("Ask(%v, %d, %d) = %v, %d; want %v, %d", v, k, limit, l, e, want, fault)
	}
}

// put, and drop, are writes of a client that has done nothing with that number yet.
func (x *both) put(client, id int, v ...int) api.Errno {
	x.t.Helper()
	return x.write(client, x.w.last[client].seq+1, api.Op{Kind: api.OpInsert, Id: id, V: v})
}

func (x *both) drop(client, id int) api.Errno {
	x.t.Helper()
	return x.write(client, x.w.last[client].seq+1, api.Op{Kind: api.OpDelete, Id: id})
}

// text is what Text tells, of an owner or what was sealed.
func (x *both) text() string {
	x.t.Helper()
	text, e := x.s.Text()
	x.ok(e)
	return text
}

func samePoints(a, b []api.Point) bool {
	return slices.EqualFunc(a, b, func(p, q api.Point) bool {
		return p.Id == q.Id && slices.Equal(p.V, q.V)
	})
}

// check holds all that a shard tells against the words.
func (x *both) check() {
	x.t.Helper()
	x.checkOf(x.s)
	if x.d.Loose() != 0 {
		x.t.Fatal("something is not sure")
	}
}

func (x *both) checkOf(s *Shard) {
	x.t.Helper()
	version, points := 0, []api.Point(nil)
	if x.w.state == 1 || x.w.state == 2 {
		version, points = x.w.version, x.w.list()
	}
	state, epoch, got, move := s.Stands()
	if state != x.w.state || epoch != x.w.epoch || got != version || move != x.w.move {
		x.t.Fatalf("Stands = %d, %d, %d, %d; want %d, %d, %d, %d", state, epoch, got, move, x.w.state, x.w.epoch, version, x.w.move)
	}
	if l := s.Points(); !samePoints(l, points) {
		x.t.Fatalf("Points = %v, want %v", l, points)
	}
	if s.now.table.Text() != x.table() {
		x.t.Fatalf("the table is %q, want %q", s.now.table.Text(), x.table())
	}
	x.checkTexts(s)
}

// table is the text that the table has, by layer 9's words.
func (x *both) table() string {
	var b strings.Builder
	b.WriteString("l")
	for client := range 8 {
		if d := x.w.last[client]; d.seq > 0 {
			fmt.Fprintf(&b, "li%dei%dei0ei%dee", client, d.seq, map[bool]int{true: 1}[d.was])
		}
	}
	return b.String() + "e"
}

// checkTexts holds Text and Since against the words, and writes into the book what they tell.
func (x *both) checkTexts(s *Shard) {
	x.t.Helper()
	text, e := s.Text()
	if x.w.state != 2 && x.w.state != 3 {
		since, e2 := s.Since(0)
		_, e3 := s.Since(-1)
		if text != "" || since != "" || e != 100 || e2 != 100 || e3 != 100 {
			x.t.Fatalf("Text, Since(0), Since(-1) = %.60q, %d, %.60q, %d, %d", text, e, since, e2, e3)
		}
		return
	}
	if text == "" || e != 0 {
		x.t.Fatalf("Text = %.60q, %d", text, e)
	}
	if c, known := x.b[text]; known && c.tells() != x.w.tells() {
		x.t.Fatalf("one text tells %s, and %s", c.tells(), x.w.tells())
	}
	x.b[text] = x.w.content.copy()
	for _, version := range []int{0, x.w.version / 2, x.w.version} {
		if since, e := s.Since(version); since != text || e != 0 {
			x.t.Fatalf("Since(%d) = %.60q, %d", version, since, e)
		}
	}
	for _, version := range []int{math.MinInt, -1, x.w.version + 1, math.MaxInt} {
		if since, e := s.Since(version); since != "" || e != 1 {
			x.t.Fatalf("Since(%d) = %.60q, %d, want ErrArg", version, since, e)
		}
	}
}

// fail lets the power fail, and goes on with the shard that is opened then.
func (x *both) fail(keep, torn int) {
	x.t.Helper()
	x.ok(x.d.Fail(keep, torn))
	x.s = openShard(x.t, x.d, x.w.dim)
	x.check()
}
