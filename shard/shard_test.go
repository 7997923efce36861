package shard

import (
	"math"
	"plover/api"
	"plover/block"
	"plover/logs"
	"slices"
	"testing"
)

// Numbers at the limits, and beyond them.
var (
	clients = []int{math.MinInt, -1 << 32, -8, -1, 0, 1, 3, 6, 7, 8, 9, 255, 1 << 32, math.MaxInt}
	seqs    = []int{math.MinInt, -1 << 40, -1, 0, 1, 2, 1<<32 + 1, 1<<40 - 1, 1 << 40, 1<<40 + 1, 1 << 41, math.MaxInt}
	kinds   = []int{math.MinInt, -1, 0, 1, 2, 3, 4, 257, 1<<32 + 1, math.MaxInt}
	dims    = []int{math.MinInt, -1, 0, 17, 18, 1 << 32, 1<<32 + 1, math.MaxInt}
)

func TestOpen(t *testing.T) {
	good := newDisk(t, 16)
	copied := *good
	for _, d := range []*block.Disk{nil, {}, &copied} {
		for _, dim := range []int{0, 1, 16, 17} {
			if s, e := Open(d, dim); s != nil || e != api.ErrArg {
				t.Errorf("Open of what is no disk, %d = %v, %d", dim, s, e)
			}
		}
	}
	for _, dim := range dims {
		if s, e := Open(good, dim); s != nil || e != api.ErrArg {
			t.Errorf("Open(d, %d) = %v, %d", dim, s, e)
		}
	}
	for _, blocks := range []int{4, 5, 6, 12, 13, 16, 2000, 1 << 14} {
		for _, dim := range []int{1, 2, 15, 16} {
			newBoth(t, blocks, dim, book{})
		}
	}
}

// TestOpenRefused: what is refused has not even cleaned the disk behind a failure.
func TestOpenRefused(t *testing.T) {
	x := founded(t, 16, 1)
	first := 2 + 7 // Found begins the log anew, in the second half
	had, _ := x.d.Get(first)
	x.ok(x.d.Put(first, had+"rest"))
	x.ok(x.d.Sync())
	for _, dim := range dims {
		if _, e := Open(x.d, dim); e != api.ErrArg {
			t.Fatalf("Open(d, %d) = %d", dim, e)
		}
	}
	if s, _ := x.d.Get(first); s != had+"rest" || x.d.Loose() != 0 {
		t.Errorf("the block has %q", s)
	}
	x.fail(0, 0)
}

// TestNotGiven: a shard that Open did not give.
func TestNotGiven(t *testing.T) {
	x := founded(t, 16, 1)
	x.ok(x.put(0, 7, 3))
	copied := *x.s
	text := x.text()
	for _, s := range []*Shard{nil, {}, &copied} {
		if state, epoch, version, move := s.Stands(); state != 0 || epoch != 0 || version != 0 || move != 0 {
			t.Error("Stands of none", state, epoch, version, move)
		}
		r, e := s.Write(0, 2, api.Op{Kind: api.OpInsert, Id: 1, V: []int{1}})
		l, e2 := s.Ask([]int{1}, 1, 1)
		all, e3 := s.Text()
		since, e4 := s.Since(0)
		if r.Was || r.Err != 0 || r.Hits != nil || l != nil || all != "" || since != "" || s.Points() != nil {
			t.Error("something of none", r, l, all, since)
		}
		errors := []api.Errno{e, e2, e3, e4, s.Found(2), s.Load(1, text), s.Seal(1), s.Adopt(1, 2, text), s.Forget(1), s.Reopen(1, 2)}
		for i, e := range errors {
			if e != api.ErrArg {
				t.Errorf("call %d of none answers %d", i, e)
			}
		}
	}
	x.check()
	x.fail(0, 0)
}

func TestStates(t *testing.T) {
	if None != 0 || Copy != 1 || Owner != 2 || Sealed != 3 {
		t.Error(None, Copy, Owner, Sealed)
	}
}

func TestFound(t *testing.T) {
	for _, blocks := range []int{4, 5, 12, 16} {
		for _, epoch := range seqs {
			x := newBoth(t, blocks, 16, book{})
			if e := x.found(epoch); (e == api.OK) != (epoch >= 1 && epoch <= 1<<40) {
				t.Errorf("Found(%d) = %d", epoch, e)
			}
			x.fail(0, 0)
			for _, again := range seqs {
				x.found(again)
			}
		}
	}
}

// TestFoundAgain: behind a move that it knows of, its epoch and that move stay.
func TestFoundAgain(t *testing.T) {
	x := founded(t, 12, 1)
	x.ok(x.put(3, 7, 3))
	x.ok(x.reopen(2, 5))
	x.ok(x.seal(3))
	x.ok(x.forget(1 << 40))
	x.fail(0, 0)
	for _, epoch := range []int{0, 1, 4, 5, 1<<40 + 1} {
		x.found(epoch)
	}
	x.ok(x.found(6))
	x.fail(0, 0)
	if _, _, version, move := x.s.Stands(); version != 0 || move != 1<<40 {
		t.Error(version, move)
	}
	// The table is empty, so that the first number may be there again.
	x.ok(x.write(3, 1, api.Op{Kind: api.OpInsert, Id: 7, V: []int{4}}))
}

// TestExample is the chapter's.
func TestExample(t *testing.T) {
	x := newBoth(t, 12, 1, book{})
	x.ok(x.s.Found(1))
	for range 2 {
		r, e := x.s.Write(0, 1, api.Op{Kind: api.OpInsert, Id: 7, V: []int{9}})
		if r.Was || e != api.OK {
			t.Error(r, e)
		}
		if state, epoch, version, move := x.s.Stands(); state != Owner || epoch != 1 || version != 1 || move != 0 {
			t.Error(state, epoch, version, move)
		}
	}
}

// TestWriteErrors: each error, and which is told, where several apply.
func TestWriteErrors(t *testing.T) {
	vectors := [][]int{nil, {}, {1}, {1, 2}, {1, 2, 3}, {1, 1 << 31}, {-1<<31 - 1, 0}, {-1 << 31, 1<<31 - 1}, {math.MinInt, math.MaxInt}, make([]int, 16), make([]int, 17)}
	try := func(x *both) {
		for _, kind := range kinds {
			for _, client := range clients {
				for _, seq := range []int{math.MinInt, -1, 0, 1, 4, 5, 1<<40 + 1, math.MaxInt} {
					for _, v := range vectors {
						x.only(client, seq, api.Op{Kind: kind, Id: 1, V: v})
						if client >= 0 && client <= 7 && seq == 5 && x.w.last[client].seq == 5 {
							break // it is answered from the table now
						}
					}
				}
			}
			x.check()
		}
		x.fail(0, 0)
	}
	for _, x := range allStates(t, 2) {
		try(x)
	}
}

// TestWriteLimits: clients and their numbers at the limits, one behind the other, and back.
func TestWriteLimits(t *testing.T) {
	x := founded(t, 100, 1)
	for _, up := range []bool{true, false} {
		for _, client := range clients {
			for _, seq := range seqs {
				x.write(client, seq, api.Op{Kind: api.OpInsert, Id: seq, V: []int{client % 100}})
			}
		}
		if up {
			x.fail(0, 0)
		}
	}
}

// TestAgain: the answer of the last time, whatever is asked for, and by nothing else.
func TestAgain(t *testing.T) {
	x := founded(t, 100, 1)
	x.ok(x.put(2, 7, 1))
	x.ok(x.put(2, 7, 2))
	x.ok(x.drop(5, 8))
	for range 2 {
		for _, o := range []api.Op{{Kind: 1, Id: 9, V: []int{5}}, {Kind: 2, Id: 7}, {Kind: 1, Id: 9}, {Kind: 1, Id: 9, V: []int{1 << 40}}, {Kind: 3, V: []int{1}, K: 1}} {
			x.write(2, 2, o)
			x.write(2, 1, o)
			x.write(5, 1, o)
		}
		x.fail(0, 0)
	}
	if r, e := x.s.Write(2, 2, api.Op{Kind: api.OpDelete, Id: 8}); !r.Was || e != api.OK {
		t.Error(r, e)
	}
	if r, e := x.s.Write(5, 1, api.Op{Kind: api.OpDelete, Id: 7}); r.Was || e != api.OK {
		t.Error(r, e)
	}
	if len(x.s.Points()) != 1 {
		t.Error("something was done twice")
	}
}

// TestDelete: no vector is looked at, nor kept.
func TestDelete(t *testing.T) {
	x := founded(t, 16, 2)
	x.ok(x.put(0, 7, 1, 2))
	long := make([]int, 1<<16)
	for i, v := range [][]int{nil, {1}, {1 << 40, 1}, long} {
		x.ok(x.write(1, i+1, api.Op{Kind: api.OpDelete, Id: 7, V: v, K: -1}))
		x.fail(0, 0)
	}
	if _, _, version, _ := x.s.Stands(); version != 5 {
		t.Error(version)
	}
}

// TestFull: MaxPoints, of the longest numbers, with changes of each kind there.
func TestFull(t *testing.T) {
	for _, dim := range []int{1, 16} {
		x := founded(t, 2000, dim)
		v := make([]int, dim)
		for i := range v {
			v[i] = -1 << 31
		}
		for i := range 511 {
			if _, e := x.s.Write(0, i+1, api.Op{Kind: 1, Id: math.MinInt + i, V: v}); e != api.OK {
				t.Fatal(i, e)
			}
			x.w.write(0, i+1, api.Op{Kind: 1, Id: math.MinInt + i, V: v})
		}
		x.check()
		insert := func(seq, id, n int) api.Errno {
			w := slices.Repeat([]int{n}, dim)
			return x.write(0, seq, api.Op{Kind: 1, Id: id, V: w})
		}
		x.ok(insert(600, math.MaxInt, 1<<31-1))
		for _, id := range []int{0, -1, math.MinInt + 511, math.MaxInt - 1} {
			if e := insert(601, id, 1); e != api.ErrFull {
				t.Errorf("one more: %d", e)
			}
			if e := insert(601, id, 1<<31); e != api.ErrDim {
				t.Errorf("one more, of no vector: %d", e)
			}
			if e := insert(599, id, 1); e != api.ErrOld {
				t.Errorf("one more, of an old number: %d", e)
			}
		}
		x.ok(insert(600, 5, 1)) // as the last time
		x.ok(insert(601, math.MinInt+7, 1))
		x.fail(0, 0)
		x.ok(x.write(0, 602, api.Op{Kind: 2, Id: 5}))
		if e := insert(603, 5, 1); e != api.ErrFull {
			t.Error(e)
		}
		x.ok(x.write(0, 603, api.Op{Kind: 2, Id: math.MaxInt}))
		x.ok(insert(604, 5, 1))
		x.ask(slices.Repeat([]int{3}, dim), 64, 1<<40)
		x.ask(v, 64, 1<<40)
		x.fail(0, 0)
		x.ask(v, 64, 0)
	}
}

// TestAsk: what layer 8 refuses, and finds.
func TestAsk(t *testing.T) {
	for _, x := range allStates(t, 2) {
		for _, v := range [][]int{nil, {1}, {1, 2}, {1, 2, 3}, {1, 1 << 31}, {-1 << 31, 1<<31 - 1}} {
			for _, k := range []int{math.MinInt, -1, 0, 1, 2, 63, 64, 65, math.MaxInt} {
				for _, limit := range []int{math.MinInt, -1, 0, 1, 2, 5, 1 << 40, math.MaxInt} {
					x.ask(v, k, limit)
				}
			}
		}
		x.check()
	}
}

// TestAskMany: what is found among many points, behind many changes, which the tree is built anew between.
func TestAskMany(t *testing.T) {
	g := &numbers{1}
	for _, dim := range []int{1, 3} {
		x := founded(t, 100, dim)
		vector := func() []int {
			v := make([]int, dim)
			for i := range v {
				v[i] = g.next(60) - 30
			}
			return v
		}
		for i := range 700 {
			o := api.Op{Kind: 1 + g.next(4)/3, Id: g.next(150) - 75, V: vector()}
			client := g.next(8)
			x.w.write(client, i+1, o)
			if _, e := x.s.Write(client, i+1, o); e != api.OK {
				t.Fatal(i, e)
			}
			x.ask(vector(), 1+g.next(64), g.next(60))
			x.ask(vector(), 1+g.next(5), 1<<40)
			if i%97 == 0 {
				x.fail(0, 0)
			}
		}
		x.check()
	}
}

// TestHandedIn: what is handed in is not kept, and not changed; what is answered is new.
func TestHandedIn(t *testing.T) {
	x := founded(t, 100, 2)
	room := []int{1, 2, 3, 4}
	v := room[:2:4]
	x.ok(x.put(0, 7, v...))
	o := api.Op{Kind: 1, Id: 8, V: v}
	x.ok(x.write(0, 2, o))
	x.ask(v, 5, 100)
	if !slices.Equal(room, []int{1, 2, 3, 4}) {
		t.Error("changed", room)
	}
	room[0], room[1] = 50, 60
	x.w.points[7], x.w.points[8] = []int{1, 2}, []int{1, 2}
	x.check()
	l := x.s.Points()
	l[0].V[0], l[1].Id = 99, 99
	hits, _ := x.s.Ask([]int{1, 2}, 5, 100)
	hits[0] = api.Hit{}
	x.check()
	x.ask([]int{1, 2}, 5, 100)
	x.fail(0, 0)
}

// TestRefused: what is refused has written nothing at all.
func TestRefused(t *testing.T) {
	for _, x := range allStates(t, 1) {
		before := blocksOf(x.d)
		refused := func(e api.Errno) {
			t.Helper()
			if e == api.OK {
				return
			}
			if !slices.Equal(blocksOf(x.d), before) || x.d.Loose() != 0 {
				t.Fatal("what was refused has written")
			}
		}
		for _, text := range []string{"", "x", "li1ee"} {
			for _, n := range []int{-1, 0, 1<<40 + 1} {
				refused(x.load(n, text))
				refused(x.adopt(n, 9, text))
				refused(x.adopt(9, n, text))
				refused(x.seal(n))
				refused(x.forget(n))
				refused(x.reopen(n, 9))
				refused(x.reopen(9, n))
				refused(x.found(n))
			}
			refused(x.load(100, text))
			refused(x.adopt(x.w.move, 100, text))
		}
		refused(x.write(0, 0, api.Op{Kind: 1, V: []int{1}}))
		refused(x.write(1, 1, api.Op{Kind: 1, V: []int{1, 2}}))
		refused(x.reopen(x.w.move, x.w.epoch-1))
		refused(x.found(x.w.epoch))
	}
}

// TestLoose: what others left loose on the disk stands, once it was told.
func TestLoose(t *testing.T) {
	x := founded(t, 100, 1)
	x.ok(x.put(0, 7, 3))
	l, e := logs.Open(x.d)
	x.ok(e)
	r := record{kind: dropRecord, client: 1, seq: 1, points: []api.Point{{Id: 7}}}
	x.ok(l.Add(r.text()))
	x.s = openShard(t, x.d, 1)
	x.w.write(1, 1, api.Op{Kind: 2, Id: 7})
	x.check()
	x.fail(0, 0)
}
