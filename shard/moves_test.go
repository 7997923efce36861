package shard

import (
	"math"
	"plover/api"
	"strings"
	"testing"
)

// Numbers of moves, and of epochs: around those that the shards of allStates have, and at the limits.
var around = []int{math.MinInt, -1 << 40, -1, 0, 1, 2, 3, 4, 5, 6, 1 << 32, 1<<40 - 1, 1 << 40, 1<<40 + 1, 1<<41 + 3, math.MaxInt}

// textsFor are texts that shards told, and others; b knows which.
func textsFor(t *testing.T, b book) []string {
	t.Helper()
	small := newBoth(t, 100, 1, b)
	small.ok(small.found(1))
	empty := small.text()
	full := some(t, 100, 1, b)
	text := full.text()
	other := newBoth(t, 100, 2, b)
	other.ok(other.found(1))
	empty2 := other.text()
	return []string{empty, text, empty2, some(t, 100, 2, b).text(), "", "x", "le", text + "x", text + "\n", text + text, text[1:], text[:len(text)-1], empty + text}
}

// TestMoves: each call, of each state, at each move and epoch.
func TestMoves(t *testing.T) {
	b := book{}
	texts := textsFor(t, b)
	for i := range allStates(t, 1) {
		for _, move := range around {
			for call := range 5 {
				// What a call changes would be in the next one's way: each has a shard of its own.
				x := again(t, i, b)
				switch call {
				case 0:
					x.seal(move)
				case 1:
					x.forget(move)
				case 2:
					x.found(move)
				case 3:
					x.load(move, texts[1])
				case 4:
					x.load(move, "")
				}
				x.fail(0, 0)
			}
		}
	}
}

// again is a shard like one that another list of allStates has.
func again(t *testing.T, i int, b book) *both {
	t.Helper()
	x := allStates(t, 1)[i]
	for text, c := range b {
		x.b[text] = c
	}
	return x
}

// TestMovesWithEpochs: as TestMoves, of calls that have an epoch.
func TestMovesWithEpochs(t *testing.T) {
	b := book{}
	texts := textsFor(t, b)
	for i := range allStates(t, 1) {
		x := again(t, i, b)
		for _, move := range around {
			for _, epoch := range around {
				for _, text := range texts[1:5] {
					before := x.w
					x.adopt(move, epoch, text)
					if x.w.state != before.state {
						x = again(t, i, b)
					}
				}
				before := x.w
				x.reopen(move, epoch)
				if x.w.epoch != before.epoch {
					x = again(t, i, b)
				}
			}
		}
	}
}

// TestTextsOfMoves: Load and Adopt of each text, of shards that would take one.
func TestTextsOfMoves(t *testing.T) {
	b := book{}
	for _, text := range textsFor(t, b) {
		for _, dim := range []int{1, 2} {
			x := newBoth(t, 100, dim, b)
			loaded := x.load(3, text)
			x.fail(0, 0)
			if want := b[text].dim == dim; want != (loaded == api.OK) {
				t.Errorf("Load(3, %q) of %d numbers = %d", text, dim, loaded)
			}
			for i := range allStates(t, dim) {
				y := allStates(t, dim)[i]
				for text, c := range b {
					y.b[text] = c
				}
				y.adopt(y.w.move, y.w.epoch+1, text)
				y.load(y.w.move+1, text)
				y.fail(0, 0)
			}
		}
	}
}

// TestLoadAgain: a copy is loaded again, for its move or a later one, and not for an earlier one.
func TestLoadAgain(t *testing.T) {
	b := book{}
	texts := textsFor(t, b)
	x := newBoth(t, 100, 1, b)
	for _, step := range []struct {
		move int
		text string
		want api.Errno
	}{{3, texts[1], 0}, {3, texts[1], 0}, {3, texts[0], 0}, {2, texts[1], 90}, {2, "x", 90}, {4, texts[1], 0}, {3, texts[0], 90}, {4, "x", 20}, {1 << 40, texts[0], 0}, {1<<40 - 1, texts[1], 90}, {1<<40 + 1, texts[1], 1}} {
		if e := x.load(step.move, step.text); e != step.want {
			t.Errorf("Load(%d) = %d, want %d", step.move, e, step.want)
		}
		x.fail(0, 0)
	}
}

// TestSealed: what was sealed tells what it was, and nothing changes it, till it is open again.
func TestSealed(t *testing.T) {
	x := some(t, 100, 1, book{})
	before := x.text()
	x.ok(x.seal(5))
	x.fail(0, 0)
	if x.text() != before {
		t.Error("another text since it was sealed")
	}
	if e := x.put(3, 1, 1); e != api.ErrSealed {
		t.Error(e)
	}
	if e := x.write(1, 2, api.Op{Kind: api.OpDelete}); e != api.ErrSealed {
		t.Error("what was done is answered", e)
	}
	if l := x.s.Points(); l != nil {
		t.Error(l)
	}
	if state, _, version, _ := x.s.Stands(); state != Sealed || version != 0 {
		t.Error(state, version)
	}
	x.ok(x.reopen(5, 4))
	x.fail(0, 0)
	if x.text() != before || len(x.s.Points()) != 2 || x.w.version != 4 {
		t.Error("another one since it is open again")
	}
	x.ok(x.put(3, 1, 1))
	if e := x.seal(5); e != api.ErrOld {
		t.Error("a late Seal", e)
	}
	x.ok(x.reopen(5, 4))
	x.ok(x.seal(6))
	if x.text() == before {
		t.Error("an old text")
	}
}

// TestForgotten: what was forgotten comes again neither by a late Load, nor when it is opened, nor with a new one.
func TestForgotten(t *testing.T) {
	b := book{}
	text := some(t, 100, 1, b).text()
	x := newBoth(t, 100, 1, b)
	x.ok(x.load(4, text))
	x.ok(x.forget(4))
	x.ok(x.forget(4))
	x.fail(0, 0)
	for _, move := range []int{3, 4} {
		if e := x.load(move, text); e != api.ErrOld {
			t.Errorf("Load(%d) = %d", move, e)
		}
	}
	if e := x.adopt(4, 9, text); e != api.ErrSealed {
		t.Error(e)
	}
	if e := x.forget(3); e != api.ErrOld {
		t.Error(e)
	}
	x.ok(x.found(2))
	x.fail(0, 0)
	x.ok(x.write(1, 1, api.Op{Kind: api.OpDelete, Id: 7}))
	if r, _ := x.s.Write(1, 1, api.Op{Kind: api.OpDelete}); r.Was {
		t.Error("a point is there again")
	}
}

// TestGoesAlong: Sh6, with changes and failures between the steps, from node to node, and back.
func TestGoesAlong(t *testing.T) {
	for changes := range 6 {
		b := book{}
		from, to := some(t, 100, 2, b), newBoth(t, 100, 2, b)
		for move := 1; move <= 5; move++ {
			text := from.text()
			_, _, version, _ := from.s.Stands()
			to.ok(to.load(move, text))
			for i := range changes {
				from.ok(from.put(i, 10*move+i, i, move))
				from.ok(from.drop(7-i, 10*move+i-11))
			}
			from.fail(0, 0)
			to.fail(0, 0)
			from.ok(from.seal(move))
			since, e := from.s.Since(version)
			from.ok(e)
			sealed, e := from.s.Text()
			from.ok(e)
			to.ok(to.adopt(move, 10*move, since))
			for _, late := range []string{since, text, "", "x"} {
				to.ok(to.adopt(move, 10*move+5, late)) // late: it is done
			}
			to.fail(0, 0)
			if to.w.content.tells() != from.w.content.tells() || to.text() != sealed {
				t.Fatal("the copy is another one")
			}
			from.ok(from.forget(move))
			from, to = to, from
		}
	}
}

// TestOnceAlong: what was done at one node is answered, not done, at the other one.
func TestOnceAlong(t *testing.T) {
	b := book{}
	from, to := some(t, 100, 1, b), newBoth(t, 100, 1, b)
	to.ok(to.load(2, from.text()))
	from.ok(from.drop(4, 9))
	from.ok(from.seal(2))
	since, _ := from.s.Since(4)
	to.ok(to.adopt(2, 4, since))
	to.ok(to.put(5, 9, 1))
	o := api.Op{Kind: api.OpDelete, Id: 9}
	if r, e := to.s.Write(4, 1, o); !r.Was || e != api.OK {
		t.Error(r, e)
	}
	if _, e := to.s.Write(1, 1, o); e != api.ErrOld {
		t.Error(e)
	}
	if len(to.s.Points()) != 2 {
		t.Error("it was done twice")
	}
}

// TestGivenUp: a copy that is given up, and the owner that goes on.
func TestGivenUp(t *testing.T) {
	b := book{}
	from, to := some(t, 100, 1, b), newBoth(t, 100, 1, b)
	to.ok(to.load(1, from.text()))
	to.ok(to.forget(1))
	from.ok(from.reopen(1, 4)) // it was never sealed
	if e := from.seal(1); e != api.ErrOld {
		t.Error("a late Seal", e)
	}
	from.ok(from.put(0, 3, 3))
	to.ok(to.load(2, from.text()))
	from.ok(from.seal(2))
	to.ok(to.forget(2))
	from.ok(from.reopen(2, 5))
	from.ok(from.put(0, 4, 4))
	from.fail(0, 0)
	if e := from.reopen(1, 9); e != api.ErrOld {
		t.Error(e)
	}
	for _, epoch := range []int{4, 3} {
		if e := from.reopen(2, epoch); e != api.ErrEpoch {
			t.Error(epoch, e)
		}
	}
}

// TestTextsApart: no text is empty, none with bytes behind or ahead is one, and shards of other contents have other texts.
func TestTextsApart(t *testing.T) {
	b := book{}
	x := founded(t, 2000, 1)
	x.b = b
	for i := range 40 {
		x.ok(x.put(i%8, i*i%23, i%3))
		x.ok(x.drop(i%8, i%7))
	}
	for text, c := range b {
		if text == "" {
			t.Fatal("an empty text")
		}
		for _, other := range []string{text + "x", "x" + text, text + text, text + "\x00", strings.ToUpper(text) + "x"} {
			y := openShard(t, newDisk(t, 100), c.dim)
			if e := y.Load(1, other); e != api.ErrValue {
				t.Fatalf("Load of %q = %d", other, e)
			}
		}
	}
	if len(b) != 80 {
		t.Errorf("%d texts of 80 contents", len(b))
	}
}
