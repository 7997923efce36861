package shard

import (
	"fmt"
	"maps"
	"math"
	"plover/api"
	"plover/benc"
	"plover/block"
	"plover/logs"
	"runtime"
	"slices"
	"testing"
)

// take is one of a few calls of a shard, by a number.
func take(x *both, call int) {
	x.t.Helper()
	switch call {
	case 0:
		x.found(x.w.epoch + 1)
	case 1:
		x.put(0, 7, x.w.version)
	case 2:
		x.put(1, 8, 5)
	case 3:
		x.drop(1, 7)
	case 4:
		x.seal(x.w.move + 1)
	case 5:
		x.forget(x.w.move)
	case 6:
		x.forget(x.w.move + 1)
	case 7:
		x.reopen(x.w.move, x.w.epoch+1)
	case 8:
		x.load(x.w.move+1, x.any())
	case 9:
		x.adopt(x.w.move, x.w.epoch+1, x.any())
	}
}

const calls = 10

// any is the longest text that the book has, and of these the last one.
func (x *both) any() string {
	best := ""
	for text := range x.b {
		if len(text) > len(best) || len(text) == len(best) && text > best {
			best = text
		}
	}
	return best
}

// TestShortRows: all short rows of calls, with a failure behind each call.
func TestShortRows(t *testing.T) {
	b := book{}
	text := some(t, 100, 1, b).text()
	for row := range calls * calls * calls * calls {
		x := newBoth(t, 12, 1, book{text: b[text]})
		for range 4 {
			take(x, row%calls)
			x.fail(row%3, row%5)
			row /= calls
		}
	}
}

// some is one of the texts that the book has.
func (x *both) some(g *numbers) string {
	l := slices.Sorted(maps.Keys(x.b))
	if len(l) == 0 {
		return ""
	}
	return l[g.next(len(l))]
}

// TestLongRows: shards on three nodes, between which texts go about, with failures now and then, on disks on which the log is begun anew often.
func TestLongRows(t *testing.T) {
	for seed := range 12 {
		g := &numbers{uint64(seed)}
		dim, b := 1+seed%3, book{}
		nodes := []*both{newBoth(t, 40, dim, b), newBoth(t, 41, dim, b), newBoth(t, 300, dim, b)}
		for range 900 {
			x := nodes[g.next(len(nodes))]
			step(g, x)
			if g.next(6) == 0 {
				x.fail(g.next(5), g.next(300))
			}
		}
	}
}

// step is a call, of likely numbers.
func step(g *numbers, x *both) {
	x.t.Helper()
	move, epoch := x.w.move+g.next(4)-1, x.w.epoch+g.next(4)-1
	switch g.next(16) {
	case 0:
		x.found(epoch)
	case 1:
		x.seal(move)
	case 2:
		x.forget(move)
	case 3:
		x.reopen(move, epoch)
	case 4:
		x.load(move, x.some(g))
	case 5:
		x.adopt(move, epoch, x.some(g))
	default:
		v := make([]int, x.w.dim)
		for i := range v {
			v[i] = g.next(9)
		}
		client := g.next(8)
		x.write(client, x.w.last[client].seq+g.next(3), api.Op{Kind: 1 + g.next(2), Id: g.next(12), V: v})
		x.ask(v, 1+g.next(9), g.next(20))
	}
}

// TestLogIsBegunAnew: on the smallest disks as many changes as may come are done, as long as the points have room.
func TestLogIsBegunAnew(t *testing.T) {
	for _, blocks := range []int{12, 13, 16, 17} {
		x := founded(t, blocks, 1)
		for i := range 400 {
			x.ok(x.put(i%8, i%9, i))
			if i%50 == 0 {
				x.fail(0, 0)
			}
		}
		x.ok(x.seal(1))
		x.ok(x.reopen(1, 2))
	}
}

// roomFor tells whether records have room in the half of a disk that holds none.
func roomFor(x *both, records []string) bool {
	other, _ := logs.Open(x.d)
	used := other.Room() + len(framesOf(other.All()))
	all := (x.d.Blocks() - 2) * api.BlockSize
	return len(framesOf(records)) <= all-used
}

// TestNoRoom: what has no room is refused, changes nothing, and is refused only then; what takes less room is done yet.
func TestNoRoom(t *testing.T) {
	for _, blocks := range []int{4, 5, 6, 7, 8, 9, 12, 13, 16, 17, 24} {
		for _, dim := range []int{1, 4} {
			x := founded(t, blocks, dim)
			refused := 0
			for id := 0; refused < 20; id++ {
				if noRoom(x, id, dim) {
					refused++
				}
			}
			if n := (blocks - 2) / 2 * 128; len(x.w.points)*(8+8*dim)+150 < n-len(x.w.last)*26-30 {
				t.Errorf("%d blocks have room for %d points only, of %d numbers", blocks, len(x.w.points), dim)
			}
			for range 3 {
				for id := range len(x.w.points) + 20 {
					noRoomFor(x, api.Op{Kind: 2, Id: id})
				}
			}
			if len(x.w.points) != 0 && blocks%2 == 0 {
				t.Errorf("%d blocks: %d points can't be taken out", blocks, len(x.w.points))
			}
		}
	}
}

func noRoom(x *both, id, dim int) bool {
	x.t.Helper()
	return noRoomFor(x, api.Op{Kind: 1, Id: id, V: slices.Repeat([]int{100 + id}, dim)})
}

// noRoomFor does a change, and tells whether it had no room.
func noRoomFor(x *both, o api.Op) bool {
	x.t.Helper()
	client := o.Id % 3
	seq := x.w.last[client].seq + 1
	r, e := x.s.Write(client, seq, o)
	if e == api.ErrDisk {
		if r.Was || r.Err != 0 || r.Hits != nil {
			x.t.Fatal("an answer beside an error", r)
		}
		record := record{kind: map[int]int{1: insertRecord, 2: dropRecord}[o.Kind], client: client, seq: seq, points: []api.Point{{Id: o.Id, V: o.V}}}
		after := keptOf(x.w.dim, append(x.s.now.records(), record.text()))
		if x.s.log.Room() >= len(record.text())+14 || roomFor(x, after.records()) {
			x.t.Fatal("there is room")
		}
		x.check()
		if o.Id%5 == 0 {
			x.fail(0, 0)
		}
		return true
	}
	if want, fault := x.w.write(client, seq, o); r.Was != want.Was || e != fault {
		x.t.Fatalf("%v, %d; want %v, %d", r, e, want, fault)
	}
	x.check()
	return false
}

// TestNoRoomForMoves: Load, Adopt, Seal and Reopen on a disk that is too small are refused by ErrDisk, behind all other errors, and change nothing; Forget has room.
func TestNoRoomForMoves(t *testing.T) {
	b := book{}
	small := some(t, 100, 1, b).text()
	x := some(t, 100, 1, b)
	for i := range 60 {
		x.ok(x.put(0, 100+i, 1<<20+i))
	}
	great := x.text()
	y := newBoth(t, 12, 1, b)
	y.noRoom("Load", y.s.Load(3, great))
	y.ok(y.load(3, small))
	y.noRoom("Load again", y.s.Load(3, great))
	y.noRoom("Load for a later move", y.s.Load(4, great))
	y.noRoom("Adopt", y.s.Adopt(3, 4, great))
	for _, c := range []struct{ got, want api.Errno }{{y.s.Load(2, great), 90}, {y.s.Load(0, great), 1}, {y.s.Load(3, great+"x"), 20}, {y.s.Adopt(4, 4, great), 100}, {y.s.Adopt(3, 0, great), 1}, {y.s.Adopt(3, 4, great+"x"), 20}} {
		if c.got != c.want {
			t.Errorf("answers %d, want %d", c.got, c.want)
		}
	}
	y.check()
	y.ok(y.adopt(3, 4, small))
	if e := y.s.Load(9, great); e != api.ErrSealed {
		t.Error(e)
	}
	y.ok(y.seal(4))
	y.ok(y.forget(4))
	y.noRoom("Load of none", y.s.Load(5, great))
}

// noRoom sees to it that a call was refused by ErrDisk, and changed nothing.
func (x *both) noRoom(call string, e api.Errno) {
	x.t.Helper()
	if e != api.ErrDisk {
		x.t.Fatalf("%s = %d, want ErrDisk", call, e)
	}
	x.check()
	x.fail(0, 0)
}

// TestNoRoomToStand: Seal and Reopen of a shard whose points fill the disk; whether they have room, the bytes say.
func TestNoRoomToStand(t *testing.T) {
	done, refused := 0, 0
	for digits := range 19 {
		for _, n := range []int{1, 1 << 40} {
			for _, seal := range []bool{true, false} {
				x := founded(t, 12, 1)
				// So that there is less room by a byte each time.
				x.ok(x.put(5, int(math.Pow10(digits)), 1))
				for id := 0; !noRoom(x, id, 1); id++ {
				}
				if stands(x, seal, n) {
					done++
				} else {
					refused++
				}
				// Points that are taken out make room again.
				for id := range 12 {
					noRoomFor(x, api.Op{Kind: 2, Id: id})
				}
				if x.w.state == Owner {
					x.ok(x.seal(2))
				}
				x.ok(x.reopen(x.w.move, x.w.epoch+1))
			}
		}
	}
	if done == 0 || refused == 0 {
		t.Errorf("%d have room, %d have none", done, refused)
	}
}

// stands seals a shard, or opens it, for the move n, and tells whether it had room for that.
func stands(x *both, seal bool, n int) bool {
	x.t.Helper()
	r := record{kind: standRecord, state: Owner, epoch: 1<<40 - 1, move: n}
	if seal {
		r.state, r.epoch = Sealed, 1
	}
	after := keptOf(1, append(x.s.now.records(), r.text()))
	room := len(r.text())+14 <= x.s.log.Room() || roomFor(x, after.records())
	switch {
	case room && seal:
		x.ok(x.seal(n))
	case room:
		x.ok(x.reopen(n, r.epoch))
	case seal:
		x.noRoom("Seal", x.s.Seal(n))
	default:
		x.noRoom("Reopen", x.s.Reopen(n, r.epoch))
	}
	return room
}

// TestGreatest: a full shard of the longest numbers has room on a disk of 2000 blocks, its text in a message, and it goes from node to node.
func TestGreatest(t *testing.T) {
	b := book{}
	x := newBoth(t, 2000, 16, b)
	x.ok(x.found(1<<40 - 2))
	v := slices.Repeat([]int{-1 << 31}, 16)
	for i := range 512 {
		o := api.Op{Kind: 1, Id: math.MinInt + i, V: v}
		x.w.write(i%8, 1<<40-64+i/8, o)
		if _, e := x.s.Write(i%8, 1<<40-64+i/8, o); e != api.OK {
			t.Fatal(i, e)
		}
	}
	x.check()
	text := x.text()
	if len(text) > api.MaxFrame {
		t.Fatal(len(text))
	}
	y := newBoth(t, 2000, 16, b)
	y.ok(y.load(1<<40, text))
	x.ok(x.seal(1 << 40))
	y.ok(y.adopt(1<<40, 1<<40, x.text()))
	x.fail(0, 0)
	y.fail(0, 0)
	if e := y.write(0, 1<<40, api.Op{Kind: 1, Id: 1, V: v}); e != api.ErrFull {
		t.Error(e)
	}
	for i := range 8 {
		y.ok(y.write(i, 1<<40, api.Op{Kind: 1, Id: math.MinInt, V: v}))
	}
	y.fail(0, 0)
	x.ok(x.forget(1 << 40))
}

// TestOtherLogs: a log of other records opens as none, and none of them brings a call down.
func TestOtherLogs(t *testing.T) {
	g := &numbers{7}
	for range 4000 {
		d := newDisk(t, 60)
		l, _ := logs.Open(d)
		for range g.next(5) {
			s, _ := benc.Put(value(g, 3))
			l.Add(s)
		}
		l.Flush()
		tryAll(t, d, 1+g.next(2))
	}
	for _, junk := range []string{"", "x", "i1e", "le", "lle", "llee", "li1ee", "li2ee", "li3ee", "li3e1:xi1ei1ee", "li4ei0ei1eli1eee", "li4ei99ei1eli1ei5eee", "li5ei0ei1elee", "li1ei99ei-1ei-1ei-1ei1e2:lee", "li1ei2ei1ei1ei1ei1e1:xe"} {
		d := newDisk(t, 60)
		l, _ := logs.Open(d)
		l.Add(junk)
		l.Flush()
		tryAll(t, d, 1)
	}
	d := newDisk(t, 60)
	for i := range 60 {
		d.Put(i, fmt.Sprint(i, "junk"))
	}
	if state, epoch, version, move := openShard(t, d, 1).Stands(); state != None || epoch != 0 || version != 0 || move != 0 {
		t.Error("a disk of others' bytes", state, epoch, version, move)
	}
	tryAll(t, d, 1)
}

// value is a likely part of a record.
func value(g *numbers, deep int) api.Value {
	switch n := g.next(12); {
	case n < 6 || deep == 0:
		return benc.Int([]int{0, 1, 2, 3, 4, 5, 6, -1, 1 << 40, math.MinInt, math.MaxInt}[g.next(11)])
	case n < 8:
		return benc.Str([]string{"", "le", "x", "lli0ei9ei0ei0eee"}[g.next(4)])
	}
	var l []api.Value
	for range g.next(9) {
		l = append(l, value(g, deep-1))
	}
	return benc.List(l...)
}

// tryAll lets a shard on a disk be asked for all, so that a panic is seen.
func tryAll(t *testing.T, d *block.Disk, dim int) {
	t.Helper()
	s := openShard(t, d, dim)
	for range 2 {
		s.Stands()
		s.Points()
		text, _ := s.Text()
		s.Since(0)
		s.Ask(make([]int, dim), 5, 100)
		s.Write(0, 1, api.Op{Kind: 1, Id: 7, V: make([]int, dim)})
		s.Write(0, 2, api.Op{Kind: 2, Id: 7})
		s.Seal(1)
		s.Reopen(1, 1<<40)
		s.Load(1<<40-2, text)
		s.Adopt(1<<40-2, 1<<40, text)
		s.Forget(1 << 40)
		s.Found(1 << 40)
	}
	openShard(t, d, dim)
}

// TestOtherRecordsAhead: other records on the disk are passed over; what is done behind them survives.
func TestOtherRecordsAhead(t *testing.T) {
	x := newBoth(t, 60, 1, book{})
	l, _ := logs.Open(x.d)
	x.ok(l.Add("junk"))
	x.ok(l.Flush())
	x.s = openShard(t, x.d, 1)
	x.check()
	x.ok(x.found(1))
	x.ok(x.put(0, 7, 3))
	x.fail(0, 0)
}

// TestOtherDim: a disk that is opened for vectors of other numbers tells how the shard stands, and none of its points; opened as it was, it tells them.
func TestOtherDim(t *testing.T) {
	x := some(t, 60, 2, book{})
	s := openShard(t, x.d, 3)
	if state, epoch, version, _ := s.Stands(); state != Owner || epoch != 3 || version != 4 || len(s.Points()) != 0 {
		t.Error(state, epoch, version, s.Points())
	}
	x.fail(0, 0)
}

// TestMemory: a shard that was forgotten keeps nothing of its points, and one that was loaded nothing of the text beyond what it is.
func TestMemory(t *testing.T) {
	x := founded(t, 2000, 16)
	for i := range 512 {
		if _, e := x.s.Write(0, i+1, api.Op{Kind: 1, Id: i, V: slices.Repeat([]int{1<<31 - 1 - i}, 16)}); e != api.OK {
			t.Fatal(e)
		}
	}
	text, _ := x.s.Text()
	const shards = 20
	var l [shards]*Shard
	before := heap()
	for i := range l {
		d := newDisk(t, 2000)
		l[i] = openShard(t, d, 16)
		if e := l[i].Load(1, text); e != api.OK {
			t.Fatal(e)
		}
	}
	if n := (heap() - before) / shards; n > 900_000 {
		t.Errorf("a shard of 512 points keeps %d bytes", n)
	}
	for i := range l {
		l[i].Forget(1)
	}
	if n := (heap() - before) / shards; n > 350_000 {
		t.Errorf("a shard that was forgotten keeps %d bytes", n)
	}
	runtime.KeepAlive(l)
}

func heap() int {
	runtime.GC()
	runtime.GC()
	var m runtime.MemStats
	runtime.ReadMemStats(&m)
	return int(m.HeapAlloc)
}

// TestSameTwice: the same calls answer the same, and leave the same on the disk.
func TestSameTwice(t *testing.T) {
	play := func() (string, []string) {
		x := founded(t, 40, 2)
		for i := range 300 {
			x.ok(x.put(i%8, i*i%29, i, -i))
			x.ok(x.drop(7-i%8, i%13))
		}
		x.ok(x.seal(1))
		return x.text(), blocksOf(x.d)
	}
	text, blocks := play()
	for range 3 {
		if other, b := play(); other != text || !slices.Equal(b, blocks) {
			t.Fatal("the same calls answer otherwise")
		}
	}
}
