package shard

import (
	"plover/api"
	"plover/block"
	"plover/frame"
	"testing"
)

// blocksOf is all that a disk has.
func blocksOf(d *block.Disk) []string {
	l := make([]string, d.Blocks())
	for i := range l {
		l[i], _ = d.Get(i)
	}
	return l
}

// some is an owner with two points, of which three clients know.
func some(t *testing.T, blocks, dim int, b book) *both {
	t.Helper()
	x := newBoth(t, blocks, dim, b)
	x.ok(x.found(3))
	v := make([]int, dim)
	x.ok(x.put(0, 7, v...))
	v[0] = 5
	x.ok(x.put(1, 9, v...))
	x.ok(x.put(1, 7, v...))
	x.ok(x.drop(6, 8))
	return x
}

// allStates is a shard of each state that it may have: with and without points, moves that it knows of, and epochs.
func allStates(t *testing.T, dim int) []*both {
	t.Helper()
	b := book{}
	text := some(t, 100, dim, b).text()
	var l []*both
	add := func(x *both, steps ...api.Errno) *both {
		t.Helper()
		for _, e := range steps {
			x.ok(e)
		}
		l = append(l, x)
		return x
	}
	add(newBoth(t, 100, dim, b))
	x := newBoth(t, 100, dim, b)
	add(x, x.forget(3))
	x = newBoth(t, 100, dim, b)
	add(x, x.load(3, text))
	x = newBoth(t, 100, dim, b)
	add(x, x.found(3), x.reopen(1, 4), x.seal(2), x.forget(2), x.load(3, text))
	x = newBoth(t, 100, dim, b)
	add(x, x.found(3), x.reopen(1, 4), x.seal(2), x.forget(3))
	x = newBoth(t, 100, dim, b)
	add(x, x.found(3))
	add(some(t, 100, dim, b))
	x = some(t, 100, dim, b)
	add(x, x.reopen(3, 5))
	x = newBoth(t, 100, dim, b)
	add(x, x.load(3, text), x.adopt(3, 4, text))
	x = newBoth(t, 100, dim, b)
	add(x, x.found(3), x.seal(3))
	x = some(t, 100, dim, b)
	add(x, x.seal(3))
	x = some(t, 100, dim, b)
	add(x, x.reopen(1, 5), x.seal(4))
	return l
}

func framesOf(records []string) string {
	all := ""
	for _, r := range records {
		s, e := frame.Put(r)
		if e != api.OK {
			panic("no frame")
		}
		all += s
	}
	return all
}
