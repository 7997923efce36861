package shard

import (
	"fmt"
	"math"
	"plover/api"
	"slices"
	"strings"
	"testing"
)

// TestRecordsFit: no record is longer than a log takes it, and points are cut into as many as their number says.
func TestRecordsFit(t *testing.T) {
	for _, n := range []int{0, 1, 127, 128, 129, 255, 256, 257, 384, 385, 511, 512} {
		k := keptOf(16, nil)
		for i := range n {
			k.tree.Put(api.Point{Id: math.MinInt + i, V: slices.Repeat([]int{-1 << 31}, 16)})
		}
		l := k.records()
		if len(l) != 1+(n+127)/128 {
			t.Errorf("%d points are %d records", n, len(l))
		}
		for _, r := range l {
			if len(r) > api.MaxRecord {
				t.Errorf("a record of %d bytes", len(r))
			}
		}
		if again := keptOf(16, l); !samePoints(again.tree.Points(), k.tree.Points()) {
			t.Errorf("%d points are others when they are read", n)
		}
	}
}

// TestSpoiltTexts: a text of which a byte is changed, put in, taken out, or two stand the other way round, is none.
func TestSpoiltTexts(t *testing.T) {
	for _, dim := range []int{1, 2} {
		text := some(t, 100, dim, book{}).text()
		s := openShard(t, newDisk(t, 100), dim)
		try := func(other string) {
			t.Helper()
			if other == text {
				return
			}
			if e := s.Load(1, other); e != api.ErrValue {
				t.Fatalf("Load(1, %q) = %d", other, e)
			}
		}
		for i := range text {
			for c := range 256 {
				try(text[:i] + string([]byte{byte(c)}) + text[i+1:])
				try(text[:i] + string([]byte{byte(c)}) + text[i:])
			}
			try(text[:i])
			try(text[i:])
			try(text[:i] + text[i+1:])
			if i > 0 {
				try(text[:i-1] + text[i:i+1] + text[i-1:i] + text[i+1:])
			}
		}
	}
}

// textOf are records as a text looks.
func textOf(records ...record) string {
	l := make([]string, len(records))
	for i, r := range records {
		l[i] = r.text()
	}
	return framesOf([]string{framesOf(l)})
}

// TestOtherRecords: whole frames of records that no shard would tell so are no text.
func TestOtherRecords(t *testing.T) {
	head := record{kind: wholeRecord, version: 2, dim: 1, table: "lli0ei9ei0ei0eee"}
	one, two := api.Point{Id: 1, V: []int{5}}, api.Point{Id: 2, V: []int{6}}
	both := record{kind: pointsRecord, points: []api.Point{one, two}}
	good := textOf(head, both)
	load := func(text string) api.Errno {
		return openShard(t, newDisk(t, 100), 1).Load(1, text)
	}
	if e := load(good); e != api.OK {
		t.Fatalf("Load of a text = %d", e)
	}
	change := func(by func(h, p *record)) record2 {
		h, p := head, both
		p.points = slices.Clone(p.points)
		by(&h, &p)
		return record2{h, p}
	}
	for i, r := range []record2{
		change(func(h, p *record) { h.state = Owner }),
		change(func(h, p *record) { h.epoch = 1 }),
		change(func(h, p *record) { h.move = 1 }),
		change(func(h, p *record) { h.dim = 2 }),
		change(func(h, p *record) { h.dim = 0 }),
		change(func(h, p *record) { h.table = "" }),
		change(func(h, p *record) { h.table = "le" }),
		change(func(h, p *record) { h.table = "lli0ei9ei0ei0eeex" }),
		change(func(h, p *record) { h.table = "lli0ei9ei3ei0eee" }),
		change(func(h, p *record) { h.table = "lli0ei9ei0ei1eee" }),
		change(func(h, p *record) { h.version = 1 }),
		change(func(h, p *record) { h.version = 10 }),
		change(func(h, p *record) { h.version = -1 }),
		change(func(h, p *record) { h.version = math.MinInt }),
		change(func(h, p *record) { h.version = math.MaxInt }),
		change(func(h, p *record) { h.kind = standRecord }),
		change(func(h, p *record) { h.kind = 0 }),
		change(func(h, p *record) { p.points[0], p.points[1] = two, one }),
		change(func(h, p *record) { p.points[1] = one }),
		change(func(h, p *record) { p.points[1].V = nil }),
		change(func(h, p *record) { p.points[1].V = []int{1, 2} }),
		change(func(h, p *record) { p.points[1].V = []int{1 << 31} }),
		change(func(h, p *record) { p.points = nil }),
		change(func(h, p *record) { p.table = "x" }),
		change(func(h, p *record) { p.kind = insertRecord }),
		change(func(h, p *record) { p.kind = 6 }),
		change(func(h, p *record) { h.points = p.points }),
		{both, head}, {head, head}, {both, both},
	} {
		if e := load(textOf(r.a, r.b)); e != api.ErrValue {
			t.Errorf("Load of text %d = %d", i, e)
		}
	}
	three := record{kind: pointsRecord, points: []api.Point{two}}
	first := record{kind: pointsRecord, points: []api.Point{one}}
	inside := func(records ...string) string { return framesOf([]string{framesOf(records)}) }
	h, p := head.text(), both.text()
	for i, text := range []string{
		textOf(both), textOf(head, first, three), textOf(head, both, both), textOf(head, both, head), textOf(head, both, record{kind: standRecord}),
		inside(h, p, ""), inside(h, p, "junk"), inside("", h, p), inside(h + p), inside(h+"x", p), inside(),
		framesOf([]string{h, p}), framesOf([]string{framesOf([]string{h, p}) + "x"}), framesOf([]string{h + p}), good + inside(h), good + framesOf([]string{""}),
	} {
		if e := load(text); e != api.ErrValue {
			t.Errorf("Load of row %d = %d", i, e)
		}
	}
}

type record2 struct{ a, b record }

// TestHeadAlone: a shard without points; its table is that of some changes, or of none, and never missing.
func TestHeadAlone(t *testing.T) {
	for table, want := range map[string]api.Errno{"le": api.OK, "": api.ErrValue, "x": api.ErrValue, "lex": api.ErrValue, "i1e": api.ErrValue, "lli0ei1ei0ei0eee": api.ErrValue} {
		text := textOf(record{kind: wholeRecord, dim: 1, table: table})
		if e := openShard(t, newDisk(t, 100), 1).Load(1, text); e != want {
			t.Errorf("Load of a head with the table %q = %d, want %d", table, e, want)
		}
	}
}

// TestTooManyPoints: more than MaxPoints are no shard's.
func TestTooManyPoints(t *testing.T) {
	for _, n := range []int{512, 513} {
		head := record{kind: wholeRecord, version: n, dim: 1, table: "lli0ei9999ei0ei0eee"}
		l := []record{head}
		for from := 0; from < n; from += 128 {
			var r record
			r.kind = pointsRecord
			for i := from; i < min(n, from+128); i++ {
				r.points = append(r.points, api.Point{Id: i, V: []int{1}})
			}
			l = append(l, r)
		}
		e := openShard(t, newDisk(t, 2000), 1).Load(1, textOf(l...))
		if (e == api.OK) != (n == 512) || e != api.OK && e != api.ErrValue {
			t.Errorf("%d points: %d", n, e)
		}
	}
}

// TestLongText: texts of so many bytes, and more, are none.
func TestLongText(t *testing.T) {
	s := openShard(t, newDisk(t, 2000), 1)
	one := framesOf([]string{string(make([]byte, 1000))})
	for _, bytes := range []int{api.MaxFrame - 1020, api.MaxFrame, 1 << 24} {
		long := strings.Repeat(one, bytes/len(one))
		for _, text := range []string{long, framesOf([]string{long[:min(len(long), api.MaxFrame)]})} {
			if e := s.Load(1, text); e != api.ErrValue {
				t.Error(bytes, e)
			}
		}
	}
}

// state is what a text tells, but for where the points are: as many, of how many changes, and each client's last number, and whether there was a point.
type state struct {
	version, points int
	seq             [2]int
	was             [2]bool
}

// TestWhichMayBe: just those texts are taken that some changes lead to, by all rows of up to six changes of two clients.
func TestWhichMayBe(t *testing.T) {
	const most, ids = 4, 3
	reached := map[state]bool{}
	type at struct {
		state
		there [ids]bool
	}
	level := map[at]bool{{}: true}
	for range 7 {
		next := map[at]bool{}
		for a := range level {
			reached[a.state] = true
			for client := range 2 {
				for seq := a.seq[client] + 1; seq <= most; seq++ {
					for id := range ids {
						for _, insert := range []bool{false, true} {
							b := a
							b.version++
							b.seq[client], b.was[client] = seq, a.there[id]
							b.there[id] = insert
							b.points = 0
							for _, there := range b.there {
								if there {
									b.points++
								}
							}
							next[b] = true
						}
					}
				}
			}
		}
		level = next
	}
	checkReached(t, reached, most, ids)
}

func checkReached(t *testing.T, reached map[state]bool, most, ids int) {
	t.Helper()
	tried := 0
	for version := -1; version <= 6; version++ {
		for points := range ids + 1 {
			for clients := range (most + 1) * 2 * (most + 1) * 2 {
				c := clients
				var s state
				s.version, s.points = version, points
				for i := range 2 {
					s.seq[i], s.was[i] = c%(most+1), c/(most+1)%2 == 1
					c /= 2 * (most + 1)
					if s.seq[i] == 0 && s.was[i] {
						s.seq[i] = -1
					}
				}
				if s.seq[0] < 0 || s.seq[1] < 0 {
					continue
				}
				tried++
				e := openShard(t, newDisk(t, 20), 1).Load(1, textOfState(s))
				if (e == api.OK) != reached[s] || e != api.OK && e != api.ErrValue {
					t.Fatalf("Load of %+v = %d, want %v", s, e, reached[s])
				}
			}
		}
	}
	if tried < 2000 {
		t.Error(tried)
	}
}

func textOfState(s state) string {
	table := "l"
	for i := range 2 {
		if s.seq[i] > 0 {
			table += fmt.Sprintf("li%dei%dei0ei%dee", i, s.seq[i], map[bool]int{true: 1}[s.was[i]])
		}
	}
	l := []record{{kind: wholeRecord, version: s.version, dim: 1, table: table + "e"}}
	if s.points > 0 {
		r := record{kind: pointsRecord}
		for i := range s.points {
			r.points = append(r.points, api.Point{Id: i, V: []int{i}})
		}
		l = append(l, r)
	}
	return textOf(l...)
}
