package node

import (
	"fmt"
	"math"
	"plover/api"
	"plover/shard"
	"strings"
	"testing"
)

// states are all ways in which a shard may stand; some has the shard 1 so, and the shard 0 founded with one point.
var states = []string{"none", "forgotten", "copy", "owner", "emptied", "adopted", "sealed", "opened", "sealed later"}

// text is what an owner of four changes tells: 7 at 5, 9 at 6.
func text(t *testing.T) string {
	t.Helper()
	s, e := shard.Open(newDisk(t, 100), 1)
	if e != api.OK || s.Found(3) != api.OK {
		t.Fatal(e)
	}
	for _, m := range changes() {
		if _, e := s.Write(m.Client, m.Seq, m.Op); e != api.OK {
			t.Fatal(e)
		}
	}
	out, _ := s.Text()
	return out
}

func changes() []api.Msg {
	return []api.Msg{insert(1, 0, 1, 7, 4), insert(1, 1, 1, 9, 6), insert(1, 1, 2, 7, 5), drop(1, 6, 8, 8)}
}

func some(t *testing.T, state string) *twin {
	t.Helper()
	x := newTwin(t, config(2, 1), 100)
	x.found(0, 2)
	x.must(insert(0, 3, 3, 1, 1))
	switch state {
	case "none":
	case "forgotten":
		x.must(api.Msg{Kind: 15, Shard: 1, N: 3})
	case "copy":
		x.must(api.Msg{Kind: 9, Shard: 1, N: 3, Text: text(t)})
	case "adopted":
		x.must(api.Msg{Kind: 9, Shard: 1, N: 3, Text: text(t)})
		x.must(api.Msg{Kind: 13, Shard: 1, N: 3, Epoch: 4, Text: text(t)})
	case "emptied":
		x.found(1, 3)
	default:
		x.found(1, 3)
		for _, m := range changes() {
			x.must(m)
		}
		switch state {
		case "sealed":
			x.must(api.Msg{Kind: 11, Shard: 1, N: 3})
		case "opened":
			x.must(api.Msg{Kind: 17, Shard: 1, N: 3, Epoch: 5})
		case "sealed later":
			x.must(api.Msg{Kind: 17, Shard: 1, N: 1, Epoch: 5})
			x.must(api.Msg{Kind: 11, Shard: 1, N: 4, Version: 2})
		}
	}
	x.sameMarks()
	return x
}

// told is what a message must be answered; the text "text" stands for what text tells.
type told struct {
	m    api.Msg
	want api.Msg
}

// holds holds answers that are written out.
func holds(t *testing.T, state string, rows ...told) *twin {
	t.Helper()
	x := some(t, state)
	for i, r := range rows {
		for _, at := range []*string{&r.m.Text, &r.want.Text} {
			if *at == "text" {
				*at = text(t)
			}
		}
		if out := x.hears(r.m); !same(out, r.want) {
			t.Errorf("%s, row %d: Hears(%s) = %s, want %s", state, i, show(r.m), show(out), show(r.want))
		}
	}
	x.end()
	return x
}

// No1: each row of the chapter's table, written out.
func TestTable(t *testing.T) {
	holds(t, "owner",
		told{insert(1, 2, 9, 4, 1), api.Msg{Kind: 2, Shard: 1, Client: 2, Seq: 9}},
		told{insert(1, 2, 10, 4, 2), api.Msg{Kind: 2, Shard: 1, Client: 2, Seq: 10, Reply: api.Reply{Was: true}}},
		told{drop(1, 2, 1<<40, 3), api.Msg{Kind: 2, Shard: 1, Client: 2, Seq: 1 << 40}},
		told{drop(1, 5, 1, 4), api.Msg{Kind: 2, Shard: 1, Client: 5, Seq: 1, Reply: api.Reply{Was: true}}},
		told{drop(1, 5, 1, 4), api.Msg{Kind: 2, Shard: 1, Client: 5, Seq: 1, Reply: api.Reply{Was: true}}},
		told{query(1, 0, 3, 1<<40, 3), api.Msg{Kind: 4, Shard: 1, Version: 8, Reply: api.Reply{Hits: []api.Hit{{Id: 7, Dist: 2}, {Id: 9, Dist: 3}}}}},
		told{query(1, 1<<40, 1, 99, 3), api.Msg{Kind: 4, Shard: 1, N: 1 << 40, Version: 8, Reply: api.Reply{Hits: []api.Hit{{Id: 7, Dist: 2}}}}},
		told{query(1, 9, 3, 2, 3), api.Msg{Kind: 4, Shard: 1, N: 9, Version: 8, Reply: api.Reply{Hits: []api.Hit{{Id: 7, Dist: 2}}}}},
		told{query(1, 9, 3, 1, 3), api.Msg{Kind: 4, Shard: 1, N: 9, Version: 8}},
		told{api.Msg{Kind: 5, Shard: 1, N: 77}, api.Msg{Kind: 6, Shard: 1, N: 77, Version: 8}},
		told{api.Msg{Kind: 5, Shard: 0}, api.Msg{Kind: 6, Version: 1}},
	)
	holds(t, "owner",
		told{api.Msg{Kind: 7, Shard: 1, N: 5}, api.Msg{Kind: 8, Shard: 1, N: 5, Version: 4, Text: "text"}},
		told{api.Msg{Kind: 7, Shard: 1}, api.Msg{Kind: 8, Shard: 1, Version: 4, Text: "text"}},
		told{api.Msg{Kind: 11, Shard: 1, N: 5, Version: 4}, api.Msg{Kind: 12, Shard: 1, N: 5, Text: "text"}},
		told{api.Msg{Kind: 11, Shard: 1, N: 5, Version: 5}, api.Msg{Kind: 12, Shard: 1, N: 5, Text: "text"}},
		told{api.Msg{Kind: 7, Shard: 1, N: 5}, api.Msg{Kind: 8, Shard: 1, N: 5, Text: "text"}},
		told{api.Msg{Kind: 17, Shard: 1, N: 5, Epoch: 8}, api.Msg{Kind: 18, Shard: 1, N: 5}},
		told{api.Msg{Kind: 17, Shard: 1, N: 5, Epoch: 8}, api.Msg{Kind: 18, Shard: 1, N: 5}},
		told{api.Msg{Kind: 11, Shard: 1, N: 6, Version: 1 << 40}, api.Msg{Kind: 12, Shard: 1, N: 6, Text: "text"}},
		told{api.Msg{Kind: 15, Shard: 1, N: 6}, api.Msg{Kind: 16, Shard: 1, N: 6}},
		told{api.Msg{Kind: 15, Shard: 1, N: 5}, api.Msg{Kind: 16, Shard: 1, N: 5}},
		told{api.Msg{Kind: 9, Shard: 1, N: 7, Text: "text"}, api.Msg{Kind: 10, Shard: 1, N: 7}},
		told{api.Msg{Kind: 9, Shard: 1, N: 8, Text: "text"}, api.Msg{Kind: 10, Shard: 1, N: 8}},
		told{api.Msg{Kind: 13, Shard: 1, N: 8, Epoch: 9, Text: "text"}, api.Msg{Kind: 14, Shard: 1, N: 8}},
		told{api.Msg{Kind: 13, Shard: 1, N: 8, Epoch: 9}, api.Msg{Kind: 14, Shard: 1, N: 8}},
		told{drop(1, 6, 8, 9), api.Msg{Kind: 2, Shard: 1, Client: 6, Seq: 8}},
		told{api.Msg{Kind: 5, Shard: 1, N: 1}, api.Msg{Kind: 6, Shard: 1, N: 1, Version: 4}},
	)
}

// moved is what a question is answered that is refused.
func moved(kind, n int, e api.Errno) api.Msg {
	return api.Msg{Kind: 19, Shard: 1, N: n, Version: kind, Reply: api.Reply{Err: e}}
}

// movedWrite is what a change is answered that is refused.
func movedWrite(client, seq int, e api.Errno) api.Msg {
	return api.Msg{Kind: 19, Shard: 1, Client: client, Seq: seq, Version: 1, Reply: api.Reply{Err: e}}
}

// No1: what is refused of MsgWrite, written out: by ErrSealed and ErrArg with MsgMoved, by others with MsgWrote.
func TestRefusedWrite(t *testing.T) {
	wrote := func(client, seq int, e api.Errno) api.Msg {
		return api.Msg{Kind: 2, Shard: 1, Client: client, Seq: seq, Reply: api.Reply{Err: e}}
	}
	for _, state := range []string{"none", "forgotten", "copy", "sealed", "sealed later"} {
		holds(t, state,
			told{insert(1, 2, 1, 4, 1), movedWrite(2, 1, 100)},
			told{insert(1, 1, 2, 7, 5), movedWrite(1, 2, 100)},
			told{drop(1, 0, 1<<40, 4), movedWrite(0, 1<<40, 100)},
			told{drop(1, 1, 1, 4), movedWrite(1, 1, 100)},
			told{insert(1, 2, 1, 4), movedWrite(2, 1, 100)},
			told{insert(1, 8, 1, 4), movedWrite(8, 1, 1)},
			told{api.Msg{Kind: 1, Shard: 1, Client: 1, Seq: 9, Op: api.Op{Kind: 3, V: []int{1}, K: 3}}, movedWrite(1, 9, 1)},
		)
	}
	holds(t, "owner",
		told{insert(1, 8, 1, 4, 1), movedWrite(8, 1, 1)},
		told{insert(1, 1<<40, 1, 4, 1), movedWrite(1<<40, 1, 1)},
		told{insert(1, 2, 0, 4, 1), movedWrite(2, 0, 1)},
		told{api.Msg{Kind: 1, Shard: 1, Client: 2, Seq: 1}, movedWrite(2, 1, 1)},
		told{api.Msg{Kind: 1, Shard: 1}, movedWrite(0, 0, 1)},
		told{api.Msg{Kind: 1, Shard: 1, Client: 2, Seq: 1, Op: api.Op{Kind: 3, V: []int{1}, K: 3}}, movedWrite(2, 1, 1)},
		told{insert(1, 1, 1, 4, 1), wrote(1, 1, 90)},
		told{drop(1, 6, 7, 4), wrote(6, 7, 90)},
		told{insert(1, 2, 1, 4), wrote(2, 1, 50)},
		told{insert(1, 2, 1, 4, 1, 2), wrote(2, 1, 50)},
		told{insert(1, 1, 1, 4), wrote(1, 1, 90)},
		told{insert(1, 1, 2, 4), api.Msg{Kind: 2, Shard: 1, Client: 1, Seq: 2, Reply: api.Reply{Was: true}}},
	)
	x := some(t, "emptied")
	for i := range 512 {
		x.n.Hears(insert(1, 2, 1+i, i, i))
		x.shards[1].Write(2, 1+i, insert(1, 2, 1+i, i, i).Op)
		x.marks = append(x.marks, Mark{2, 1 + i})
	}
	x.check()
	for _, r := range []told{
		{insert(1, 2, 600, 512, 1), wrote(2, 600, 2)},
		{insert(1, 2, 600, 511, 1), api.Msg{Kind: 2, Shard: 1, Client: 2, Seq: 600, Reply: api.Reply{Was: true}}},
		{insert(1, 2, 601, 512, 1), wrote(2, 601, 2)},
		{insert(1, 2, 601, 512), wrote(2, 601, 50)},
	} {
		if out := x.hears(r.m); !same(out, r.want) {
			t.Errorf("Hears(%s) = %s, want %s", show(r.m), show(out), show(r.want))
		}
	}
	x.end()
}

// No1: what is refused of MsgAsk and MsgCheck, written out: by ErrSealed alone with MsgMoved.
func TestRefusedAsk(t *testing.T) {
	for _, state := range []string{"none", "forgotten", "copy", "sealed", "sealed later"} {
		holds(t, state,
			told{query(1, 5, 3, 99, 1), moved(3, 5, 100)},
			told{query(1, 0, 0, 99), moved(3, 0, 100)},
			told{query(1, 1<<40, 3, 99, 1, 2), moved(3, 1<<40, 100)},
			told{api.Msg{Kind: 5, Shard: 1, N: 6}, moved(5, 6, 100)},
			told{api.Msg{Kind: 5, Shard: 1}, moved(5, 0, 100)},
		)
	}
	for _, state := range []string{"owner", "adopted", "opened"} {
		holds(t, state,
			told{query(1, 5, 0, 99, 1), api.Msg{Kind: 4, Shard: 1, N: 5, Version: 4, Reply: api.Reply{Err: 51}}},
			told{query(1, 5, 3, 99, 1, 2), api.Msg{Kind: 4, Shard: 1, N: 5, Version: 4, Reply: api.Reply{Err: 50}}},
			told{query(1, 5, 0, 99), api.Msg{Kind: 4, Shard: 1, N: 5, Version: 4, Reply: api.Reply{Err: 50}}},
			told{query(1, 5, 64, 0, 5), api.Msg{Kind: 4, Shard: 1, N: 5, Version: 4, Reply: api.Reply{Hits: []api.Hit{{Id: 7}}}}},
		)
	}
	holds(t, "emptied",
		told{query(1, 5, 64, 1<<40, 5), api.Msg{Kind: 4, Shard: 1, N: 5}},
		told{query(1, 5, 64, 1<<40), api.Msg{Kind: 4, Shard: 1, N: 5, Reply: api.Reply{Err: 50}}},
		told{api.Msg{Kind: 5, Shard: 1, N: 5}, api.Msg{Kind: 6, Shard: 1, N: 5}},
	)
}

// No1: what is refused of moves, written out.
func TestRefusedMoves(t *testing.T) {
	for _, state := range []string{"none", "forgotten", "copy"} {
		holds(t, state, told{api.Msg{Kind: 7, Shard: 1, N: 5}, moved(7, 5, 100)})
		holds(t, state,
			told{api.Msg{Kind: 11, Shard: 1, N: 5, Version: 1}, moved(11, 5, 100)},
			told{api.Msg{Kind: 9, Shard: 1, N: 5, Text: "x"}, moved(9, 5, 20)},
			told{api.Msg{Kind: 9, Shard: 1, N: 5}, moved(9, 5, 20)},
			told{api.Msg{Kind: 9, Shard: 1, N: 0, Text: "text"}, moved(9, 0, 1)},
			told{api.Msg{Kind: 13, Shard: 1, N: 5, Epoch: 9, Text: "text"}, moved(13, 5, 100)},
			told{api.Msg{Kind: 17, Shard: 1, N: 5, Epoch: 9}, moved(17, 5, 100)},
		)
	}
	for _, state := range []string{"owner", "adopted", "sealed", "opened", "sealed later"} {
		holds(t, state, told{api.Msg{Kind: 9, Shard: 1, N: 5, Text: "text"}, moved(9, 5, 100)})
		for kind := 9; kind <= 17; kind += 2 {
			holds(t, state, told{api.Msg{Kind: kind, Shard: 1, Epoch: 9, Text: "text"}, moved(kind, 0, 1)})
		}
	}
	for _, state := range []string{"owner", "adopted", "opened"} {
		holds(t, state, told{api.Msg{Kind: 15, Shard: 1, N: 5}, moved(15, 5, 100)})
	}
	holds(t, "forgotten",
		told{api.Msg{Kind: 9, Shard: 1, N: 3, Text: "text"}, moved(9, 3, 90)},
		told{api.Msg{Kind: 9, Shard: 1, N: 2, Text: "text"}, moved(9, 2, 90)},
		told{api.Msg{Kind: 15, Shard: 1, N: 2}, api.Msg{Kind: 16, Shard: 1, N: 2}},
		told{api.Msg{Kind: 17, Shard: 1, N: 2, Epoch: 9}, moved(17, 2, 90)},
	)
	holds(t, "copy",
		told{api.Msg{Kind: 13, Shard: 1, N: 3, Text: "text"}, moved(13, 3, 1)},
		told{api.Msg{Kind: 13, Shard: 1, N: 3, Epoch: 1, Text: "x"}, moved(13, 3, 20)},
		told{api.Msg{Kind: 13, Shard: 1, N: 4, Epoch: 1, Text: "text"}, moved(13, 4, 100)},
		told{api.Msg{Kind: 15, Shard: 1, N: 2}, api.Msg{Kind: 16, Shard: 1, N: 2}},
		told{api.Msg{Kind: 13, Shard: 1, N: 3, Epoch: 1, Text: "text"}, api.Msg{Kind: 14, Shard: 1, N: 3}},
	)
	holds(t, "opened",
		told{api.Msg{Kind: 11, Shard: 1, N: 3}, moved(11, 3, 90)},
		told{api.Msg{Kind: 17, Shard: 1, N: 4, Epoch: 5}, moved(17, 4, 101)},
		told{api.Msg{Kind: 17, Shard: 1, N: 2, Epoch: 6}, moved(17, 2, 90)},
		told{api.Msg{Kind: 15, Shard: 1, N: 2}, api.Msg{Kind: 16, Shard: 1, N: 2}},
		told{api.Msg{Kind: 15, Shard: 1, N: 3}, moved(15, 3, 100)},
	)
	holds(t, "sealed",
		told{api.Msg{Kind: 11, Shard: 1, N: 4}, moved(11, 4, 100)},
		told{api.Msg{Kind: 17, Shard: 1, N: 4, Epoch: 9}, moved(17, 4, 100)},
		told{api.Msg{Kind: 17, Shard: 1, N: 3, Epoch: 3}, moved(17, 3, 101)},
		told{api.Msg{Kind: 13, Shard: 1, N: 3, Epoch: 9, Text: "text"}, moved(13, 3, 100)},
	)
}

// longText is what an owner of 60 points tells.
func longText(t *testing.T) string {
	t.Helper()
	s, e := shard.Open(newDisk(t, 100), 1)
	if e != api.OK || s.Found(3) != api.OK {
		t.Fatal(e)
	}
	for i := range 60 {
		if _, e := s.Write(0, i+1, insert(0, 0, i+1, i, i).Op); e != api.OK {
			t.Fatal(e)
		}
	}
	out, _ := s.Text()
	return out
}

// No1: ErrDisk is told as all others are: of MsgWrite by MsgWrote, of moves by MsgMoved; and what is refused so has changed nothing.
func TestDiskFull(t *testing.T) {
	small, long := text(t), longText(t)
	seen := map[int]int{}
	for blocks := 4; blocks <= 40; blocks++ {
		x := newTwin(t, config(2, 1), blocks)
		for _, m := range []api.Msg{{Kind: 9, Shard: 1, N: 2, Text: long}, {Kind: 9, Shard: 1, N: 3, Text: small}, {Kind: 13, Shard: 1, N: 3, Epoch: 1 << 40, Text: long}, {Kind: 15, Shard: 1, N: 1 << 40}} {
			if out := x.hears(m); out.Reply.Err == api.ErrDisk {
				seen[m.Kind]++
				if !same(out, api.Msg{Kind: 19, Shard: 1, N: m.N, Version: m.Kind, Reply: api.Reply{Err: 70}}) {
					t.Errorf("Hears(%s) = %s", show(m), show(out))
				}
			}
		}
		if x.found(0, 1) != api.OK {
			continue
		}
		for i := range 200 {
			m := insert(0, i%8, 1+i, i, 1<<31-1-i)
			if out := x.hears(m); out.Reply.Err == api.ErrDisk {
				seen[1]++
				if !same(out, api.Msg{Kind: 2, Client: m.Client, Seq: m.Seq, Reply: api.Reply{Err: 70}}) {
					t.Errorf("Hears(%s) = %s", show(m), show(out))
				}
				break
			}
		}
		// The log has no room for a point, but may have for how it stands.
		for i := range 60 {
			for _, m := range []api.Msg{{Kind: 11, N: 2*i + 1}, {Kind: 17, N: 2*i + 1, Epoch: 2 + i}, query(0, 1, 64, 1<<40, 1)} {
				if x.hears(m).Reply.Err == api.ErrDisk {
					seen[m.Kind]++
				}
			}
		}
		x.end()
	}
	if seen[1] < 10 || seen[9] < 3 || seen[11] < 3 || seen[13] < 3 || seen[17] < 3 {
		t.Errorf("so many had no room, by their kinds: %v", seen)
	}
}

// fields change a field of a message, each to what base does not have there.
var fields = map[string][]func(m *api.Msg){
	"Epoch":   {func(m *api.Msg) { m.Epoch = 0 }, func(m *api.Msg) { m.Epoch = 1 }, func(m *api.Msg) { m.Epoch = 1 << 40 }},
	"Client":  {func(m *api.Msg) { m.Client = 0 }, func(m *api.Msg) { m.Client = 9 }, func(m *api.Msg) { m.Client = 1 << 40 }},
	"Seq":     {func(m *api.Msg) { m.Seq = 0 }, func(m *api.Msg) { m.Seq = 1 }, func(m *api.Msg) { m.Seq = 1 << 40 }},
	"N":       {func(m *api.Msg) { m.N = 0 }, func(m *api.Msg) { m.N = 1 }, func(m *api.Msg) { m.N = 1 << 40 }},
	"Version": {func(m *api.Msg) { m.Version = 0 }, func(m *api.Msg) { m.Version = 5 }, func(m *api.Msg) { m.Version = 1 << 40 }},
	"Limit":   {func(m *api.Msg) { m.Limit = 0 }, func(m *api.Msg) { m.Limit = 1 << 40 }},
	"Kind":    {func(m *api.Msg) { m.Op.Kind = 0 }, func(m *api.Msg) { m.Op.Kind = 2 }, func(m *api.Msg) { m.Op.Kind = 3 }},
	"Id":      {func(m *api.Msg) { m.Op.Id = 0 }, func(m *api.Msg) { m.Op.Id = math.MinInt }},
	"V":       {func(m *api.Msg) { m.Op.V = nil }, func(m *api.Msg) { m.Op.V = []int{8, 9} }},
	"K":       {func(m *api.Msg) { m.Op.K = 0 }, func(m *api.Msg) { m.Op.K = 64 }},
	"Text":    {func(m *api.Msg) { m.Text = "" }, func(m *api.Msg) { m.Text = "x" }, func(m *api.Msg) { m.Text = strings.Repeat("x", 1<<18) }},
	"Reply":   {func(m *api.Msg) { m.Reply = api.Reply{Err: 70, Was: true, Hits: []api.Hit{{Id: 3, Dist: 4}}} }},
}

// counts tells which fields of a question count, but for its Shard.
var counts = map[int]string{
	1: "Client Seq Kind Id V", 3: "N Limit V K", 5: "N", 7: "N", 9: "N Text", 11: "N Version", 13: "N Epoch Text", 15: "N", 17: "N Epoch",
}

// No1: what else a question has is not looked at.
func TestWhatElse(t *testing.T) {
	for _, state := range states {
		for kind, fieldsThatCount := range counts {
			for _, n := range []int{2, 3, 4, 9} {
				base := insert(1, 2, 5, 7, 3)
				base.Kind, base.N, base.Epoch, base.Text, base.Version, base.Limit, base.Op.K = kind, n, 9, text(t), 2, 3, 2
				want := some(t, state).hears(base)
				all := some(t, state)
				m := base
				for name, changes := range fields {
					if strings.Contains(" "+fieldsThatCount+" ", " "+name+" ") {
						continue
					}
					for _, by := range changes {
						one := base
						by(&one)
						by(&m)
						if out := some(t, state).hears(one); !same(out, want) {
							t.Errorf("%s: Hears(%s) = %s, but Hears(%s) = %s", state, show(base), show(want), show(one), show(out))
						}
					}
				}
				if out := all.hears(m); !same(out, want) {
					t.Errorf("%s: Hears(%s) = %s, but Hears(%s) = %s", state, show(base), show(want), show(m), show(out))
				}
				all.end()
			}
		}
	}
}

// around are numbers around those that the shards of some have, and at the limits.
var around = []int{0, 1, 2, 3, 4, 5, 6, 1<<40 - 1, 1 << 40}

// questions are such as a shard in whichever state may be asked.
func questions(t *testing.T) []api.Msg {
	t.Helper()
	var l []api.Msg
	texts := []string{"", text(t), text(t) + "x"}
	for _, n := range around {
		for kind := 5; kind <= 17; kind += 2 {
			m := api.Msg{Kind: kind, Shard: 1, N: n}
			switch kind {
			case 9:
				for _, s := range texts {
					m.Text = s
					l = append(l, m)
				}
			case 11:
				for _, v := range []int{0, 3, 4, 5, 1 << 40} {
					m.Version = v
					l = append(l, m)
				}
			case 13:
				for _, epoch := range around {
					for _, s := range texts {
						m.Epoch, m.Text = epoch, s
						l = append(l, m)
					}
				}
			case 17:
				for _, epoch := range around {
					m.Epoch = epoch
					l = append(l, m)
				}
			default:
				l = append(l, m)
			}
		}
	}
	for client := range 10 {
		for _, seq := range []int{0, 1, 2, 3, 8, 9, 1 << 40} {
			for _, o := range []api.Op{{}, {Kind: 1, Id: 7, V: []int{3}}, {Kind: 1, Id: 1}, {Kind: 1, Id: 7, V: []int{3, 4}}, {Kind: 2, Id: 7}, {Kind: 3, V: []int{3}, K: 1}} {
				l = append(l, api.Msg{Kind: 1, Shard: 1, Client: client, Seq: seq, Op: o})
			}
		}
	}
	for _, n := range around {
		for k := range 4 {
			for _, limit := range []int{0, 1, 2, 1 << 40} {
				l = append(l, query(1, n, k, limit, 5), query(1, n, k, limit), query(1, n, k, limit, 5, 5))
			}
		}
	}
	return l
}

// No1: each question, of each state; and that the other shard stays as it is.
func TestEachState(t *testing.T) {
	all := questions(t)
	for _, state := range states {
		x := some(t, state)
		for i, m := range all {
			before := blocksOf(x.disks)
			x.hears(m)
			if strings.Join(before, "|") == strings.Join(blocksOf(x.disks), "|") {
				continue
			}
			x.end()
			// What a question has changed would be in the next one's way.
			x = some(t, state)
			if i%7 == 0 {
				x.fail(i, i)
			}
		}
		x.end()
	}
}

// short are questions, of which all short rows are asked.
func short(t *testing.T) []api.Msg {
	t.Helper()
	return []api.Msg{
		insert(1, 1, 1, 7, 3), insert(1, 1, 2, 7, 4), drop(1, 2, 1, 7), query(1, 1, 2, 9, 5), {Kind: 5, Shard: 1, N: 2}, {Kind: 7, Shard: 1, N: 3},
		{Kind: 9, Shard: 1, N: 1, Text: text(t)}, {Kind: 9, Shard: 1, N: 2, Text: text(t)}, {Kind: 11, Shard: 1, N: 1, Version: 1}, {Kind: 11, Shard: 1, N: 2},
		{Kind: 13, Shard: 1, N: 1, Epoch: 2, Text: text(t)}, {Kind: 13, Shard: 1, N: 2, Epoch: 3, Text: text(t)}, {Kind: 15, Shard: 1, N: 1}, {Kind: 15, Shard: 1, N: 2},
		{Kind: 17, Shard: 1, N: 1, Epoch: 2}, {Kind: 17, Shard: 1, N: 2, Epoch: 4},
	}
}

// No1: all rows of up to three questions, of a shard that was founded, and of one that was not.
func TestShortRows(t *testing.T) {
	all := short(t)
	c := config(2, 1)
	for _, founded := range []bool{false, true} {
		for i := range len(all) * len(all) * len(all) {
			x := newTwin(t, c, 60)
			if founded {
				x.found(1, 1)
			}
			for row := i; row > 0; row /= len(all) {
				x.hears(all[row%len(all)])
			}
			if i%5 == 0 {
				x.fail(0, 0)
			} else {
				x.sameMarks()
			}
		}
	}
}

// No1: what a node answers is a message of a kind of its own, whichever question.
func TestKinds(t *testing.T) {
	seen := map[string]int{}
	for _, state := range states {
		for _, m := range questions(t) {
			x := some(t, state)
			out := x.hears(m)
			seen[fmt.Sprint(m.Kind, " ", out.Kind, " ", out.Reply.Err)]++
			if out.Kind != m.Kind+1 && (out.Kind != 19 || out.Version != m.Kind || out.Reply.Err == api.OK) {
				t.Fatalf("Hears(%s) = %s", show(m), show(out))
			}
			if out.Kind != 2 && out.Kind != 4 && out.Kind != 19 && out.Reply.Err != api.OK {
				t.Fatalf("Hears(%s) = %s", show(m), show(out))
			}
		}
	}
	for _, want := range []string{"1 2 0", "1 2 50", "1 2 90", "1 19 1", "1 19 100", "3 4 0", "3 4 50", "3 4 51", "3 19 100", "5 6 0", "5 19 100", "7 8 0", "7 19 100",
		"9 10 0", "9 19 1", "9 19 20", "9 19 90", "9 19 100", "11 12 0", "11 19 1", "11 19 90", "11 19 100", "13 14 0", "13 19 1", "13 19 20", "13 19 100",
		"15 16 0", "15 19 1", "15 19 100", "17 18 0", "17 19 1", "17 19 90", "17 19 100", "17 19 101"} {
		if seen[want] == 0 {
			t.Errorf("%s is not seen", want)
		}
	}
}
