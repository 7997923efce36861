package post

import (
	"math"
	"plover/api"
	"plover/benc"
	"slices"
	"strings"
	"testing"
)

// Po1: texts that are told by hand, there and back.
func TestKnown(t *testing.T) {
	insert := api.Op{Kind: api.OpInsert, Id: 7, V: []int{3, -4}}
	for _, c := range []struct {
		m api.Msg
		s string
	}{
		{api.Msg{Kind: 1}, "00002dc3166f|li1ei0ei0ei0ei0ei0ei0ei0ei0ei0ei0elei0ei0elee\n000000b704ce|\n"},
		{api.Msg{Kind: api.MsgWrite, Shard: 3, Epoch: 1, Seq: 1, Op: insert},
			"000034289a47|li1ei3ei1ei0ei1ei0ei0ei0ei1ei7ei0eli3ei-4eei0ei0elee\n000000b704ce|\n"},
		{api.Msg{Kind: api.MsgWrote, Shard: 3, Seq: 1, Reply: api.Reply{Was: true}},
			"00002d973600|li2ei3ei0ei0ei1ei0ei0ei0ei0ei0ei0elei0ei1elee\n000000b704ce|\n"},
		{api.Msg{Kind: api.MsgTold, Shard: 3, N: 9, Version: 2, Reply: api.Reply{Was: true, Hits: []api.Hit{{Id: -4, Dist: 7}}}, Text: "abc"},
			"0000340ca84d|li4ei3ei0ei0ei0ei9ei2ei0ei0ei0ei0elei0ei1eli-4ei7eee\n000003ba1c7b|abc\n"},
		{api.Msg{Kind: api.MsgMoved, Shard: 15, Client: 7, Seq: 5, Version: 1, Reply: api.Reply{Err: api.ErrSealed}},
			"0000313e90f0|li19ei15ei0ei7ei5ei0ei1ei0ei0ei0ei0elei100ei0elee\n000000b704ce|\n"},
		{api.Msg{Kind: 19, Shard: 15, Epoch: 1 << 40, Client: 1 << 40, Seq: 1 << 40, N: 1 << 40, Version: 1 << 40, Limit: 1 << 40,
			Op:    api.Op{Kind: api.OpQuery, Id: math.MaxInt, V: []int{-1 << 31, 1<<31 - 1}, K: 64},
			Reply: api.Reply{Err: 255, Was: true, Hits: []api.Hit{{Id: math.MinInt, Dist: 1 << 40}}}, Text: "a\nb|\x00\xff"},
			"0000cae69cdc|li19ei15ei1099511627776ei1099511627776ei1099511627776ei1099511627776ei1099511627776ei1099511627776ei3ei9223372036854775807ei64eli-2147483648ei2147483647eei255ei1eli-9223372036854775808ei1099511627776eee\n0000063ebf54|a\nb|\x00\xff\n"},
		{api.Msg{Kind: api.MsgAsk, Epoch: 2, N: 1, Limit: 1 << 40, Op: api.Op{Kind: api.OpQuery, V: []int{0}, K: 1}, Text: "li1ee"},
			"00003cf30e0d|li3ei0ei2ei0ei0ei1ei0ei1099511627776ei3ei0ei1eli0eei0ei0elee\n00000566661a|li1ee\n"},
	} {
		if s, e := Put(c.m); s != c.s || e != api.OK {
			t.Errorf("Put(%v) = %q, %d", c.m, s, e)
		}
		if m, e := Take(c.s); !same(m, c.m) || e != api.OK {
			t.Errorf("Take(%q) = %v, %d", c.s, m, e)
		}
		ok(t, c.m)
	}
}

// plain is the text of a first frame that may be.
const plain = "li4ei3ei0ei0ei0ei9ei2ei0ei0ei0ei0eli5eei0ei1eli-4ei7eee"

// post is a text of two frames.
func posted(head, text string) string { return frameOf(head) + frameOf(text) }

// Po1: frames that are not just two, or not whole.
func TestNoFrames(t *testing.T) {
	f := frameOf(plain)
	empty := frameOf("")
	if e := checkTake(t, f+empty); e != api.OK {
		t.Fatal(e)
	}
	for _, s := range []string{
		"", "\n", "l", plain, plain + plain, f, empty, f + f + empty, empty + f, empty + empty, f + empty + empty, f + empty + f, f + empty + "\n",
		f + empty + "x", f + empty + "\x00", "x" + f + empty, "\n" + f + empty, f + "\n" + empty, f + " " + empty, f[:len(f)-1] + empty,
		f + empty[:len(empty)-1], f + empty[1:], f[1:] + empty, f + plain, plain + empty, f + "|\n", f + "000000b704ce|", f + "000000b704ce\n",
		f + "000000B704CE|\n", f + "000000b704cf|\n", f + "000001b704ce|\n", f + "000001b704ce|\n\n", f + "000000b704ce|\r", f + "000000b704ce:\n",
		frameOf(f + empty), frameOf(f) + empty, frameOf(f+empty) + empty, frameOf(plain + "\n"), frameOf(plain+"\n") + empty,
		frameOf(plain[:20]) + frameOf(plain[20:]), frameOf(plain[:20]) + frameOf(plain[20:]) + empty,
		f + "-00001b704ce|\n", f + "+00000b704ce|\n", f + "00000 b704ce|\n", strings.ToUpper(f) + empty, f + "04" + strings.Repeat("0", 4) + "b704ce|\n",
		f + "fffffeb704ce|\n", f + "040001" + frameOf("")[6:],
	} {
		if m, e := Take(s); !none(m) || e != api.ErrPost {
			t.Errorf("Take(%q) = %v, %d", s, m, e)
		}
		if checkTake(t, s) == api.OK {
			t.Errorf("%q is a text", s)
		}
	}
	for _, many := range []int{1 << 18, 1<<18 + 1, 1 << 20} {
		checkTake(t, posted(plain, strings.Repeat("x", many)))
		checkTake(t, posted(strings.Repeat("l", many), ""))
		checkTake(t, posted(plain+strings.Repeat("e", many), ""))
	}
	for _, part := range []string{f, empty, f + empty, "0", "\n", "\xff"} {
		if m, e := Take(strings.Repeat(part, 1<<24/len(part))); !none(m) || e != api.ErrPost {
			t.Errorf("Take of many %q = %v, %d", part, m, e)
		}
		if m, e := Take(f + empty + strings.Repeat(part, 1<<24/len(part))); !none(m) || e != api.ErrPost {
			t.Errorf("Take of a text and many %q = %v, %d", part, m, e)
		}
	}
}

// Po1: first frames that are none of a message, each with its fault; other layers' errors are not told.
func TestNoHeads(t *testing.T) {
	if e := checkTake(t, posted(plain, "")); e != api.OK {
		t.Fatal(e)
	}
	for _, s := range []string{
		"", "l", "e", "le", "lle", "i1e", "0:", "1:l", "llee", plain + "e", plain + "\n", plain + plain, "l" + plain, "l" + plain + "e", plain[1:], plain[:len(plain)-1],
		"55:" + plain, plain + "0:", "llllllllleeeeeeeee", "70000:", "65537:", "li4e",
		"d1:ai4ee", strings.ToUpper(plain), " " + plain,
		strings.Replace(plain, "i4e", "i04e", 1), strings.Replace(plain, "i4e", "i+4e", 1), strings.Replace(plain, "i4e", "i4.e", 1),
		strings.Replace(plain, "i0e", "i-0e", 1), strings.Replace(plain, "i0e", "i00e", 1), strings.Replace(plain, "i0e", "ie", 1),
		strings.Replace(plain, "i4e", "1:4", 1), strings.Replace(plain, "i4e", "li4ee", 1), strings.Replace(plain, "i0e", "le", 1), strings.Replace(plain, "i0e", "0:", 1),
		strings.Replace(plain, "i0e", "", 1), strings.Replace(plain, "i0e", "i0ei0e", 1), strings.Replace(plain, "li5ee", "", 1), strings.Replace(plain, "li5ee", "i5e", 1),
		strings.Replace(plain, "li5ee", "1:5", 1), strings.Replace(plain, "li5ee", "0:", 1), strings.Replace(plain, "li5ee", "lli5eee", 1), strings.Replace(plain, "li5ee", "l1:5e", 1),
		strings.Replace(plain, "li5ee", "l0:e", 1), strings.Replace(plain, "li5ee", "llee", 1), strings.Replace(plain, "li5ee", "li5ee"+"le", 1),
		strings.Replace(plain, "i1e", "i2e", 1), strings.Replace(plain, "i1e", "i-1e", 1), strings.Replace(plain, "i1e", "1:1", 1), strings.Replace(plain, "i1e", "le", 1),
		strings.Replace(plain, "i1e", "i4294967297e", 1), strings.Replace(plain, "i1e", "", 1),
		strings.Replace(plain, "ei0ei1e", "ei256ei1e", 1), strings.Replace(plain, "ei0ei1e", "ei-1ei1e", 1),
		strings.Replace(plain, "i7e", "", 1), strings.Replace(plain, "i-4e", "", 1), strings.Replace(plain, "i7e", "i7ei7e", 1), strings.Replace(plain, "i7e", "i-7e", 1),
		strings.Replace(plain, "i7e", "1:7", 1), strings.Replace(plain, "i-4e", "0:", 1), strings.Replace(plain, "i-4ei7e", "li-4ei7ee", 1), strings.Replace(plain, "i-4ei7e", "le", 1),
		strings.Replace(plain, "i7e", "i1099511627777e", 1), strings.Replace(plain, "i-4e", "i9223372036854775808e", 1), strings.Replace(plain, "i-4e", "i-9223372036854775809e", 1),
		strings.Replace(plain, "i4e", "i18446744073709551617e", 1), strings.Replace(plain, "i4e", "i0e", 1), strings.Replace(plain, "i4e", "i20e", 1), strings.Replace(plain, "i3e", "i16e", 1),
		strings.Replace(plain, "i5e", "i2147483648e", 1), strings.Replace(plain, "i5e", "i-2147483649e", 1),
		strings.Replace(plain, "li-4ei7ee", "", 1), strings.Replace(plain, "li-4ei7ee", "0:", 1), strings.Replace(plain, "li-4ei7ee", "i0e", 1), plain[:len(plain)-1] + "lee", plain[:len(plain)-1] + "i0ee",
	} {
		if m, e := Take(posted(s, "abc")); !none(m) || e != api.ErrPost {
			t.Errorf("Take of %q = %v, %d", s, m, e)
		}
		if checkTake(t, posted(s, "")) == api.OK {
			t.Errorf("%q is a message's", s)
		}
	}
}

// parts are the values of plain, one behind the other.
func parts() []string {
	return []string{"i4e", "i3e", "i0e", "i0e", "i0e", "i9e", "i2e", "i0e", "i0e", "i0e", "i0e", "li5ee", "i0e", "i1e", "li-4ei7ee"}
}

// Po1: any two of the values of a first frame as others.
func TestOtherValues(t *testing.T) {
	if "l"+strings.Join(parts(), "")+"e" != plain {
		t.Fatal(plain)
	}
	others := []string{
		"", "i0e", "i1e", "i2e", "i3e", "i-1e", "i16e", "i19e", "i64e", "i65e", "i255e", "i1099511627777e", "0:", "1:1", "le", "llee", "li1ee", "li1ei2ee", "li1ei2ei3ee",
		"i1ei1e", "lei0e", "i00e", "e", "l",
	}
	found := 0
	for i := range parts() {
		for _, one := range others {
			for j := range i + 1 {
				for _, two := range others {
					l := parts()
					l[i] = one
					l[j] = two
					if checkTake(t, posted("l"+strings.Join(l, "")+"e", "")) == api.OK {
						found++
					}
				}
			}
		}
	}
	if found < 1000 {
		t.Error(found)
	}
}

// Po1: lists of any values, as layer 2 puts them, are read just where they are a message's.
func TestAnyValues(t *testing.T) {
	var g numbers
	ints := []int{math.MinInt, -1, 0, 1, 2, 3, 15, 16, 19, 20, 1 << 40, 1<<40 + 1, math.MaxInt}
	var some func(deep int) api.Value
	some = func(deep int) api.Value {
		switch {
		case g.next(8) == 0:
			return benc.Str(strings.Repeat("1", g.next(3)))
		case deep > 0 && g.next(2) == 0:
			var l []api.Value
			for range g.next(4) {
				l = append(l, some(deep-1))
			}
			return benc.List(l...)
		}
		return benc.Int(ints[g.next(len(ints))])
	}
	lists := func(many int) api.Value {
		var l []api.Value
		for range g.next(many) {
			l = append(l, some(0))
		}
		return benc.List(l...)
	}
	found := 0
	for n := range 60000 {
		v := some(2)
		if n%3 > 0 {
			l := slices.Repeat([]api.Value{benc.Int(1)}, 15)
			l[11], l[14] = lists(20), lists(8)
			for range g.next(3) {
				l[g.next(15)] = some(2)
			}
			v = benc.List(l...)
		}
		s, e := benc.Put(v)
		if e != api.OK {
			t.Fatal(e)
		}
		if checkTake(t, posted(s, g.bytes(g.next(4)))) == api.OK {
			found++
		}
	}
	if found < 300 {
		t.Error(found)
	}
}

// texts are some of messages.
func texts() []string {
	var g numbers
	l := []string{textOf(api.Msg{Kind: 1}), posted(plain, "abc"), posted(plain, frameOf("x")+"\n"+frameOf("")), posted(plain, textOf(api.Msg{Kind: 2}))}
	for range 3 {
		m := g.some()
		m.Op.V = g.vector(g.next(3))
		l = append(l, textOf(m))
	}
	return l
}

// Po1: the text of the first frame with a byte changed, taken out, put in, doubled, or cut, or with two of them turned about.
func TestChangedHeads(t *testing.T) {
	heads := []string{plain}
	for _, s := range texts() {
		head, _, _ := cut(s)
		heads = append(heads, head)
	}
	for _, s := range heads {
		check := func(head string) { checkTake(t, posted(head, "t")) }
		for i := range s {
			check(s[:i])
			check(s[i:])
			check(s[:i] + s[i+1:])
			check(s[:i+1] + s[i:])
			for _, c := range []byte("0123456789-iel:+ \n|\x00\xffIEL") {
				check(s[:i] + string([]byte{c}) + s[i+1:])
				check(s[:i] + string([]byte{c}) + s[i:])
			}
			for j := range i {
				b := []byte(s)
				b[i], b[j] = b[j], b[i]
				check(string(b))
			}
		}
	}
}

// Po1, Po2: a text with a byte changed, put in, taken out, doubled, or with two of them turned about.
func TestChangedTexts(t *testing.T) {
	for _, s := range texts() {
		if checkTake(t, s) != api.OK {
			t.Fatal(s)
		}
		for i := range s {
			checkTake(t, s[:i]+s[i+1:])
			checkTake(t, s[:i+1]+s[i:])
			for c := range 256 {
				checkTake(t, s[:i]+string([]byte{byte(c)})+s[i+1:])
				checkTake(t, s[:i]+string([]byte{byte(c)})+s[i:])
			}
			for j := range i {
				b := []byte(s)
				b[i], b[j] = b[j], b[i]
				checkTake(t, string(b))
			}
		}
		for c := range 256 {
			if checkTake(t, s+string([]byte{byte(c)})) == api.OK {
				t.Errorf("%q and %d", s, c)
			}
		}
	}
}

// Po2: a text that is cut is none, wherever; nor is one with bytes missing from within, or from its beginning, but where its own Text has frames.
func TestMissing(t *testing.T) {
	for _, s := range texts() {
		for i := range s {
			if m, e := Take(s[:i]); !none(m) || e != api.ErrPost {
				t.Fatalf("Take(%q) = %v, %d", s[:i], m, e)
			}
			for j := i + 1; j <= len(s); j++ {
				e := checkTake(t, s[:i]+s[j:])
				if _, rest, _ := cut(s); e == api.OK && strings.Count(rest, "|") < 2 {
					t.Fatalf("%q is a text, of %q", s[:i]+s[j:], s)
				}
			}
		}
	}
	long, _ := Put(greatest())
	for _, n := range []int{0, 1, 12, 13, 14, 100, 2000, 1 << 16, 1 << 17, len(long) - 2, len(long) - 1} {
		if m, e := Take(long[:n]); !none(m) || e != api.ErrPost {
			t.Errorf("%d bytes: %d, %d", n, m.Kind, e)
		}
	}
}

// others is a text of which up to three bytes in a row are others, among so many of them.
func (g *numbers) others(s string, from, many int) string {
	long := min(1+g.next(3), many)
	from += g.next(many - long + 1)
	b := []byte(s)
	copy(b[from:], g.bytes(long))
	if g.next(2) == 0 { // bytes that may stand there
		copy(b[from:from+long], "0123456789iel"[g.next(11):])
	}
	return string(b)
}

// Po2: a text of which up to three bytes in a row of a frame's text are others is none.
func TestThreeOthers(t *testing.T) {
	var g numbers
	for _, s := range append(texts(), textOf(greatest())) {
		head, rest, _ := cut(s)
		text, _, _ := cut(rest)
		for range max(20, 1<<19/len(s)) {
			l := []string{g.others(s, 13, len(head))}
			if text != "" {
				l = append(l, g.others(s, len(s)-1-len(text), len(text)))
			}
			for _, other := range l {
				if m, e := Take(other); other != s && (!none(m) || e != api.ErrPost) {
					t.Fatalf("Take(%.300q), of %.300q = %d, %d", other, s, m.Kind, e)
				}
			}
		}
	}
}

// Po2: two messages have the same text just if they are the same.
func TestNoOtherHasItsText(t *testing.T) {
	known := map[string]api.Msg{}
	note := func(m api.Msg) {
		t.Helper()
		s, e := Put(m)
		if e != api.OK {
			t.Fatal(m, e)
		}
		if other, there := known[s]; there && !same(m, other) {
			t.Fatalf("%v and %v have the text %q", m, other, s)
		}
		known[s] = m
	}
	var g numbers
	different := 0
	for _, base := range bases() {
		for _, f := range fieldsOf() {
			for _, n := range f.may {
				m := base
				f.set(&m, n)
				note(m)
				different++
			}
		}
		for many := range 17 {
			m := base
			m.Op.V = make([]int, many)
			note(m)
			m = base
			m.Reply.Hits = make([]api.Hit, many)
			note(m)
			m = base
			m.Text = strings.Repeat("0", many)
			note(m)
		}
	}
	for range 5000 {
		m := api.Msg{Kind: 1 + g.next(2), Shard: g.next(2), N: g.next(2), Reply: api.Reply{Was: g.next(2) == 0}, Text: strings.Repeat("1", g.next(3))}
		m.Op.V = make([]int, g.next(3))
		for range g.next(3) {
			m.Reply.Hits = append(m.Reply.Hits, api.Hit{Id: g.next(2), Dist: g.next(2)})
		}
		note(m)
	}
	// Of each field at least all that it may be, but for what the bases have already.
	if len(known) < different-4*13 {
		t.Error(len(known), different)
	}
	empty, _ := Put(api.Msg{Kind: 1})
	made, _ := Put(api.Msg{Kind: 1, Op: api.Op{V: []int{}}, Reply: api.Reply{Hits: []api.Hit{}}})
	if empty != made {
		t.Errorf("%q and %q", empty, made)
	}
}
