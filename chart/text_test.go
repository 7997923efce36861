package chart

import (
	"fmt"
	"math"
	"plover/api"
	"plover/benc"
	"regexp"
	"slices"
	"strconv"
	"strings"
	"testing"
)

// looks is how a chart's text looks, by its letters alone; its epoch has yet to be held against 2^40.
var looks = regexp.MustCompile(`\Ali([1-9][0-9]{0,12})el((?:i[0-7]e){1,16})ee\z`)

// wantOf is what Of answers, by the document's words.
func wantOf(s string) (api.Chart, api.Errno) {
	parts := looks.FindStringSubmatch(s)
	if parts == nil {
		return api.Chart{}, 20
	}
	c := api.Chart{}
	c.Epoch, _ = strconv.Atoi(parts[1])
	if c.Epoch > 1099511627776 {
		return api.Chart{}, 20
	}
	for i := 1; i < len(parts[2]); i += 3 {
		c.Nodes = append(c.Nodes, int(parts[2][i]-'0'))
	}
	return c, 0
}

func checkOf(t *testing.T, s string) api.Errno {
	t.Helper()
	want, why := wantOf(s)
	if c, e := Of(s); !same(c, want) || e != why {
		t.Fatalf("Of(%.200q) = %v, %d, want %v, %d", s, c, e, want, why)
	}
	return why
}

// wantText is a chart's text, letter by letter.
func wantText(c api.Chart) string {
	var b strings.Builder
	fmt.Fprintf(&b, "li%del", c.Epoch)
	for _, n := range c.Nodes {
		fmt.Fprintf(&b, "i%de", n)
	}
	return b.String() + "ee"
}

func checkText(t *testing.T, c api.Chart) {
	t.Helper()
	want := wantText(c)
	if s, e := Text(c); s != want || e != api.OK {
		t.Fatalf("Text(%v) = %q, %d, want %q", c, s, e, want)
	}
	if back, e := Of(want); !same(back, c) || e != api.OK {
		t.Fatalf("Of(%q) = %v, %d, want %v", want, back, e, c)
	}
}

// Ct2: texts that are told by hand, there and back.
func TestTextKnown(t *testing.T) {
	for _, c := range []struct {
		chart api.Chart
		text  string
	}{
		{chartOf(1, 3, 3), "li1eli3ei3eee"},
		{chartOf(1, 0), "li1eli0eee"},
		{chartOf(10, 7, 0), "li10eli7ei0eee"},
		{chartOf(1<<40, 7), "li1099511627776eli7eee"},
		{chartOf(2, slices.Repeat([]int{1}, 16)...), "li2eli1ei1ei1ei1ei1ei1ei1ei1ei1ei1ei1ei1ei1ei1ei1ei1eee"},
	} {
		if s, e := Text(c.chart); s != c.text || e != api.OK {
			t.Errorf("Text(%v) = %q, %d", c.chart, s, e)
		}
		if got, e := Of(c.text); !same(got, c.chart) || e != api.OK {
			t.Errorf("Of(%q) = %v, %d", c.text, got, e)
		}
	}
}

// Ct2: charts at each limit, there and back.
func TestText(t *testing.T) {
	var g numbers
	for _, epoch := range epochs {
		for many := 1; many <= 16; many++ {
			for n := range 8 {
				checkText(t, chartOf(epoch, slices.Repeat([]int{n}, many)...))
			}
			for range 20 {
				checkText(t, chartOf(epoch, g.some(many).Nodes...))
			}
		}
	}
	for shift := range 40 {
		checkText(t, chartOf(1<<shift, 2, 5))
		checkText(t, chartOf(1<<shift+g.next(1<<shift), 2, 5))
	}
}

// Ct2: what is no chart has no text, and its letters are no text of one.
func TestTextRefused(t *testing.T) {
	for _, c := range noCharts() {
		if s, e := Text(c); s != "" || e != api.ErrArg {
			t.Errorf("Text(%d, %d nodes) = %q, %d", c.Epoch, len(c.Nodes), s, e)
		}
		if got, e := Of(wantText(c)); !none(got) || e != api.ErrValue {
			t.Errorf("Of(%.100q) = %v, %d", wantText(c), got, e)
		}
	}
}

// Ct2: texts that are none of a chart, each with its fault; other layers' errors are not told.
func TestNoText(t *testing.T) {
	for _, s := range []string{
		"", "l", "le", "i1e", "0:", "1:l", "li1ee", "li1el", "li1ele", "li1elee", "li1eli0ee", "li1eli0e", "li1eli0eeee",
		"li1eli0eee\n", " li1eli0eee", "li1eli0eeex", "li1eli0eeeli1eli0eee", "lli0eei1ee", "li1ei0ee", "li1ei0elee",
		"l1:1li0eee", "l0:li0eee", "lli1eeli0eee", "lleli0eee", "li1eli0eleee", "li1eli0elee", "li1eli0eei0ee", "li1eli0ee0:e",
		"li1el1:0ee", "li1el0:ee", "li1eli0e0:ee", "li1el0:i0eee", "li1elleee", "li1ellei0eee", "li1elli0eeee", "li1e1:0e", "li1e0:e",
		"li1eli0elee", "li01eli0eee", "li1eli00eee", "li-0eli0eee", "li1eli-0eee", "li+1eli0eee", "lieli0eee", "li1elieee",
		"li0eli0eee", "li-1eli0eee", "li1eli8eee", "li1eli-1eee", "li1eli10eee", "li1eli0ei8eee", "li1eli8ei0eee",
		"li1099511627777eli0eee", "li9223372036854775807eli0eee", "li9223372036854775808eli0eee", "li-9223372036854775808eli0eee",
		"li18446744073709551617eli0eee", "li1eli18446744073709551616eee", "li4294967297e4294967296:",
		"Li1eli0eee", "li1eLi0eee", "lI1eli0eee", "li1Eli0eee", "\x00", "\xff", "li1\xffeli0eee", "l\u0131" + "1eli0eee",
		"llllllllleeeeeeeee", "li1elllllllleeeeeeeee", "li1eli0eee70000:", "65537:",
	} {
		if c, e := Of(s); !none(c) || e != api.ErrValue {
			t.Errorf("Of(%q) = %v, %d", s, c, e)
		}
		if checkOf(t, s) == api.OK {
			t.Errorf("%q is a text", s)
		}
	}
}

// Ct2: lists of other counts of numbers than a chart may have.
func TestCounts(t *testing.T) {
	for many := range 40 {
		nodes := strings.Repeat("i5e", many)
		why := checkOf(t, "li7el"+nodes+"ee")
		if (why == api.OK) != (many >= 1 && many <= 16) {
			t.Errorf("%d nodes: %d", many, why)
		}
		checkOf(t, "l"+nodes+"li5eee")
		checkOf(t, "li7eli5ee"+nodes+"e")
		checkOf(t, "li7e"+nodes+"e")
		checkOf(t, "l"+strings.Repeat("li5ee", many)+"e")
	}
}

// Ct2: all short texts of few parts.
func TestShortTexts(t *testing.T) {
	parts := []string{"l", "e", "i1e", "i0e", "i7e", "i8e", "0:", "i1099511627777e"}
	found := 0
	var from func(s string, left int)
	from = func(s string, left int) {
		if checkOf(t, s) == api.OK {
			found++
		}
		if left == 0 {
			return
		}
		for _, p := range parts {
			from(s+p, left-1)
		}
	}
	from("", 7)
	// Three epochs (1, 7 and 8), and three nodes (1, 0 and 7), one or two of them.
	if found != 3*(3+3*3) {
		t.Error(found)
	}
}

// Ct2: texts of charts with a byte changed, taken out, put in, doubled, or cut, or with two of them turned about.
func TestChangedTexts(t *testing.T) {
	var g numbers
	texts := []string{"li1eli0eee", "li1099511627776eli7ei0eee", wantText(chartOf(1<<40-1, g.some(16).Nodes...))}
	for range 5 {
		texts = append(texts, wantText(g.some(1+g.next(16))))
	}
	for _, s := range texts {
		if checkOf(t, s) != api.OK {
			t.Fatal(s)
		}
		for i := range s {
			checkOf(t, s[:i])
			checkOf(t, s[i:])
			checkOf(t, s[:i]+s[i+1:])
			checkOf(t, s[:i+1]+s[i:])
			for c := range 256 {
				checkOf(t, s[:i]+string([]byte{byte(c)})+s[i+1:])
				checkOf(t, s[:i]+string([]byte{byte(c)})+s[i:])
			}
			for j := range i {
				b := []byte(s)
				b[i], b[j] = b[j], b[i]
				checkOf(t, string(b))
			}
		}
		for c := range 256 {
			checkOf(t, s+string([]byte{byte(c)}))
		}
	}
}

// Ct2: lists of any values, as layer 2 puts them, are read just where they are charts.
func TestAnyValues(t *testing.T) {
	var g numbers
	ints := []int{math.MinInt, -1, 0, 1, 2, 7, 8, 1<<40 - 1, 1 << 40, 1<<40 + 1, math.MaxInt}
	var some func(deep int) api.Value
	some = func(deep int) api.Value {
		switch {
		case g.next(8) == 0:
			return benc.Str(strings.Repeat("1", g.next(3)))
		case deep > 0 && g.next(2) == 0:
			var l []api.Value
			for range g.next(4) {
				l = append(l, some(deep-1))
			}
			return benc.List(l...)
		}
		return benc.Int(ints[g.next(len(ints))])
	}
	found := 0
	for range 200000 {
		v := some(2)
		if g.next(2) == 0 {
			v = benc.List(some(0), some(1))
		}
		s, e := benc.Put(v)
		if e != api.OK {
			t.Fatal(e)
		}
		if checkOf(t, s) == api.OK {
			found++
		}
	}
	if found < 1000 {
		t.Error(found)
	}
}

// Ct2: long texts are none, up to the most bytes of a value and beyond it.
func TestLongTexts(t *testing.T) {
	for _, size := range []int{1 << 10, 1<<16 - 20, 1<<16 - 1, 1 << 16, 1<<16 + 1, 1 << 20, 1 << 24} {
		checkOf(t, strings.Repeat("l", size))
		checkOf(t, strings.Repeat("i1e", size/3))
		checkOf(t, "li1el"+strings.Repeat("i1e", size/3)+"ee")
		checkOf(t, "li1el"+strings.Repeat("le", size/2)+"ee")
		checkOf(t, "l"+strings.Repeat("li1ee", size/5)+"e")
		checkOf(t, "li"+strings.Repeat("1", size)+"eli1eee")
		checkOf(t, "li1eli1eee"+strings.Repeat("e", size))
		if 8 <= size && size <= 1<<16-20 {
			checkOf(t, fmt.Sprintf("li1el%d:%see", size, strings.Repeat("x", size)))
		}
	}
}

// R4: what was asked, or refused, ahead changes nothing.
func TestAskedOften(t *testing.T) {
	for range 100 {
		Of("li2eli8eee")
		Text(chartOf(1<<40+1, 1))
		if c, e := Of("li2eli6eee"); !same(c, chartOf(2, 6)) || e != api.OK {
			t.Fatal(c, e)
		}
		if s, e := Text(chartOf(2, 6)); s != "li2eli6eee" || e != api.OK {
			t.Fatal(s, e)
		}
	}
}
