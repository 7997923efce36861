package benc

import (
	"fmt"
	"math"
	"plover/api"
	"reflect"
	"strconv"
	"strings"
	"testing"
)

// encode is a value's bytes by the document's words, for values that may be put.
func encode(v api.Value) string {
	switch v.Kind {
	case api.ValueInt:
		return fmt.Sprintf("i%de", v.N)
	case api.ValueText:
		return fmt.Sprintf("%d:%s", len(v.S), v.S)
	}
	s := "l"
	for _, w := range v.L {
		s += encode(w)
	}
	return s + "e"
}

// bare is a value with no other fields than its kind's, all of them new, and no empty list: so that DeepEqual tells what the document tells.
func bare(v api.Value) api.Value {
	switch v.Kind {
	case api.ValueInt:
		return api.Value{Kind: v.Kind, N: v.N}
	case api.ValueText:
		return api.Value{Kind: v.Kind, S: v.S}
	}
	b := api.Value{Kind: v.Kind}
	for _, w := range v.L {
		b.L = append(b.L, bare(w))
	}
	return b
}

// isBare tells whether a value has no other fields than its kind's.
func isBare(v api.Value) bool {
	for _, w := range v.L {
		if !isBare(w) {
			return false
		}
	}
	switch v.Kind {
	case api.ValueInt:
		return v.S == "" && len(v.L) == 0
	case api.ValueText:
		return v.N == 0 && len(v.L) == 0
	case api.ValueList:
		return v.N == 0 && v.S == ""
	}
	return false
}

func same(v, w api.Value) bool {
	return reflect.DeepEqual(bare(v), bare(w))
}

func isZero(v api.Value) bool {
	return v.Kind == 0 && v.N == 0 && v.S == "" && len(v.L) == 0
}

// nested is a value within so many lists.
func nested(v api.Value, lists int) api.Value {
	for range lists {
		v = api.Value{Kind: api.ValueList, L: []api.Value{v}}
	}
	return v
}

// text is a value whose bytes are so many (7 at least).
func text(bytes int) api.Value {
	n := bytes - 1
	for n+1+len(strconv.Itoa(n)) > bytes {
		n--
	}
	return api.Value{Kind: api.ValueText, S: strings.Repeat("t", n)}
}

func number(n int) api.Value { return api.Value{Kind: api.ValueInt, N: n} }

func list(l ...api.Value) api.Value { return api.Value{Kind: api.ValueList, L: l} }

func words(s string) api.Value { return api.Value{Kind: api.ValueText, S: s} }

type pair struct {
	v api.Value
	s string
}

// pairs are values, and their bytes, written out by hand.
func pairs() []pair {
	return []pair{
		{number(0), "i0e"},
		{number(7), "i7e"},
		{number(-1), "i-1e"},
		{number(10), "i10e"},
		{number(-10), "i-10e"},
		{number(1234567890), "i1234567890e"},
		{number(math.MaxInt64), "i9223372036854775807e"},
		{number(math.MinInt64), "i-9223372036854775808e"},
		{number(math.MinInt64 + 1), "i-9223372036854775807e"},
		{words(""), "0:"},
		{words("a"), "1:a"},
		{words("0123456789"), "10:0123456789"},
		{words("i1e"), "3:i1e"},
		{words("\x00\xff\n:"), "4:\x00\xff\n:"},
		{words("ÄΩ"), "4:ÄΩ"},
		{list(), "le"},
		{list(list()), "llee"},
		{list(number(12), words("ab")), "li12e2:abe"},
		{list(number(-12), words("ab"), list(), number(0)), "li-12e2:ablei0ee"},
		{list(words(""), words("le"), list(number(1), list(words("e"))), number(2)), "l0:2:leli1el1:eeei2ee"},
		{nested(number(5), 8), "lllllllli5eeeeeeeee"},
		{nested(list(), 7), "lllllllleeeeeeee"},
		{list(nested(words("x"), 7), nested(list(), 6), number(1)), "l" + "lllllll1:xeeeeeee" + "llllllleeeeeee" + "i1ee"},
	}
}

// Be3: a value of each kind.
func TestKinds(t *testing.T) {
	for _, n := range []int{0, 1, -1, 12, math.MaxInt64, math.MinInt64} {
		if v := Int(n); v.Kind != api.ValueInt || v.N != n || !isBare(v) {
			t.Errorf("Int(%d) = %v", n, v)
		}
	}
	for _, s := range []string{"", "a", "ÄΩ", "\x00\xff", strings.Repeat("x", 1<<17)} {
		if v := Str(s); v.Kind != api.ValueText || v.S != s || !isBare(v) {
			t.Errorf("Str(%.20q) = %.20q of kind %d", s, v.S, v.Kind)
		}
	}
	if v := List(); v.Kind != api.ValueList || len(v.L) != 0 || !isBare(v) {
		t.Errorf("List() = %v", v)
	}
	if v := List([]api.Value{}...); !same(v, list()) || !isBare(v) {
		t.Errorf("List of the empty list = %v", v)
	}
	v := List(Int(12), Str("ab"), List(Int(-1), List()), Int(0))
	w := list(number(12), words("ab"), list(number(-1), list()), number(0))
	if !reflect.DeepEqual(bare(v), w) || !isBare(v) {
		t.Errorf("List = %v, want %v", v, w)
	}
}

// Be3: what may not be put can be held all the same.
func TestKindsHoldAnything(t *testing.T) {
	bad := api.Value{Kind: 9, N: 1, S: "a", L: []api.Value{{Kind: -1}}}
	if v := List(bad, nested(bad, 20)); len(v.L) != 2 || !reflect.DeepEqual(v.L[0], bad) || v.L[1].Kind != api.ValueList {
		t.Errorf("List = %v", v)
	}
}

// A list is neither changed, nor does what becomes of it change the value.
func TestListLeavesItsList(t *testing.T) {
	room := []api.Value{number(1), number(2), number(3)}
	v := List(room[:2]...)
	_ = append(v.L, number(9))
	v.L[0].N = 8
	if room[0].N != 1 || room[2].N != 3 {
		t.Errorf("the list is %v", room)
	}
	room[1].N = 7
	if v.L[1].N != 2 {
		t.Errorf("the value is %v", v)
	}
}

// numbers gives numbers one behind the other, by a short rule.
type numbers struct{ at uint64 }

func (g *numbers) next(below int) int {
	g.at = g.at*6364136223846793005 + 1442695040888963407
	return int(g.at >> 33 % uint64(below))
}

// edges are numbers at which the count of digits, or the sign, changes.
func edges() []int {
	l := []int{0, 1, -1, math.MaxInt64, math.MinInt64, math.MaxInt32, math.MinInt32}
	for n := 10; n > 0 && n < math.MaxInt64/10; n *= 10 {
		l = append(l, n, n-1, -n, 1-n)
	}
	return l
}

// mixed is a value of all kinds, at most so deep.
func (g *numbers) mixed(deep int) api.Value {
	switch at := g.next(6); {
	case at < 2:
		l := edges()
		return number(l[g.next(len(l))])
	case at < 4 || deep == 0:
		b := make([]byte, g.next(13))
		for i := range b {
			b[i] = "iel:-0129\x00\xff"[g.next(11)]
		}
		return words(string(b))
	}
	v := list()
	for range g.next(5) {
		v.L = append(v.L, g.mixed(deep-1))
	}
	return v
}

// Be4: what is put is read back, whatever stands behind it.
func TestPutIsReadBack(t *testing.T) {
	var g numbers
	for n := range 20000 {
		v := g.mixed(n % (api.MaxDeep + 1))
		s, e := Put(v)
		if s != encode(v) || e != api.OK {
			t.Fatalf("Put of %v = %q, %d", v, s, e)
		}
		for _, behind := range []string{"", "e", "0", ":", "i1e", "x", "\x00", s, strings.Repeat("l", 20)} {
			if w, used, e := Take(s + behind); !same(v, w) || !isBare(w) || used != len(s) || e != api.OK {
				t.Fatalf("Take(%q) = %v, %d, %d", s+behind, w, used, e)
			}
			w, e := Only(s + behind)
			if behind == "" && (!same(v, w) || !isBare(w) || e != api.OK) || behind != "" && (!isZero(w) || e != api.ErrValue) {
				t.Fatalf("Only(%q) = %v, %d", s+behind, w, e)
			}
		}
	}
}

// Be4: two values have the same bytes just if they are the same.
func TestNoOtherValueHasItsBytes(t *testing.T) {
	var g numbers
	known := map[string]api.Value{}
	for n := range 20000 {
		v := g.mixed(n % 4)
		s, _ := Put(v)
		if w, ok := known[s]; ok && !same(v, w) {
			t.Fatalf("%v and %v have the bytes %q", v, w, s)
		}
		known[s] = v
	}
}

// Be4: other bytes are no value, or another one.
func TestNoOtherBytesAreReadAsIt(t *testing.T) {
	var g numbers
	for range 80 {
		v := g.mixed(4)
		s, _ := Put(v)
		for i := range s {
			if w, used, e := Take(s[:i]); !isZero(w) || used != 0 || e != api.ErrShort {
				t.Fatalf("Take(%q), of %q = %v, %d, %d", s[:i], s, w, used, e)
			}
			for c := range 256 {
				other := s[:i] + string([]byte{byte(c)}) + s[i+1:]
				checkOther(t, v, s, other)
				checkOther(t, v, s, s[:i]+string([]byte{byte(c)})+s[i:])
			}
			checkOther(t, v, s, s[:i]+s[i+1:])
		}
	}
}

// checkOther sees to it that a value is read from its bytes alone.
func checkOther(t *testing.T, v api.Value, s, other string) {
	t.Helper()
	w, used, e := Take(other)
	if e != api.OK {
		return
	}
	if x, e := Put(w); x != other[:used] || e != api.OK {
		t.Fatalf("Take(%q) is a value whose bytes are %q, %d", other, x, e)
	}
	if same(v, w) && other[:used] != s {
		t.Fatalf("%q and %q are one value", s, other[:used])
	}
}
