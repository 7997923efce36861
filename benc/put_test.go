package benc

import (
	"math"
	"plover/api"
	"reflect"
	"strconv"
	"strings"
	"testing"
)

// Be1: of every kind the bytes.
func TestPut(t *testing.T) {
	for _, p := range pairs() {
		if s, e := Put(p.v); s != p.s || e != api.OK {
			t.Errorf("Put of %q = %q, %d", p.s, s, e)
		}
	}
}

// Be1: other fields than the kind's are not looked at, bad or not.
func TestPutLooksAtItsKindAlone(t *testing.T) {
	bad := list(api.Value{Kind: 9})
	bad.L = append(bad.L, bad)
	long := strings.Repeat("x", 1<<17)
	for _, c := range []pair{
		{api.Value{Kind: api.ValueInt, N: 3, S: long, L: bad.L}, "i3e"},
		{api.Value{Kind: api.ValueText, N: 3, S: "ab", L: nested(bad, 12).L}, "2:ab"},
		{api.Value{Kind: api.ValueList, N: 3, S: long}, "le"},
		{list(api.Value{Kind: api.ValueInt, S: "q", L: bad.L}), "li0ee"},
	} {
		if s, e := Put(c.v); s != c.s || e != api.OK {
			t.Errorf("Put = %q, %d, want %q", s, e, c.s)
		}
	}
}

func checkRefused(t *testing.T, name string, v api.Value, want api.Errno) {
	t.Helper()
	if s, e := Put(v); s != "" || e != want {
		t.Errorf("Put of %s: %d bytes, error %d, want %d", name, len(s), e, want)
	}
}

// Be1: another kind is refused, wherever it is, and ahead of all else.
func TestPutOtherKind(t *testing.T) {
	for _, kind := range []int{0, 4, 5, -1, -2, 1 << 32, 1<<32 + 1, math.MaxInt, math.MinInt} {
		bad := api.Value{Kind: kind, N: 1, S: "a"}
		wide := make([]api.Value, 1<<17)
		for i := range wide {
			wide[i] = number(i)
		}
		wide[len(wide)-1] = bad
		for name, v := range map[string]api.Value{
			"it":                 bad,
			"one in a list":      list(bad),
			"the last one":       list(number(1), words("a"), list(), bad),
			"the first one":      list(bad, number(1)),
			"a deep one":         nested(bad, 8),
			"one too deep":       nested(bad, 9),
			"a very deep one":    nested(bad, 1000),
			"one behind a deep":  list(nested(number(1), 20), list(bad)),
			"one ahead of it":    list(bad, nested(number(1), 20)),
			"one behind a long":  list(words(strings.Repeat("x", 1<<17)), bad),
			"one in a long list": list(wide...),
			"one, deep and long": list(text(1<<17), nested(number(1), 12), nested(bad, 12)),
		} {
			checkRefused(t, name+" of kind "+strconv.Itoa(kind), v, api.ErrArg)
		}
	}
}

// Be1: eight lists may stand within one another, not nine; that is told ahead of the length.
func TestPutDeep(t *testing.T) {
	for lists := range 20 {
		for name, v := range map[string]api.Value{
			"a number": nested(number(1), lists),
			"nothing":  nested(list(), max(0, lists-1)),
			"a later":  list(number(1), list(list()), nested(words("q"), max(0, lists-1))),
		} {
			if lists > 8 {
				checkRefused(t, name+" within lists", v, api.ErrDeep)
			} else if s, e := Put(v); s != encode(v) || e != api.OK {
				t.Errorf("Put of %s within %d lists = %q, %d", name, lists, s, e)
			}
		}
	}
	checkRefused(t, "a deep one behind a long one", list(text(1<<17), nested(list(), 8)), api.ErrDeep)
	checkRefused(t, "a deep one ahead of a long one", list(nested(number(1), 8), text(1<<17)), api.ErrDeep)
	checkRefused(t, "a long one within nine lists", nested(text(1<<17), 9), api.ErrDeep)
	checkRefused(t, "a very deep one", nested(number(1), 1<<20), api.ErrDeep)
}

// Be1: a value has 2^16 bytes at the most.
func TestPutLong(t *testing.T) {
	most := 1 << 16
	for _, lists := range []int{0, 1, 8} {
		v := nested(text(most-2*lists), lists)
		if s, e := Put(v); len(s) != most || s != encode(v) || e != api.OK {
			t.Errorf("Put of 2^16 bytes within %d lists: %d, %d", lists, len(s), e)
		}
		checkRefused(t, "one byte more", nested(text(most-2*lists+1), lists), api.ErrLong)
	}
	for _, n := range []int{65531, 65532, 65536, 65537, 1 << 20} {
		checkRefused(t, "a text", words(strings.Repeat("\x00", n)), api.ErrLong)
	}
	many := make([]api.Value, 1<<15)
	for i := range many {
		many[i] = list()
	}
	if s, e := Put(list(many[1:]...)); len(s) != most || e != api.OK {
		t.Errorf("Put of many lists: %d bytes, %d", len(s), e)
	}
	checkRefused(t, "one list more", list(many...), api.ErrLong)
	many[0] = number(7) // it has one byte more than the empty list
	checkRefused(t, "a number ahead of many lists", list(many[:1<<15-1]...), api.ErrLong)
	many[0], many[1<<15-1] = many[1], many[0]
	checkRefused(t, "a number behind many lists", list(many[1:]...), api.ErrLong)
}

// R1: lists that stand in themselves, or many times in one another, come to an end, too.
func TestPutListsWithinThemselves(t *testing.T) {
	self := []api.Value{number(1), {}, {}}
	self[1], self[2] = list(self...), list(self[1:]...)
	checkRefused(t, "a list within itself", list(self...), api.ErrDeep)
	self[1], self[2] = list(self...), api.Value{}
	checkRefused(t, "a list within itself, with another kind", list(self...), api.ErrArg)
	var inner []api.Value
	for range 7 {
		inner = []api.Value{list(inner...), list(inner...)}
	}
	if s, e := Put(list(inner...)); s != encode(list(inner...)) || e != api.OK {
		t.Errorf("Put of lists that stand twice in one another: %d bytes, %d", len(s), e)
	}
	for n := 7; n < 60; n++ {
		inner = nil
		for range n {
			at := list(inner...)
			inner = []api.Value{at, at, at, at, at, at}
		}
		want := api.ErrDeep
		if n == 7 {
			want = api.ErrLong
		}
		checkRefused(t, strconv.Itoa(n)+" lists that stand in one another", list(inner...), want)
	}
	wide := []api.Value{number(1)}
	for range 8 {
		at := list(wide...)
		wide = make([]api.Value, 1000)
		for i := range wide {
			wide[i] = at
		}
	}
	checkRefused(t, "many lists in many lists", wide[0], api.ErrLong)
	checkRefused(t, "many lists in many lists, one more", list(wide...), api.ErrDeep)
}

// A piece of a list is a list of its own: what stands in the longer one counts, whichever comes first.
func TestPutPiecesOfOneList(t *testing.T) {
	room := []api.Value{number(1), number(2), {Kind: 9}, nested(list(), 8)}
	long := text(1 << 17)
	checkRefused(t, "the shorter piece first", list(long, list(room[:1]...), list(room[:3]...)), api.ErrArg)
	checkRefused(t, "the longer piece first", list(long, list(room[:3]...), list(room[:1]...)), api.ErrArg)
	checkRefused(t, "pieces without it", list(long, list(room[:0]...), list(room[:2]...), list(room[3:][:0]...)), api.ErrLong)
	room[2] = number(3)
	checkRefused(t, "the deep one behind", list(list(room[:1]...), list(room...)), api.ErrDeep)
	if s, e := Put(list(list(room[:1]...), list(room[:3]...))); s != "lli1eeli1ei2ei3eee" || e != api.OK {
		t.Errorf("Put of two pieces = %q, %d", s, e)
	}
}

// R3: what is handed in is not changed, and not read beyond its end.
func TestPutLeavesItsValue(t *testing.T) {
	room := []api.Value{number(1), list(words("a")), {Kind: 9, N: 4}, number(3)}
	if s, e := Put(list(room[:2]...)); s != "li1el1:aee" || e != api.OK {
		t.Errorf("Put = %q, %d", s, e)
	}
	if !reflect.DeepEqual(room, []api.Value{number(1), list(words("a")), {Kind: 9, N: 4}, number(3)}) {
		t.Errorf("Put changed its list to %v", room)
	}
}
