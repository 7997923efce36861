package vec

import (
	"fmt"
	"math"
	"math/big"
	"plover/api"
	"regexp"
	"slices"
	"strings"
	"testing"
)

// numbers gives numbers one behind the other, by a short rule.
type numbers struct{ at uint64 }

func (g *numbers) next(below int) int {
	g.at = g.at*6364136223846793005 + 1442695040888963407
	return int(g.at >> 33 % uint64(below))
}

// coordinate is a number of a vector: small, any, or one of the outermost.
func (g *numbers) coordinate() int {
	switch g.next(4) {
	case 0:
		return g.next(5) - 2
	case 1:
		return 2147483647 - g.next(2)
	case 2:
		return -2147483648 + g.next(2)
	}
	return g.next(1<<31)*2 + g.next(2) - 1<<31
}

func (g *numbers) vector(dim int) []int {
	v := make([]int, dim)
	for i := range v {
		v[i] = g.coordinate()
	}
	return v
}

// hits are as many as said, of few numbers and few distances.
func (g *numbers) hits(n int) []api.Hit {
	l := make([]api.Hit, n)
	ids := 1 + g.next(n+1)
	for i := range l {
		l[i] = api.Hit{Id: g.next(ids) - ids/2, Dist: g.next(7)}
	}
	return l
}

// isVector tells by the document's words whether numbers are a vector.
func isVector(v []int) bool {
	for _, n := range v {
		if n < -2147483648 || n > 2147483647 {
			return false
		}
	}
	return len(v) >= 1 && len(v) <= 16
}

// distByWords is how far two vectors are from one another, reckoned without a bound.
func distByWords(a, b []int) int {
	sum := new(big.Int)
	for i := range a {
		d := new(big.Int).Sub(big.NewInt(int64(a[i])), big.NewInt(int64(b[i])))
		sum.Add(sum, d.Abs(d))
	}
	return int(sum.Int64())
}

func ahead(a, b api.Hit) bool {
	return a.Dist < b.Dist || a.Dist == b.Dist && a.Id < b.Id
}

// topByWords picks the one that stands first again and again; those of a number that was picked stand no more.
func topByWords(l []api.Hit, k int) []api.Hit {
	var top []api.Hit
	for rest := slices.Clone(l); len(rest) > 0 && len(top) < k; {
		first := rest[0]
		for _, h := range rest {
			if ahead(h, first) {
				first = h
			}
		}
		top = append(top, first)
		rest = slices.DeleteFunc(rest, func(h api.Hit) bool { return h.Id == first.Id })
	}
	return top
}

func searchByWords(l []api.Point, v []int, k int) ([]api.Hit, api.Errno) {
	if !isVector(v) {
		return nil, api.ErrDim
	}
	var all []api.Hit
	for _, p := range l {
		if !isVector(p.V) || len(p.V) != len(v) {
			return nil, api.ErrDim
		}
		all = append(all, api.Hit{Id: p.Id, Dist: distByWords(v, p.V)})
	}
	if k < 1 || k > 64 {
		return nil, api.ErrK
	}
	return topByWords(all, k), api.OK
}

var printed = regexp.MustCompile(`\A(0|-?[1-9][0-9]*)(,(0|-?[1-9][0-9]*)){0,15}\z`)

// parseByWords reads a text that looks like a vector's, and sees to it that its numbers may be.
func parseByWords(s string) ([]int, api.Errno) {
	if !printed.MatchString(s) {
		return nil, api.ErrDim
	}
	var v []int
	for part := range strings.SplitSeq(s, ",") {
		n, _ := new(big.Int).SetString(part, 10)
		if !n.IsInt64() {
			return nil, api.ErrDim
		}
		v = append(v, int(n.Int64()))
	}
	if !isVector(v) {
		return nil, api.ErrDim
	}
	return v, api.OK
}

// around are vectors with one number put in at each place.
func around(n int) [][]int {
	var all [][]int
	for dim := 1; dim <= 16; dim++ {
		for at := range dim {
			v := make([]int, dim)
			v[at] = n
			all = append(all, v)
		}
	}
	return all
}

// beyond are numbers that no vector has.
func beyond() []int {
	return []int{1 << 31, -1<<31 - 1, 1 << 32, -1 << 32, 1<<32 + 1, 1 << 62, math.MaxInt, math.MinInt, math.MinInt + 1}
}

func checkCheck(t *testing.T, v []int, dim int, err api.Errno) {
	t.Helper()
	if e := Check(v, dim); e != err {
		t.Fatalf("Check(%v, %d) = %d, want %d", v, dim, e, err)
	}
}

func checkDist(t *testing.T, a, b []int, want int, err api.Errno) {
	t.Helper()
	if d, e := Dist(a, b); d != want || e != err {
		t.Fatalf("Dist(%v, %v) = %d, %d; want %d, %d", a, b, d, e, want, err)
	}
}

func checkTop(t *testing.T, l []api.Hit, k int, want []api.Hit, err api.Errno) {
	t.Helper()
	if top, e := Top(l, k); !slices.Equal(top, want) || e != err {
		t.Fatalf("Top(%v, %d) = %v, %d; want %v, %d", l, k, top, e, want, err)
	}
}

func checkSearch(t *testing.T, l []api.Point, v []int, k int, want []api.Hit, err api.Errno) {
	t.Helper()
	if hits, e := Search(l, v, k); !slices.Equal(hits, want) || e != err {
		t.Fatalf("Search(%v, %v, %d) = %v, %d; want %v, %d", l, v, k, hits, e, want, err)
	}
}

func checkPrint(t *testing.T, v []int, want string, err api.Errno) {
	t.Helper()
	if s, e := Print(v); s != want || e != err {
		t.Fatalf("Print(%v) = %q, %d; want %q, %d", v, s, e, want, err)
	}
}

func checkParse(t *testing.T, s string, want []int, err api.Errno) {
	t.Helper()
	if v, e := Parse(s); !slices.Equal(v, want) || e != err {
		t.Fatalf("Parse(%.300q) = %v, %d; want %v, %d", s, v, e, want, err)
	}
}

// Ve1: as many numbers as a vector may have, and as were asked for.
func TestCheckDim(t *testing.T) {
	for size := range 40 {
		v := make([]int, size)
		for dim := -20; dim < 40; dim++ {
			want := api.ErrDim
			if size == dim && 1 <= dim && dim <= 16 {
				want = api.OK
			}
			checkCheck(t, v, dim, want)
		}
		checkCheck(t, v, math.MaxInt, api.ErrDim)
		checkCheck(t, v, math.MinInt, api.ErrDim)
		checkCheck(t, v, size+1<<32, api.ErrDim)
	}
	checkCheck(t, nil, 0, api.ErrDim)
	checkCheck(t, nil, 1, api.ErrDim)
	checkCheck(t, []int{}, 0, api.ErrDim)
	checkCheck(t, make([]int, 1<<20), 1<<20, api.ErrDim)
}

// Ve1: the outermost numbers, and those beyond, at each place of a vector.
func TestCheckNumbers(t *testing.T) {
	for _, n := range []int{0, 1, -1, 1<<31 - 1, 1<<31 - 2, -1 << 31, -1<<31 + 1} {
		for _, v := range around(n) {
			checkCheck(t, v, len(v), api.OK)
			checkCheck(t, v, len(v)+1, api.ErrDim)
			checkCheck(t, v, len(v)-1, api.ErrDim)
		}
	}
	for _, n := range beyond() {
		for _, v := range around(n) {
			checkCheck(t, v, len(v), api.ErrDim)
		}
	}
}

// Ve1: what stands behind a vector's end is none of its numbers.
func TestCheckRoom(t *testing.T) {
	l := []int{1, 2, 1 << 40, 1 << 40}
	checkCheck(t, l[:2], 2, api.OK)
	checkCheck(t, l[:2], 4, api.ErrDim)
	checkDist(t, l[:1], l[1:2], 1, api.OK)
	checkPrint(t, l[:2], "1,2", api.OK)
	checkCheck(t, make([]int, 17)[:16], 16, api.OK)
}

// Ve1: how far vectors are from one another that were reckoned by hand.
func TestDistKnown(t *testing.T) {
	full := func(n int) []int { return slices.Repeat([]int{n}, 16) }
	for _, c := range []struct {
		a, b []int
		far  int
	}{
		{[]int{1, 2}, []int{-1, 5}, 5},
		{[]int{0}, []int{0}, 0},
		{[]int{-3}, []int{4}, 7},
		{[]int{-3}, []int{-4}, 1},
		{[]int{3, 0}, []int{0, 4}, 7}, // not 5: no root of squares
		{[]int{1, 2, 3}, []int{3, 2, 1}, 4},
		{[]int{5, -5}, []int{-5, 5}, 20}, // differences of both signs don't take one another away
		{[]int{1<<31 - 1}, []int{-1 << 31}, 4294967295},
		{[]int{1, -2, 1<<31 - 1}, []int{-1, 5, -1 << 31}, 4294967304},
		{full(1<<31 - 1), full(-1 << 31), 68719476720},
		{full(0), full(-1 << 31), 34359738368},
	} {
		checkDist(t, c.a, c.b, c.far, api.OK)
		checkDist(t, c.b, c.a, c.far, api.OK)
		checkDist(t, c.a, c.a, 0, api.OK)
		checkDist(t, c.b, c.b, 0, api.OK)
	}
}

// Ve1: of vectors of all numbers of numbers.
func TestDist(t *testing.T) {
	var g numbers
	for range 5000 {
		for dim := 1; dim <= 16; dim++ {
			a, b := g.vector(dim), g.vector(dim)
			checkDist(t, a, b, distByWords(a, b), api.OK)
		}
	}
}

// Ve1: what is no vector, on either side or on both, and vectors that have not as many numbers.
func TestDistRefused(t *testing.T) {
	for a := range 20 {
		for b := range 20 {
			if a != b || a == 0 || a > 16 {
				checkDist(t, make([]int, a), make([]int, b), 0, api.ErrDim)
			}
		}
	}
	checkDist(t, nil, nil, 0, api.ErrDim)
	checkDist(t, nil, []int{}, 0, api.ErrDim)
	for _, n := range beyond() {
		for _, v := range around(n) {
			checkDist(t, v, make([]int, len(v)), 0, api.ErrDim)
			checkDist(t, make([]int, len(v)), v, 0, api.ErrDim)
			checkDist(t, v, v, 0, api.ErrDim)
		}
	}
}

// Ve1: by how far, then by number, for the outermost of both as well.
func TestLess(t *testing.T) {
	order := []int{math.MinInt, math.MinInt + 1, -1 << 32, -1, 0, 1, 2, 1<<36 - 16, math.MaxInt - 1, math.MaxInt}
	var all []api.Hit // each stands ahead of those behind it
	for _, dist := range order {
		for _, id := range order {
			all = append(all, api.Hit{Id: id, Dist: dist})
		}
	}
	for i, a := range all {
		for j, b := range all {
			if Less(a, b) != (i < j) {
				t.Fatalf("Less(%v, %v) = %v", a, b, i >= j)
			}
		}
	}
}

// Ve2: the first ones that were picked by hand.
func TestTopKnown(t *testing.T) {
	l := []api.Hit{{Id: 7, Dist: 3}, {Id: 2, Dist: 3}, {Id: 7, Dist: 1}, {Id: 5, Dist: 9}, {Id: 5, Dist: 0}, {Id: 7, Dist: 2}, {Id: 2, Dist: 3}}
	want := []api.Hit{{Id: 5}, {Id: 7, Dist: 1}, {Id: 2, Dist: 3}}
	for k := range 4 {
		checkTop(t, l, k, want[:k], api.OK)
	}
	for k := 3; k <= 64; k++ {
		checkTop(t, l, k, want, api.OK)
	}
	checkTop(t, []api.Hit{{Id: 3, Dist: 1}, {Id: -3, Dist: 1}, {Id: 0, Dist: 1}}, 2, []api.Hit{{Id: -3, Dist: 1}, {Id: 0, Dist: 1}}, api.OK)
	checkTop(t, []api.Hit{{Id: 1, Dist: 0}, {Id: 2, Dist: -1}}, 1, []api.Hit{{Id: 2, Dist: -1}}, api.OK)
	checkTop(t, []api.Hit{{Id: math.MaxInt, Dist: math.MaxInt}, {Id: math.MinInt, Dist: math.MaxInt}, {Id: 0, Dist: math.MinInt}}, 64,
		[]api.Hit{{Id: 0, Dist: math.MinInt}, {Id: math.MinInt, Dist: math.MaxInt}, {Id: math.MaxInt, Dist: math.MaxInt}}, api.OK)
}

// Ve2: 0 to 64 may be asked for, of none and of more, and nothing else.
func TestTopK(t *testing.T) {
	var many, sorted []api.Hit
	for i := range 1000 {
		many = append(many, api.Hit{Id: i * 7919 % 1000, Dist: i * 7919 % 1000 / 3})
		sorted = append(sorted, api.Hit{Id: i, Dist: i / 3})
	}
	for k := range 65 {
		checkTop(t, many, k, sorted[:k], api.OK)
		checkTop(t, nil, k, nil, api.OK)
		checkTop(t, []api.Hit{}, k, nil, api.OK)
	}
	for _, k := range []int{-1, -64, math.MinInt, 65, 66, 1000, 1 << 32, 1<<32 + 1, math.MaxInt} {
		checkTop(t, many, k, nil, api.ErrK)
		checkTop(t, nil, k, nil, api.ErrK)
	}
}

// Ve2: of many that are alike, in each order that they may come in.
func TestTop(t *testing.T) {
	var g numbers
	for n := range 150 {
		for range 40 {
			l := g.hits(n)
			for _, k := range []int{0, 1, 2, 3, 10, 63, 64} {
				want := topByWords(l, k)
				checkTop(t, l, k, want, api.OK)
				slices.Reverse(l)
				checkTop(t, l, k, want, api.OK)
			}
		}
	}
	l := []api.Hit{{Id: 1, Dist: 5}, {Id: 1, Dist: 4}, {Id: 2, Dist: 4}, {Id: 2, Dist: 6}, {Id: 0, Dist: 5}}
	var each func(at int)
	each = func(at int) {
		checkTop(t, l, 64, []api.Hit{{Id: 1, Dist: 4}, {Id: 2, Dist: 4}, {Id: 0, Dist: 5}}, api.OK)
		for i := at; i < len(l); i++ {
			l[at], l[i] = l[i], l[at]
			each(at + 1)
			l[at], l[i] = l[i], l[at]
		}
	}
	each(0)
}

// Ve2, R3: what is handed in isn't changed, and an answer is nobody else's.
func TestTopMemory(t *testing.T) {
	var g numbers
	for n := range 60 {
		room := g.hits(n + 5)
		was := slices.Clone(room)
		first, e := Top(room[:n], 64)
		if e != api.OK || !slices.Equal(room, was) {
			t.Fatalf("Top of %d has changed what was handed in, or answers %d", n, e)
		}
		checkTop(t, room[:n], 64, topByWords(was[:n], 64), api.OK)
		for i := range first {
			first[i] = api.Hit{Id: -1, Dist: -1}
		}
		_ = append(first, api.Hit{Id: -2, Dist: -2})
		if !slices.Equal(room, was) {
			t.Fatal("an answer is what was handed in")
		}
		checkTop(t, room[:n], 64, topByWords(was[:n], 64), api.OK)
	}
}

// Ve2: points that were searched by hand, some with one number.
func TestSearchKnown(t *testing.T) {
	l := []api.Point{{Id: 5, V: []int{3}}, {Id: 2, V: []int{9}}, {Id: 1, V: []int{5}}, {Id: 2, V: []int{4}}}
	want := []api.Hit{{Id: 2}, {Id: 1, Dist: 1}, {Id: 5, Dist: 1}}
	for k := 1; k <= 64; k++ {
		checkSearch(t, l, []int{4}, k, want[:min(k, 3)], api.OK)
	}
	checkSearch(t, l, []int{9}, 2, []api.Hit{{Id: 2}, {Id: 1, Dist: 4}}, api.OK)
	checkSearch(t, l, []int{-1 << 31}, 1, []api.Hit{{Id: 5, Dist: 1<<31 + 3}}, api.OK)
	checkSearch(t, nil, []int{4}, 1, nil, api.OK)
	checkSearch(t, []api.Point{}, make([]int, 16), 64, nil, api.OK)
	plane := []api.Point{{Id: -1, V: []int{0, 0}}, {Id: -2, V: []int{3, 3}}, {Id: math.MaxInt, V: []int{0, 5}}, {Id: math.MinInt, V: []int{5, 0}}}
	checkSearch(t, plane, []int{0, 0}, 4, []api.Hit{{Id: -1}, {Id: math.MinInt, Dist: 5}, {Id: math.MaxInt, Dist: 5}, {Id: -2, Dist: 6}}, api.OK)
}

// Ve2: 1 to 64 may be asked for; 0, though Top takes it, and all others not.
func TestSearchK(t *testing.T) {
	l := []api.Point{{Id: 1, V: []int{1}}}
	for k := 1; k <= 64; k++ {
		checkSearch(t, l, []int{1}, k, []api.Hit{{Id: 1}}, api.OK)
	}
	for _, k := range []int{0, -1, math.MinInt, 65, 1 << 32, math.MaxInt} {
		checkSearch(t, l, []int{1}, k, nil, api.ErrK)
		checkSearch(t, nil, []int{1}, k, nil, api.ErrK)
	}
}

// Ve2: what is no vector is told ahead of how many were asked for, wherever it is.
func TestSearchRefused(t *testing.T) {
	var bad [][]int
	for _, n := range beyond() {
		bad = append(bad, []int{n, 0}, []int{0, n})
	}
	bad = append(bad, nil, []int{}, []int{1}, []int{1, 2, 3}, make([]int, 16), make([]int, 17))
	for _, k := range []int{1, 64, 0, -1, 65, math.MinInt, math.MaxInt} {
		for _, v := range bad {
			for at := range 4 {
				l := []api.Point{{Id: 1, V: []int{1, 1}}, {Id: 1, V: []int{1, 1}}, {Id: 3, V: []int{7, 7}}, {Id: 4, V: []int{8, 8}}}
				checkSearch(t, l, v, k, nil, api.ErrDim)
				l[at].V = v
				checkSearch(t, l, []int{1, 1}, k, nil, api.ErrDim)
			}
			if !isVector(v) {
				checkSearch(t, nil, v, k, nil, api.ErrDim)
				checkSearch(t, []api.Point{{V: v}}, v, k, nil, api.ErrDim)
			}
		}
	}
}

// Ve2: of points by a short rule, near to one another and far, of few numbers and of many.
func TestSearch(t *testing.T) {
	var g numbers
	for n := range 80 {
		for dim := 1; dim <= 16; dim++ {
			l := make([]api.Point, n)
			for i := range l {
				l[i] = api.Point{Id: g.next(n) - n/2, V: g.vector(dim)}
			}
			v, k := g.vector(dim), g.next(67)-1
			if g.next(10) == 0 {
				v = append(v, 0)
			}
			want, e := searchByWords(l, v, k)
			checkSearch(t, l, v, k, want, e)
			slices.Reverse(l)
			checkSearch(t, l, v, k, want, e)
		}
	}
}

// Ve2, R3: what is handed in isn't changed, nor read beyond its end, and an answer is nobody else's.
func TestSearchMemory(t *testing.T) {
	room := []api.Point{{Id: 2, V: []int{9, 9}[:1]}, {Id: 1, V: []int{5, 1 << 40}[:1]}, {Id: 0, V: nil}}
	v := []int{6, 1 << 40}
	want := []api.Hit{{Id: 1, Dist: 1}, {Id: 2, Dist: 3}}
	first, _ := Search(room[:2], v[:1], 2)
	second, _ := Search(room[:2], v[:1], 2)
	first[0], first[1] = api.Hit{}, api.Hit{}
	if !slices.Equal(second, want) {
		t.Fatalf("an answer was changed with another one: %v", second)
	}
	checkSearch(t, room[:2], v[:1], 2, want, api.OK)
	if fmt.Sprint(room, v, room[0].V[:2], room[1].V[:2]) != "[{2 [9]} {1 [5]} {0 []}] [6 1099511627776] [9 9] [5 1099511627776]" {
		t.Fatal("what was handed in has changed")
	}
}

// Ve3: vectors and their texts, written by hand.
func TestKnownTexts(t *testing.T) {
	for _, c := range []struct {
		s string
		v []int
	}{
		{"0", []int{0}},
		{"-1,0", []int{-1, 0}},
		{"-3,0,12", []int{-3, 0, 12}},
		{"10,100,-10,-100", []int{10, 100, -10, -100}},
		{"2147483647", []int{1<<31 - 1}},
		{"-2147483648", []int{-1 << 31}},
		{"1,2,3,4,5,6,7,8,9,10,11,12,13,14,15,16", []int{1, 2, 3, 4, 5, 6, 7, 8, 9, 10, 11, 12, 13, 14, 15, 16}},
		{strings.Repeat("-2147483648,", 15) + "-2147483648", slices.Repeat([]int{-1 << 31}, 16)}, // the longest text
	} {
		checkPrint(t, c.v, c.s, api.OK)
		checkParse(t, c.s, c.v, api.OK)
	}
}

// Ve3: what is no vector has no text.
func TestPrintRefused(t *testing.T) {
	checkPrint(t, nil, "", api.ErrDim)
	checkPrint(t, []int{}, "", api.ErrDim)
	checkPrint(t, make([]int, 17), "", api.ErrDim)
	checkPrint(t, make([]int, 1<<20), "", api.ErrDim)
	for _, n := range beyond() {
		for _, v := range around(n) {
			checkPrint(t, v, "", api.ErrDim)
		}
	}
}

// Ve3: what Print tells, Parse reads, of numbers with each number of digits and of vectors of each length.
func TestPrintParse(t *testing.T) {
	both := func(v []int) {
		t.Helper()
		s := strings.ReplaceAll(strings.Trim(fmt.Sprint(v), "[]"), " ", ",")
		checkPrint(t, v, s, api.OK)
		checkParse(t, s, v, api.OK)
	}
	for power := 1; power <= 1000000000; power *= 10 {
		for n := power - 12; n <= power+12; n++ {
			both([]int{n})
			both([]int{-n, n})
		}
	}
	var g numbers
	for range 3000 {
		for dim := 1; dim <= 16; dim++ {
			both(g.vector(dim))
		}
	}
}

// Ve3: texts that Print tells of no vector.
func TestParseRefused(t *testing.T) {
	for _, s := range []string{
		"", ",", ",,", "1,", ",1", "1,,2", "1,2,", "-", "--1", "1-", "-,1", "1,-",
		"00", "01", "-0", "-01", "1,00", "+1", "+0", "1,+2", "0x1", "1e3", "1_0", "1.0", "1.", "\x31\x00",
		" 1", "1 ", "1 ,2", "1, 2", "1\n", "\n1", "1\t", "1;2", "1 2", "[1]", "a", "1a", "nil",
		"2147483648", "-2147483649", "1,2147483648", "4294967296", "4294967297",
		"9223372036854775807", "9223372036854775808", "-9223372036854775808", "-9223372036854775809", "18446744073709551617",
		"\xff", "1\xff", "\u0661", "\uff11", "1\uff0c2", "\u22121", "\u00a01",
		"1,2,3,4,5,6,7,8,9,10,11,12,13,14,15,16,17",
		"1,2,3,4,5,6,7,8,9,10,11,12,13,14,15,16,",
		strings.Repeat("-2147483648,", 16),
		strings.Repeat("-2147483648,", 15) + "-21474836480",
		strings.Repeat("0", 191), strings.Repeat("0", 192), "1" + strings.Repeat("0", 190),
		strings.Repeat("0,", 1<<20) + "0", strings.Repeat(",", 1<<20), strings.Repeat("1", 1<<20),
		strings.Repeat("0", 1<<20) + "1", "-" + strings.Repeat("0", 1<<20),
	} {
		checkParse(t, s, nil, api.ErrDim)
	}
	for n := range 1000 {
		for _, ahead := range []string{"0", "00", "+", "-0", "--", " ", ","} {
			checkParse(t, fmt.Sprint(ahead, n), nil, api.ErrDim)
		}
	}
}

// Ve3: all short texts of bytes that are likely, and each byte by itself and between digits.
func TestParseShort(t *testing.T) {
	const likely = "-,+0129 "
	var each func(s string, more int)
	each = func(s string, more int) {
		v, e := parseByWords(s)
		checkParse(t, s, v, e)
		if more == 0 {
			return
		}
		for i := range len(likely) {
			each(s+likely[i:i+1], more-1)
		}
	}
	each("", 6)
	for b := range 256 {
		for _, s := range []string{"%s", "1%s", "%s1", "1%s2", "-%s1", "1,%s2"} {
			s = strings.ReplaceAll(s, "%s", string([]byte{byte(b)}))
			v, e := parseByWords(s)
			checkParse(t, s, v, e)
		}
	}
}

// Ve3: texts of vectors with a few bytes taken out, put in, or made others.
func TestParseSpoilt(t *testing.T) {
	var g numbers
	const likely = "-,0123456789+ "
	for range 200000 {
		s, e := Print(g.vector(1 + g.next(16)))
		if e != api.OK {
			t.Fatal(e)
		}
		b := []byte(s)
		for range g.next(4) {
			at := g.next(len(b))
			switch g.next(3) {
			case 0:
				b = slices.Delete(b, at, at+1)
			case 1:
				b = slices.Insert(b, at, likely[g.next(len(likely))])
			default:
				b[at] = likely[g.next(len(likely))]
			}
			if len(b) == 0 {
				break
			}
		}
		v, e := parseByWords(string(b))
		checkParse(t, string(b), v, e)
	}
}

// Ve3, R3: what is handed in isn't changed, and an answer is nobody else's.
func TestTextMemory(t *testing.T) {
	v := []int{1, -2, 3}
	checkPrint(t, v, "1,-2,3", api.OK)
	if !slices.Equal(v, []int{1, -2, 3}) {
		t.Fatalf("Print has changed a vector: %v", v)
	}
	first, _ := Parse("1,-2,3")
	second, _ := Parse("1,-2,3")
	first[0], first[1], first[2] = 7, 7, 7
	if !slices.Equal(second, v) {
		t.Fatalf("an answer was changed with another one: %v", second)
	}
	checkParse(t, "1,-2,3", v, api.OK)
}

// checkThree sees to what follows of how far three vectors are from one another.
func checkThree(t *testing.T, a, b, c []int) {
	t.Helper()
	far := func(a, b []int) int {
		d, e := Dist(a, b)
		if e != api.OK {
			t.Fatalf("Dist(%v, %v) is refused: %d", a, b, e)
		}
		return d
	}
	if (far(a, b) == 0) != slices.Equal(a, b) || far(a, b) < 0 {
		t.Fatalf("%v and %v are %d from one another", a, b, far(a, b))
	}
	if far(a, b) != far(b, a) {
		t.Fatalf("from %v to %v are %d, back %d", a, b, far(a, b), far(b, a))
	}
	if far(a, c) > far(a, b)+far(b, c) {
		t.Fatalf("from %v to %v it is farther than by %v", a, c, b)
	}
}

// Ve4: of all three small vectors, and of outermost and other ones.
func TestHowFarFollows(t *testing.T) {
	var small [][]int
	for x := -2; x <= 2; x++ {
		for y := -2; y <= 2; y++ {
			small = append(small, []int{x, y})
		}
	}
	for _, a := range small {
		for _, b := range small {
			for _, c := range small {
				checkThree(t, a, b, c)
			}
		}
	}
	var g numbers
	for range 3000 {
		for dim := 1; dim <= 16; dim++ {
			checkThree(t, g.vector(dim), g.vector(dim), g.vector(dim))
		}
	}
	for _, v := range around(1) { // one number that is another one is enough
		checkThree(t, v, make([]int, len(v)), v)
	}
}
