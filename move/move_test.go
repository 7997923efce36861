package move

import (
	"fmt"
	"math"
	"plover/api"
	"reflect"
	"runtime"
	"slices"
	"strings"
	"testing"
)

// numbers gives numbers one behind the other, by a short rule.
type numbers struct{ at uint64 }

func (g *numbers) next(below int) int {
	g.at = g.at*6364136223846793005 + 1442695040888963407
	return int(g.at >> 33 % uint64(below))
}

// Numbers that no move and no epoch has, and that are no shard's and no node's.
var (
	noNumber = []int{math.MinInt, math.MinInt + 1, -1 << 40, -1 << 32, -1<<32 + 1, -2, -1, 0, 1<<40 + 1, 1<<40 + 2, 1 << 41, 1 << 62, math.MaxInt - 1, math.MaxInt}
	noShard  = []int{math.MinInt, math.MinInt + 1, -1 << 32, -1<<32 + 3, -16, -2, -1, 16, 17, 31, 32, 256, 257, 1 << 31, 1 << 32, 1<<32 + 1, math.MaxInt - 1, math.MaxInt}
	noNode   = []int{math.MinInt, math.MinInt + 1, -1 << 32, -1<<32 + 3, -8, -2, -1, 8, 9, 15, 16, 256, 257, 1 << 31, 1 << 32, 1<<32 + 1, math.MaxInt - 1, math.MaxInt}
)

// row is one of the chapter's table: numbers of the phases and of the messages' kinds are written out.
type row struct {
	phase int
	says  int
	with  string
	to    string
	by    int
	keeps string
	next  int
	moved bool // it goes to Forgetting by MsgMoved
}

var table = []row{
	{1, 7, "", "From", 8, "Version Text", 2, true},
	{2, 9, "that Text", "To", 10, "", 3, true},
	{3, 11, "that Version", "From", 12, "Text", 4, true},
	{4, 13, "that Text, the epoch", "To", 14, "", 5, true},
	{5, 15, "", "From", 16, "", 6, false},
	{6, 0, "", "", 0, "", 0, false},
	{7, 15, "", "To", 16, "", 8, false},
	{8, 17, "the epoch", "From", 18, "", 9, false},
	{9, 0, "", "", 0, "", 0, false},
}

// model is the document's words: the table, and what was kept.
type model struct {
	number, epoch int
	way           api.Move
	phase         int
	version       int
	text          string
}

func (m *model) row() row { return table[m.phase-1] }

func (m *model) node() int {
	switch m.row().to {
	case "From":
		return m.way.From
	case "To":
		return m.way.To
	}
	return -1
}

func (m *model) says() (int, api.Msg, bool) {
	r := m.row()
	if r.says == 0 {
		return -1, api.Msg{}, false
	}
	x := api.Msg{Kind: r.says, Shard: m.way.Shard, N: m.number}
	if strings.Contains(r.with, "that Text") {
		x.Text = m.text
	}
	if strings.Contains(r.with, "that Version") {
		x.Version = m.version
	}
	if strings.Contains(r.with, "the epoch") {
		x.Epoch = m.epoch
	}
	return m.node(), x, true
}

func (m *model) hears(from int, x api.Msg) bool {
	r := m.row()
	if r.says == 0 || from != m.node() || x.Shard != m.way.Shard || x.N != m.number {
		return false
	}
	switch {
	case x.Kind == r.by:
		if strings.Contains(r.keeps, "Version") {
			m.version = x.Version
		}
		if strings.Contains(r.keeps, "Text") {
			m.text = x.Text
		}
		m.phase = r.next
	case x.Kind == 19 && x.Version == r.says && r.moved:
		m.phase = 7
	default:
		return false
	}
	return true
}

func (m *model) abort() api.Errno {
	switch m.phase {
	case 1, 2, 3:
		m.phase = 7
		return api.OK
	case 4:
		return api.ErrBusy
	}
	return api.ErrNone
}

// pair is a move, and what it must be.
type pair struct {
	t *testing.T
	m *Move
	w *model
}

func newMove(t *testing.T, number, epoch int, way api.Move) *Move {
	t.Helper()
	m, e := New(number, epoch, way)
	if m == nil || e != api.OK {
		t.Fatalf("New(%d, %d, %v) = %v, %d", number, epoch, way, m, e)
	}
	return m
}

func newPair(t *testing.T, number, epoch int, way api.Move) *pair {
	t.Helper()
	return &pair{t, newMove(t, number, epoch, way), &model{number: number, epoch: epoch, way: way, phase: 1}}
}

// show is a message as a short text.
func show(x api.Msg) string {
	n := len(x.Text)
	x.Text = fmt.Sprintf("%.40q", x.Text)
	return fmt.Sprintf("(%+v, %d bytes)", x, n)
}

// same tells whether two messages are the same; a nil list and an empty one are.
func same(a, b api.Msg) bool {
	nums := func(x api.Msg) [13]int {
		was := 0
		if x.Reply.Was {
			was = 1
		}
		return [13]int{x.Kind, x.Shard, x.Epoch, x.Client, x.Seq, x.N, x.Version, x.Limit, x.Op.Kind, x.Op.Id, x.Op.K, int(x.Reply.Err), was}
	}
	return nums(a) == nums(b) && a.Text == b.Text && slices.Equal(a.Op.V, b.Op.V) && slices.Equal(a.Reply.Hits, b.Reply.Hits)
}

// same holds the phase, and what it says.
func (p *pair) same() {
	p.t.Helper()
	if n := p.m.Phase(); n != p.w.phase {
		p.t.Fatalf("Phase = %d, want %d", n, p.w.phase)
	}
	node, want, ok := p.w.says()
	if to, x, is := p.m.Says(); to != node || is != ok || !same(x, want) {
		p.t.Fatalf("in %d: Says = %d, %s, %v, want %d, %s, %v", p.w.phase, to, show(x), is, node, show(want), ok)
	}
}

func (p *pair) hears(from int, x api.Msg) bool {
	p.t.Helper()
	phase := p.w.phase
	want := p.w.hears(from, x)
	if ok := p.m.Hears(from, x); ok != want {
		p.t.Fatalf("in %d: Hears(%d, %s) = %v, want %v", phase, from, show(x), ok, want)
	}
	p.same()
	return want
}

func (p *pair) abort() {
	p.t.Helper()
	phase := p.w.phase
	want := p.w.abort()
	if e := p.m.Abort(); e != want {
		p.t.Fatalf("in %d: Abort = %d, want %d", phase, e, want)
	}
	p.same()
}

// answer is the one by which it goes on, and moved the one by which it is given up; each has a text and a version of its phase.
func (p *pair) answer() (int, api.Msg) {
	r := p.w.row()
	return p.w.node(), api.Msg{Kind: r.by, Shard: p.w.way.Shard, N: p.w.number, Version: 100 + r.phase, Text: fmt.Sprint("of ", r.phase)}
}

func (p *pair) moved() (int, api.Msg) {
	r := p.w.row()
	return p.w.node(), api.Msg{Kind: 19, Shard: p.w.way.Shard, N: p.w.number, Version: r.says, Reply: api.Reply{Err: api.ErrSealed}}
}

// goOn hears so many answers, one behind the other.
func (p *pair) goOn(times int) {
	p.t.Helper()
	for range times {
		if !p.hears(p.answer()) {
			p.t.Fatalf("in %d: it does not go on", p.w.phase)
		}
	}
}

// ways are all ways to a phase: so many answers, how it is given up ("", "abort", "moved"), so many answers behind that.
type path struct {
	first int
	how   string
	then  int
}

var paths = allPaths()

func allPaths() []path {
	var out []path
	for first := range 6 {
		out = append(out, path{first, "", 0})
	}
	for then := range 3 {
		for first := range 4 {
			out = append(out, path{first, "moved", then})
		}
		for first := range 3 {
			out = append(out, path{first, "abort", then})
		}
	}
	return out
}

// gone is a move that has gone a path.
func gone(t *testing.T, number, epoch int, way api.Move, to path) *pair {
	t.Helper()
	p := newPair(t, number, epoch, way)
	p.same()
	p.goOn(to.first)
	switch to.how {
	case "abort":
		p.abort()
	case "moved":
		p.hears(p.moved())
	}
	p.goOn(to.then)
	want := 1 + to.first
	if to.how != "" {
		want = 7 + to.then
	}
	if p.m.Phase() != want {
		t.Fatalf("behind %v: Phase = %d, want %d", to, p.m.Phase(), want)
	}
	return p
}

// end goes on till it says nothing.
func (p *pair) end() {
	p.t.Helper()
	for p.w.row().says != 0 {
		p.goOn(1)
	}
}

var here = api.Move{Shard: 1, From: 0, To: 2}

// Mv1: the chapter's example.
func TestExample(t *testing.T) {
	m := newMove(t, 1, 1, here)
	x := api.Msg{Kind: api.MsgCopied, Shard: 1, N: 1}
	if !m.Hears(0, x) || m.Phase() != Loading {
		t.Error("it does not go on to Loading")
	}
	if m.Hears(0, x) || m.Phase() != Loading {
		t.Error("it goes on by what it heard before")
	}
}

// Mv1: the phases' numbers, and the limits.
func TestNumbers(t *testing.T) {
	if Copying != 1 || Loading != 2 || Sealing != 3 || Adopting != 4 || Dropping != 5 || Done != 6 || Forgetting != 7 || Opening != 8 || GivenUp != 9 {
		t.Error("the phases have other numbers")
	}
	if api.MaxShards != 16 || api.MaxNodes != 8 || api.MsgCopy != 7 || api.MsgMoved != 19 {
		t.Error("api has other numbers")
	}
}

// Mv1: what is said in each phase, to the end, written out.
func TestDone(t *testing.T) {
	m := newMove(t, 7, 5, api.Move{Shard: 3, From: 6, To: 4})
	for i, x := range []struct {
		to   int
		says api.Msg
		hear api.Msg
	}{
		{6, api.Msg{Kind: api.MsgCopy, Shard: 3, N: 7}, api.Msg{Kind: api.MsgCopied, Version: 11, Text: "all"}},
		{4, api.Msg{Kind: api.MsgLoad, Shard: 3, N: 7, Text: "all"}, api.Msg{Kind: api.MsgLoaded, Version: 12, Text: "no"}},
		{6, api.Msg{Kind: api.MsgSeal, Shard: 3, N: 7, Version: 11}, api.Msg{Kind: api.MsgSealed, Version: 13, Text: "rest"}},
		{4, api.Msg{Kind: api.MsgAdopt, Shard: 3, N: 7, Epoch: 5, Text: "rest"}, api.Msg{Kind: api.MsgAdopted, Version: 14, Text: "no"}},
		{6, api.Msg{Kind: api.MsgForget, Shard: 3, N: 7}, api.Msg{Kind: api.MsgForgot, Version: 15, Text: "no"}},
		{-1, api.Msg{}, api.Msg{}},
	} {
		if to, says, ok := m.Says(); m.Phase() != i+1 || to != x.to || !reflect.DeepEqual(says, x.says) || ok != (i < 5) {
			t.Errorf("in %d: %d, %s, %v", m.Phase(), to, show(says), ok)
		}
		x.hear.Shard, x.hear.N = 3, 7
		if ok := m.Hears(x.to, x.hear); ok != (i < 5) {
			t.Errorf("in %d: Hears = %v", m.Phase(), ok)
		}
	}
	if m.Phase() != Done {
		t.Errorf("Phase = %d", m.Phase())
	}
}

// Mv1: what is said when it is given up, written out, behind each phase, by Abort and by MsgMoved.
func TestGivenUp(t *testing.T) {
	for _, to := range paths {
		if to.how == "" || to.then != 0 {
			continue
		}
		m := gone(t, 1<<40, 1<<40-1, api.Move{Shard: 15, From: 7, To: 0}, to).m
		for i, x := range []struct {
			to   int
			says api.Msg
			hear int
		}{
			{0, api.Msg{Kind: api.MsgForget, Shard: 15, N: 1 << 40}, api.MsgForgot},
			{7, api.Msg{Kind: api.MsgOpen, Shard: 15, N: 1 << 40, Epoch: 1<<40 - 1}, api.MsgOpened},
			{-1, api.Msg{}, 0},
		} {
			if to, says, ok := m.Says(); m.Phase() != 7+i || to != x.to || !reflect.DeepEqual(says, x.says) || ok != (i < 2) {
				t.Errorf("in %d: %d, %s, %v", m.Phase(), to, show(says), ok)
			}
			if ok := m.Hears(x.to, api.Msg{Kind: x.hear, Shard: 15, N: 1 << 40, Text: "x", Version: 4}); ok != (i < 2) {
				t.Errorf("in %d: Hears = %v", m.Phase(), ok)
			}
		}
		if m.Phase() != GivenUp {
			t.Errorf("Phase = %d", m.Phase())
		}
	}
}

// Mv1: each shard and each two nodes there may be, and none else; one node is no way.
func TestNewWays(t *testing.T) {
	nodes := append([]int{0, 1, 2, 3, 4, 5, 6, 7}, noNode...)
	for _, shard := range append([]int{0, 1, 2, 3, 4, 5, 6, 7, 8, 9, 10, 11, 12, 13, 14, 15}, noShard...) {
		for _, from := range nodes {
			for _, to := range nodes {
				way := api.Move{Shard: shard, From: from, To: to}
				if shard >= 0 && shard <= 15 && from >= 0 && from <= 7 && to >= 0 && to <= 7 && from != to {
					p := newPair(t, 3, 4, way)
					p.same()
					p.end()
					continue
				}
				if m, e := New(3, 4, way); m != nil || e != api.ErrArg {
					t.Fatalf("New(3, 4, %v) = %v, %d", way, m, e)
				}
			}
		}
	}
}

// Mv1: a number, and an epoch, is 1 to 2^40; wrong ones meet, and meet a wrong way.
func TestNewNumbers(t *testing.T) {
	may := []int{1, 2, 3, 255, 256, 1<<31 - 1, 1 << 31, 1 << 32, 1<<32 + 1, 1<<40 - 1, 1 << 40}
	for _, a := range may {
		for _, b := range may {
			p := newPair(t, a, b, here)
			p.same()
			p.end()
			gone(t, a, b, here, path{2, "abort", 0}).end()
			for _, way := range []api.Move{{Shard: 16, From: 0, To: 1}, {Shard: 0, From: 8, To: 1}, {Shard: 0, From: 0, To: -1}, {}} {
				if m, e := New(a, b, way); m != nil || e != api.ErrArg {
					t.Errorf("New(%d, %d, %v) = %v, %d", a, b, way, m, e)
				}
			}
		}
		for _, no := range noNumber {
			for _, way := range []api.Move{here, {Shard: -1, From: 0, To: 1}, {}} {
				for _, n := range [][2]int{{a, no}, {no, a}, {no, no}} {
					if m, e := New(n[0], n[1], way); m != nil || e != api.ErrArg {
						t.Errorf("New(%d, %d, %v) = %v, %d", n[0], n[1], way, m, e)
					}
				}
			}
		}
	}
}

// Mv1: behind each path, each kind of message, from each node, of each shard and number, with each kind as its Version.
func TestEachMessage(t *testing.T) {
	kinds := []int{math.MinInt, -7, -1, 19 + 1<<32, 20, 21, 256 + 8, math.MaxInt}
	for k := range 20 {
		kinds = append(kinds, k)
	}
	for _, to := range paths {
		p := gone(t, 9, 4, here, to)
		for _, kind := range kinds {
			for _, from := range []int{-1, 0, 1, 2, 1 << 32, 2 + 1<<32} {
				for _, shard := range []int{0, 1, 2, 1 + 1<<32} {
					for _, n := range []int{-9, 8, 9, 10, 9 + 1<<32} {
						p = p.eachVersion(to, from, api.Msg{Kind: kind, Shard: shard, N: n, Text: "x"})
					}
				}
			}
		}
	}
}

// eachVersion tells a message with each kind as its Version; what it goes on by is told to another one yet, each time.
func (p *pair) eachVersion(to path, from int, x api.Msg) *pair {
	p.t.Helper()
	r := p.w.row()
	for v := -1; v < 23; v++ {
		x.Version = v
		switch v { // that of the kind, but for high bits
		case 21:
			x.Version = r.says + 1<<8
		case 22:
			x.Version = r.says + 1<<32
		}
		if p.hears(from, x) {
			p.hears(from, x)
			p.end()
			p = gone(p.t, p.w.number, p.w.epoch, p.w.way, to)
		}
	}
	return p
}

// Mv1: it is gone on by the nodes, the shard and the number of the move itself, whichever they are.
func TestEachWay(t *testing.T) {
	for shard := range 16 {
		for from := range 8 {
			for to := range 8 {
				if from == to {
					continue
				}
				for _, where := range paths {
					p := gone(t, 1+shard*from, 1+to, api.Move{Shard: shard, From: from, To: to}, where)
					_, x := p.answer()
					_, y := p.moved()
					_, z := p.answer()
					z.Shard++
					for node := -1; node < 9; node++ {
						if node != p.w.node() {
							p.hears(node, x)
							p.hears(node, y)
						}
						p.hears(node, z)
					}
					p.end()
				}
			}
		}
	}
}

// full is a message with something in all of its fields.
func full(x api.Msg) api.Msg {
	x.Epoch, x.Client, x.Seq, x.Limit = 77, 78, 79, 80
	x.Op = api.Op{Kind: 81, Id: 82, V: []int{83, 84}, K: 85}
	x.Reply = api.Reply{Err: 86, Was: true, Hits: []api.Hit{{Id: 87, Dist: 88}}}
	return x
}

// Mv1: what else a message has is not looked at, and said to none.
func TestWhatElse(t *testing.T) {
	for _, to := range paths {
		p := gone(t, 9, 4, here, to)
		if p.w.row().says != 0 {
			from, x := p.answer()
			if !p.hears(from, full(x)) {
				t.Fatalf("in %d: a full message is refused", p.w.phase)
			}
		}
		p.end()
		p = gone(t, 9, 4, here, to)
		from, x := p.moved()
		x.Text = "no"
		for _, e := range []api.Errno{api.OK, api.ErrArg, api.ErrSealed, api.ErrEpoch, api.ErrDisk, -1, 1 << 40} {
			x.Reply.Err = e
			q := gone(t, 9, 4, here, to)
			q.hears(from, x)
			q.hears(from, full(x))
			q.end()
		}
		p.hears(from, full(x))
		p.end()
	}
	all := func(x api.Msg) api.Msg { // what it says, told back, leads nowhere
		x.Version, x.Text = x.Kind, "back"
		return x
	}
	for _, to := range paths {
		p := gone(t, 9, 4, here, to)
		node, x, _ := p.m.Says()
		for from := -1; from < 8; from++ {
			p.hears(from, x)
			p.hears(from, all(x))
		}
		p.hears(node, api.Msg{})
	}
}

// Mv1: a Version and a Text are kept as they are, whichever they are.
func TestKept(t *testing.T) {
	long := strings.Repeat("0123456\xff", 1<<15)
	versions := []int{math.MinInt, -1 << 40, -1, 0, 1, 7, 1 << 31, 1 << 32, 1<<40 + 1, math.MaxInt}
	for i, all := range []string{"", "a", "\x00", "\n", "\xff\xfe", "ÄbΩ\u3000", long, long + "x", strings.Repeat("x", 1<<20)} {
		for _, rest := range []string{"", "b", "\xff", all, all + "c", long} {
			for j, v := range versions {
				p := newPair(t, 9, 4, here)
				p.hears(0, api.Msg{Kind: api.MsgCopied, Shard: 1, N: 9, Version: v, Text: all})
				p.hears(0, api.Msg{Kind: api.MsgCopied, Shard: 1, N: 9, Version: v + 1, Text: all + "!"})
				p.hears(2, api.Msg{Kind: api.MsgLoaded, Shard: 1, N: 9, Version: versions[(i+j)%len(versions)], Text: "other"})
				p.hears(0, api.Msg{Kind: api.MsgSealed, Shard: 1, N: 9, Version: versions[(i+j+1)%len(versions)], Text: rest})
				p.hears(0, api.Msg{Kind: api.MsgSealed, Shard: 1, N: 9, Text: "late"})
				p.end()
			}
		}
	}
}

// Mv1: Abort in each phase, behind each path, once and once more.
func TestAbort(t *testing.T) {
	want := []api.Errno{0, api.OK, api.OK, api.OK, api.ErrBusy, api.ErrNone, api.ErrNone, api.ErrNone, api.ErrNone, api.ErrNone}
	for _, to := range paths {
		m := gone(t, 9, 4, here, to).m
		was := m.Phase()
		if e := m.Abort(); e != want[was] {
			t.Errorf("in %d: Abort = %d, want %d", was, e, want[was])
		}
		if n := m.Phase(); n != was && want[was] != api.OK || n != Forgetting && want[was] == api.OK {
			t.Errorf("in %d: behind Abort it is in %d", was, n)
		}
		p := gone(t, 9, 4, here, to)
		p.abort()
		p.abort()
		p.end()
		p.abort()
	}
}

// Mv2: what it says is told again and again, and is the same.
func TestSaysAgain(t *testing.T) {
	for _, to := range paths {
		p := gone(t, 9, 4, here, to)
		for range 50 {
			p.same()
		}
		p.end()
	}
}

// heard is a message, and from where.
type heard struct {
	from int
	x    api.Msg
}

// Mv2: whatever is heard late, or twice, changes nothing, in each phase behind it, by each path.
func TestLate(t *testing.T) {
	for _, to := range paths {
		p := newPair(t, 9, 4, here)
		var old []heard
		again := func() {
			t.Helper()
			was := p.w.phase
			for _, h := range old {
				if p.hears(h.from, h.x) || p.m.Phase() != was {
					t.Fatalf("in %d: %s was heard already", was, show(h.x))
				}
			}
		}
		step := func(from int, x api.Msg) {
			t.Helper()
			old = append(old, heard{from, x})
			if !p.hears(from, x) {
				t.Fatalf("in %d: it does not go on by %s", p.w.phase, show(x))
			}
			again()
		}
		for range to.first {
			step(p.answer())
		}
		switch to.how {
		case "abort":
			old = append(old, p.late()...)
			p.abort()
			again()
		case "moved":
			from, x := p.answer()
			step(p.moved())
			old = append(old, heard{from, x})
			again()
		}
		for p.w.row().says != 0 {
			step(p.answer())
		}
		p.abort()
		again()
	}
}

// late is what may yet come of what is said now.
func (p *pair) late() []heard {
	from, x := p.answer()
	_, y := p.moved()
	return []heard{{from, x}, {from, y}}
}

// calls are those that may lead on somewhere, and some that may not.
func calls() []func(p *pair) {
	out := []func(p *pair){(*pair).abort}
	for _, r := range table {
		if r.says == 0 {
			continue
		}
		from, other := here.From, here.To
		if r.to == "To" {
			from, other = other, from
		}
		x := api.Msg{Kind: r.by, Shard: 1, N: 9, Version: r.phase, Text: fmt.Sprint(r.phase)}
		out = append(out, func(p *pair) { p.hears(from, x) })
		y := api.Msg{Kind: 19, Shard: 1, N: 9, Version: r.says}
		out = append(out, func(p *pair) { p.hears(from, y) })
		if r.phase == 1 {
			out = append(out, func(p *pair) { p.hears(other, x) })
		}
	}
	return out
}

// Mv1, Mv2: all short rows of calls.
func TestShortRows(t *testing.T) {
	all := calls()
	var at []int
	var rows func(depth int)
	rows = func(depth int) {
		if depth == 0 {
			p := newPair(t, 9, 4, here)
			for _, c := range at {
				all[c](p)
			}
			return
		}
		for c := range all {
			at = append(at, c)
			rows(depth - 1)
			at = at[:len(at)-1]
		}
	}
	for depth := range 5 {
		rows(depth)
	}
}

// Mv1, Mv2: long rows of calls; it is done, or given up, and stays so.
func TestLongRows(t *testing.T) {
	all := calls()
	ends := map[int]int{}
	for seed := range 3000 {
		g := &numbers{uint64(seed)}
		p := newPair(t, 9, 4, here)
		for range 300 {
			c := g.next(len(all))
			if c == 0 && g.next(20) != 0 {
				continue // else most are given up
			}
			was := p.w.phase
			all[c](p)
			if (was == Done || was == GivenUp) && p.m.Phase() != was {
				t.Fatalf("in %d, it went on to %d", was, p.m.Phase())
			}
		}
		p.end()
		ends[p.m.Phase()]++
	}
	if len(ends) != 2 || ends[Done] < 10 || ends[GivenUp] < 10 {
		t.Errorf("so many ended: %v", ends)
	}
}

// R2: a message that is refused, and an Abort that is, change nothing that a later call could tell.
func TestRefused(t *testing.T) {
	for _, to := range paths {
		asked, quiet := gone(t, 9, 4, here, to), gone(t, 9, 4, here, to)
		g := &numbers{3}
		for range 3000 {
			from, x := g.next(10)-1, api.Msg{Kind: g.next(21), Shard: g.next(3), N: 8 + g.next(3), Version: g.next(21), Text: "no"}
			w := *asked.w
			if !w.hears(from, x) {
				asked.hears(from, full(x))
			}
		}
		if asked.w.phase > 3 {
			asked.abort()
		}
		for {
			node, x, ok := asked.m.Says()
			if node2, y, ok2 := quiet.m.Says(); node != node2 || !same(x, y) || ok != ok2 || asked.m.Phase() != quiet.m.Phase() {
				t.Fatalf("in %d: what was refused has changed something", asked.m.Phase())
			}
			if !ok {
				break
			}
			asked.goOn(1)
			quiet.goOn(1)
		}
	}
}

// R3: what is handed in is not changed, nor what lies behind a list's end, and what was said stays as it was.
func TestHandedIn(t *testing.T) {
	numbers := []int{1, 2, 3, 4}
	hits := []api.Hit{{Id: 1, Dist: 2}, {Id: 3, Dist: 4}, {Id: 5, Dist: 6}}
	p := newPair(t, 9, 4, here)
	for p.w.row().says != 0 {
		from, x := p.answer()
		x.Op.V, x.Reply.Hits = numbers[:2], hits[:1]
		p.hears(from, x)
		if !slices.Equal(x.Op.V, numbers[:2]) || !slices.Equal(x.Reply.Hits, hits[:1]) {
			t.Error("a message has changed")
		}
	}
	if !slices.Equal(numbers, []int{1, 2, 3, 4}) || hits[1] != (api.Hit{Id: 3, Dist: 4}) || hits[2] != (api.Hit{Id: 5, Dist: 6}) {
		t.Error(numbers, hits)
	}
	way := here
	m := newMove(t, 9, 4, way)
	way.From, way.To, way.Shard = 5, 6, 7
	to, x, _ := m.Says()
	m.Hears(0, api.Msg{Kind: api.MsgCopied, Shard: 1, N: 9, Text: "a"})
	_, y, _ := m.Says()
	if to != 0 || x.Kind != api.MsgCopy || x.Text != "" || x.Shard != 1 {
		t.Error(to, show(x))
	}
	x.Shard, y.Text, y.N = 4, "b", 3
	if _, z, _ := m.Says(); z.Text != "a" || z.N != 9 {
		t.Error(show(z))
	}
}

// R4: moves are apart from one another, and what one tells hangs on its calls alone.
func TestApart(t *testing.T) {
	row := func() string {
		var all []*Move
		for i := range 6 {
			all = append(all, newMove(t, 1+i%3, 1+i, api.Move{Shard: i % 2, From: i % 4, To: 4}))
		}
		g := &numbers{17}
		s := ""
		for range 400 {
			m := all[g.next(6)]
			to, says, _ := m.Says()
			x := api.Msg{Kind: says.Kind + 1, Shard: g.next(2), N: 1 + g.next(3), Version: g.next(5), Text: "t"}
			s += fmt.Sprint(m.Phase(), to, says, m.Hears(to, x))
			if g.next(90) == 0 {
				s += fmt.Sprint(m.Abort())
			}
		}
		return s
	}
	first := row()
	for range 30 {
		if row() != first {
			t.Fatal("the same calls were answered otherwise")
		}
	}
	one, two := newPair(t, 9, 4, here), newPair(t, 9, 4, here)
	one.goOn(2)
	two.same()
	two.abort()
	one.same()
	one.end()
	two.end()
}

// R1: a move that New did not give: 0, -1, false, ErrArg; and it changes none that New gave.
func TestNotGiven(t *testing.T) {
	for _, to := range paths {
		p := gone(t, 9, 4, here, to)
		copied := *p.m
		for name, m := range map[string]*Move{"nil": nil, "zero": {}, "copied": &copied} {
			from, x := p.answer()
			_, y := p.moved()
			for _, x := range []api.Msg{x, y, {}, full(x)} {
				for _, from := range append([]int{from, 0, 1, 2}, noNode...) {
					if m.Hears(from, x) {
						t.Fatalf("%s: Hears(%d, %s)", name, from, show(x))
					}
				}
			}
			if n, e := m.Phase(), m.Abort(); n != 0 || e != api.ErrArg {
				t.Errorf("%s: Phase = %d, Abort = %d", name, n, e)
			}
			if to, x, ok := m.Says(); to != -1 || !same(x, api.Msg{}) || ok {
				t.Errorf("%s: Says = %d, %s, %v", name, to, show(x), ok)
			}
		}
		p.same()
		p.end()
	}
}

// heap is how many bytes are in use.
func heap() int {
	runtime.GC()
	var m runtime.MemStats
	runtime.ReadMemStats(&m)
	return int(m.HeapAlloc)
}

// Mv1: a text is kept for the phase that says it, and not behind it; nor what it was cut from.
func TestKeptMemory(t *testing.T) {
	const many, size = 200, 1 << 17
	for _, x := range []struct {
		to   path
		keep string
		gone func(p *pair)
	}{
		{path{0, "", 0}, "all", func(p *pair) { p.goOn(1) }},
		{path{0, "", 0}, "all", (*pair).abort},
		{path{0, "", 0}, "all", func(p *pair) { p.hears(p.moved()) }},
		{path{2, "", 0}, "all", func(p *pair) { p.goOn(1) }},
		{path{2, "", 0}, "all", func(p *pair) { p.hears(p.moved()) }},
		{path{0, "", 0}, "cut", func(*pair) {}},
		{path{2, "", 0}, "cut", func(*pair) {}},
		{path{1, "", 0}, "none", func(*pair) {}},
		{path{3, "", 0}, "none", func(*pair) {}},
		{path{4, "", 0}, "none", func(*pair) {}},
		{path{2, "moved", 0}, "none", func(*pair) {}},
		{path{2, "abort", 1}, "none", func(*pair) {}},
	} {
		before := heap()
		all := make([]*pair, many)
		for i := range all {
			p := gone(t, 9, 4, here, x.to)
			from, y := p.answer()
			y.Text = strings.Repeat("x", size+i)
			if x.keep == "cut" {
				y.Text = y.Text[i : i+5]
			}
			p.hears(from, y)
			p.w.text = "" // the model would keep it
			all[i] = p
		}
		if n := heap() - before; x.keep == "all" && n < many*size || x.keep != "all" && n > many*size/8 {
			t.Errorf("behind %v, %s: %d bytes are kept", x.to, x.keep, n)
		}
		for _, p := range all {
			if x.keep == "all" {
				_, said, _ := p.m.Says()
				p.w.text = strings.Clone(said.Text)
			}
			x.gone(p)
			p.w.text = ""
		}
		if n := heap() - before; n > many*size/8 {
			t.Errorf("behind %v, %s: %d bytes are kept to the end", x.to, x.keep, n)
		}
		runtime.KeepAlive(all)
	}
}
