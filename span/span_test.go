package span

import (
	"math"
	"math/bits"
	"math/rand"
	"slices"
	"testing"

	"weirmaster/api"
	"weirmaster/walk"
)

// arcs by their numbers: From, To and Cap of each.
func arcs(numbers ...int) []api.Arc {
	var list []api.Arc
	for c := range slices.Chunk(numbers, 3) {
		list = append(list, api.Arc{From: c[0], To: c[1], Cap: c[2]})
	}
	return list
}

// alike: n times the same arc.
func alike(n, from, to, cost int) []api.Arc {
	return slices.Repeat(arcs(from, to, cost), n)
}

// line: n nodes, each with an arc to the next one, of the same cost.
func line(n, cost int) api.Graph {
	g := api.Graph{N: n}
	for v := 1; v < n; v++ {
		g.Arcs = append(g.Arcs, api.Arc{From: v - 1, To: v, Cap: cost})
	}
	return g
}

// longCases: graphs that graph.CheckLong does not let pass.
var longCases = []struct {
	name string
	g    api.Graph
	want api.Errno
}{
	{"no node", api.Graph{}, api.ErrArg},
	{"below 0", api.Graph{N: -1}, api.ErrArg},
	{"13 nodes", line(13, 1), api.ErrArg},
	{"least int", api.Graph{N: math.MinInt}, api.ErrArg},
	{"greatest int", api.Graph{N: math.MaxInt}, api.ErrArg},
	{"61 arcs", api.Graph{N: 2, Arcs: alike(61, 0, 1, 1)}, api.ErrLarge},
	{"61 arcs, bad ones", api.Graph{N: 2, Arcs: alike(61, 0, 2, 1)}, api.ErrLarge},
	{"From at N", api.Graph{N: 2, Arcs: arcs(2, 0, 1)}, api.ErrNode},
	{"To below 0", api.Graph{N: 2, Arcs: arcs(0, -1, 1)}, api.ErrNode},
	{"a bad arc behind a good one", api.Graph{N: 2, Arcs: arcs(0, 1, 1, 1, 2, 1)}, api.ErrNode},
	{"Cap 10001", api.Graph{N: 2, Arcs: arcs(0, 1, 10001)}, api.ErrArg},
	{"Cap -10001", api.Graph{N: 2, Arcs: arcs(0, 1, -10001)}, api.ErrArg},
	{"a loop's Cap", api.Graph{N: 2, Arcs: arcs(0, 1, 1, 1, 1, 10001)}, api.ErrArg},
	{"a node ahead of a Cap", api.Graph{N: 2, Arcs: arcs(0, 2, 10001)}, api.ErrNode},
	{"a Cap ahead of the next arc's node", api.Graph{N: 2, Arcs: arcs(0, 1, 10001, 0, 2, 1)}, api.ErrArg},
}

// P17, P18: CheckLong's error, with nothing beside it, ahead of all others.
func TestCheckLongIsTold(t *testing.T) {
	for _, c := range longCases {
		if l, sum, e := Least(c.g); len(l) != 0 || sum != 0 || e != c.want {
			t.Errorf("%s: Least %v %d %d, not %d alone", c.name, l, sum, e, c.want)
		}
		for _, ends := range [][2]int{{0, 1}, {0, 0}, {-1, 5}, {99, 99}} {
			if w, e := Wide(c.g, ends[0], ends[1]); w != 0 || e != c.want {
				t.Errorf("%s: Wide %v %d %d, not %d alone", c.name, ends, w, e, c.want)
			}
		}
	}
}

// P17.
func TestLeast(t *testing.T) {
	cases := []struct {
		name string
		g    api.Graph
		want []int
		sum  int
	}{
		{"one node", api.Graph{N: 1}, nil, 0},
		{"one node and loops", api.Graph{N: 1, Arcs: arcs(0, 0, 5, 0, 0, -5)}, nil, 0},
		{"twelve apart", api.Graph{N: 12}, nil, 0},
		{"an empty list", api.Graph{N: 2, Arcs: []api.Arc{}}, nil, 0},
		{"one arc", api.Graph{N: 2, Arcs: arcs(0, 1, 7)}, []int{0}, 7},
		{"one arc, downwards", api.Graph{N: 2, Arcs: arcs(1, 0, 7)}, []int{0}, 7},
		{"a round of 5, 3 and 4", api.Graph{N: 3, Arcs: arcs(0, 1, 5, 1, 2, 3, 2, 0, 4)}, []int{1, 2}, 7},
		{"rising numbers, not rising costs", api.Graph{N: 3, Arcs: arcs(0, 1, 9, 1, 2, 3)}, []int{0, 1}, 12},
		{"two alike", api.Graph{N: 2, Arcs: arcs(0, 1, 4, 0, 1, 4)}, []int{0}, 4},
		{"there and back", api.Graph{N: 2, Arcs: arcs(0, 1, 4, 1, 0, 3)}, []int{1}, 3},
		{"of three alike the least numbers", api.Graph{N: 3, Arcs: arcs(2, 0, 3, 1, 2, 3, 0, 1, 3)}, []int{0, 1}, 6},
		{"the cheap one that is told last", api.Graph{N: 3, Arcs: arcs(0, 1, 3, 1, 2, 3, 2, 0, 2)}, []int{0, 2}, 5},
		{"below 0 is cheaper than 0", api.Graph{N: 2, Arcs: arcs(0, 1, 0, 0, 1, -1)}, []int{1}, -1},
		{"no more arcs for a smaller sum", api.Graph{N: 3, Arcs: arcs(0, 1, -5, 1, 2, -4, 2, 0, -3)}, []int{0, 1}, -9},
		{"a loop below 0 joins nothing", api.Graph{N: 2, Arcs: arcs(0, 0, -9, 0, 1, 6, 1, 1, -9)}, []int{1}, 6},
		{"no fewer arcs for a smaller sum", line(12, 10000), []int{0, 1, 2, 3, 4, 5, 6, 7, 8, 9, 10}, 110000},
		{"as little as can be", line(12, -10000), []int{0, 1, 2, 3, 4, 5, 6, 7, 8, 9, 10}, -110000},
		{"two parts", api.Graph{N: 6, Arcs: arcs(0, 1, 5, 3, 4, 2, 1, 2, 6, 4, 5, 1, 2, 0, 7, 5, 3, 3)}, []int{0, 1, 2, 3}, 14},
		{"a part, and nodes apart", api.Graph{N: 5, Arcs: arcs(3, 1, 2, 1, 3, 1)}, []int{1}, 1},
		{"sixty alike", api.Graph{N: 12, Arcs: alike(60, 11, 0, 8)}, []int{0}, 8},
		{"the last of sixty", api.Graph{N: 12, Arcs: append(alike(59, 11, 0, 8), api.Arc{To: 11, Cap: 7})}, []int{59}, 7},
		{"costs that cancel out", api.Graph{N: 3, Arcs: arcs(0, 1, 10000, 1, 2, -10000)}, []int{0, 1}, 0},
		{"ties by Cap ahead of ties by number", api.Graph{N: 4, Arcs: arcs(0, 1, 2, 2, 3, 2, 1, 2, 1, 3, 0, 1, 0, 2, 1)}, []int{2, 3, 4}, 3},
	}
	for _, c := range cases {
		if l, sum, e := Least(c.g); e != api.OK || sum != c.sum || !slices.Equal(l, c.want) {
			t.Errorf("%s: %v %d %d, not %v %d", c.name, l, sum, e, c.want, c.sum)
		}
	}
}

// P18.
func TestWide(t *testing.T) {
	round := api.Graph{N: 5, Arcs: arcs(0, 1, 5, 1, 2, 3, 0, 2, 4, 4, 4, 1)}
	below := api.Graph{N: 3, Arcs: arcs(0, 1, -3, 1, 2, -7, 0, 2, 0)}
	cases := []struct {
		name string
		g    api.Graph
		s, t int
		want int
		e    api.Errno
	}{
		{"over the third node", round, 0, 1, 4, api.OK},
		{"the other way round", round, 1, 0, 4, api.OK},
		{"one arc", round, 1, 2, 3, api.OK},
		{"one arc, against it", round, 2, 0, 4, api.OK},
		{"below 0", below, 1, 2, -7, api.OK},
		{"below 0, over the third node", below, 0, 2, -3, api.OK},
		{"the least Cap", line(12, -10000), 0, 11, -10000, api.OK},
		{"the greatest Cap", line(12, 10000), 11, 0, 10000, api.OK},
		{"a Cap of 0", line(2, 0), 0, 1, 0, api.OK},
		{"the cheapest of three", api.Graph{N: 2, Arcs: arcs(0, 1, 5, 1, 0, 2, 0, 1, 9)}, 0, 1, 2, api.OK},
		{"the dearest on the way, not the sum", api.Graph{N: 4, Arcs: arcs(0, 1, 4, 1, 2, 6, 2, 3, 4, 0, 3, 7)}, 0, 3, 6, api.OK},
		{"what is dear elsewhere", api.Graph{N: 4, Arcs: arcs(0, 1, 9, 2, 3, 1, 1, 2, 8)}, 1, 3, 8, api.OK},
		{"sixty alike", api.Graph{N: 12, Arcs: alike(60, 11, 0, 8)}, 0, 11, 8, api.OK},
		{"not joined", round, 0, 3, 0, api.ErrNone},
		{"a loop joins nothing", round, 4, 3, 0, api.ErrNone},
		{"no arcs", api.Graph{N: 2}, 0, 1, 0, api.ErrNone},
		{"two parts", api.Graph{N: 4, Arcs: arcs(0, 1, 1, 2, 3, 1)}, 1, 2, 0, api.ErrNone},
		{"the same", round, 1, 1, 0, api.ErrForm},
		{"the same, of one node", api.Graph{N: 1}, 0, 0, 0, api.ErrForm},
		{"the same, at which nothing stands", round, 3, 3, 0, api.ErrForm},
		{"s below 0", round, -1, 0, 0, api.ErrNode},
		{"t below 0", round, 0, -1, 0, api.ErrNode},
		{"s at N", round, 5, 0, 0, api.ErrNode},
		{"t at N", round, 0, 5, 0, api.ErrNode},
		{"the same, but no node", round, 5, 5, 0, api.ErrNode},
		{"the same, below 0", round, -1, -1, 0, api.ErrNode},
		{"least int", round, math.MinInt, 0, 0, api.ErrNode},
		{"greatest int", round, 0, math.MaxInt, 0, api.ErrNode},
	}
	for _, c := range cases {
		if w, e := Wide(c.g, c.s, c.t); w != c.want || e != c.e {
			t.Errorf("%s: %d %d, not %d %d", c.name, w, e, c.want, c.e)
		}
	}
}

// only: the graph with the arcs of which a function says so.
func only(g api.Graph, keep func(k int, a api.Arc) bool) api.Graph {
	h := api.Graph{N: g.N}
	for k, a := range g.Arcs {
		if keep(k, a) {
			h.Arcs = append(h.Arcs, a)
		}
	}
	return h
}

func parts(g api.Graph) []int {
	l, _ := walk.Parts(g)
	return l
}

func sumOf(g api.Graph, set uint) int {
	sum := 0
	for k, a := range g.Arcs {
		sum += a.Cap * int(set>>k&1)
	}
	return sum
}

// numbersOf: the arcs of a set, rising.
func numbersOf(set uint) []int {
	var l []int
	for ; set != 0; set &= set - 1 {
		l = append(l, bits.TrailingZeros(set))
	}
	return l
}

// ahead: does arc j come ahead of arc k, by Cap, then by number?
func ahead(g api.Graph, j, k int) bool {
	if g.Arcs[j].Cap != g.Arcs[k].Cap {
		return g.Arcs[j].Cap < g.Arcs[k].Cap
	}
	return j < k
}

// better says as P17 does which of two sets of arcs, that both join what all do, is to be told.
func better(g api.Graph, a, b uint) bool {
	if n, m := bits.OnesCount(a), bits.OnesCount(b); n != m {
		return n < m
	}
	if n, m := sumOf(g, a), sumOf(g, b); n != m {
		return n < m
	}
	first := -1
	for k := range g.Arcs {
		if (a^b)>>k&1 == 1 && (first < 0 || ahead(g, k, first)) {
			first = k
		}
	}
	return first >= 0 && a>>first&1 == 1
}

// tryAll tells the best set of arcs by trying each one.
func tryAll(g api.Graph) uint {
	whole := parts(g)
	best := uint(1)<<len(g.Arcs) - 1
	for set := range uint(1) << len(g.Arcs) {
		if !better(g, set, best) {
			continue
		}
		h := only(g, func(k int, _ api.Arc) bool { return set>>k&1 == 1 })
		if slices.Equal(parts(h), whole) {
			best = set
		}
	}
	return best
}

func checkLeastByAll(t *testing.T, g api.Graph) {
	t.Helper()
	set := tryAll(g)
	l, sum, e := Least(g)
	if e != api.OK || sum != sumOf(g, set) || !slices.Equal(l, numbersOf(set)) {
		t.Fatalf("%v: %v %d %d, not %v %d", g, l, sum, e, numbersOf(set), sumOf(g, set))
	}
}

// wideByParts tries the arcs' numbers Cap one by one.
func wideByParts(g api.Graph, s, t int) (int, api.Errno) {
	best, e := 0, api.ErrNone
	for _, a := range g.Arcs {
		if e == api.OK && a.Cap >= best {
			continue
		}
		p := parts(only(g, func(_ int, b api.Arc) bool { return b.Cap <= a.Cap }))
		if p[s] == p[t] {
			best, e = a.Cap, api.OK
		}
	}
	return best, e
}

func checkWide(t *testing.T, g api.Graph) {
	t.Helper()
	for v := range g.N {
		for w := range g.N {
			want, f := wideByParts(g, v, w)
			if v == w {
				want, f = 0, api.ErrForm
			}
			if c, e := Wide(g, v, w); c != want || e != f {
				t.Fatalf("%v, %d and %d: %d %d, not %d %d", g, v, w, c, e, want, f)
			}
		}
	}
}

// drawn: a graph of n nodes with so many arcs, whose numbers Cap are from -most to most.
func drawn(r *rand.Rand, n, many, most int) api.Graph {
	g := api.Graph{N: n}
	for range many {
		g.Arcs = append(g.Arcs, api.Arc{From: r.Intn(n), To: r.Intn(n), Cap: r.Intn(2*most+1) - most})
	}
	return g
}

// P17 and P18, of all lists of few arcs with Cap -1, 0 or 1.
func TestAllOfFewArcs(t *testing.T) {
	for _, size := range []struct{ n, most int }{{1, 4}, {2, 4}, {3, 3}} {
		checkFrom(t, api.Graph{N: size.n}, size.most)
	}
}

func checkFrom(t *testing.T, g api.Graph, more int) {
	t.Helper()
	checkLeastByAll(t, g)
	checkWide(t, g)
	if more == 0 {
		return
	}
	for i := range 3 * g.N * g.N {
		ends := i / 3
		longer := append(slices.Clone(g.Arcs), api.Arc{From: ends / g.N, To: ends % g.N, Cap: i%3 - 1})
		checkFrom(t, api.Graph{N: g.N, Arcs: longer}, more-1)
	}
}

// P17, of few costs and of many, by trying all.
func TestLeastDrawn(t *testing.T) {
	r := rand.New(rand.NewSource(11))
	for range 1500 {
		most := []int{0, 1, 2, 5, api.MaxCap}[r.Intn(5)]
		checkLeastByAll(t, drawn(r, 1+r.Intn(6), r.Intn(11), most))
	}
}

// P17, of graphs too large for that: an arc is told just if those ahead of it do not join its ends.
func TestLeastOfLarge(t *testing.T) {
	r := rand.New(rand.NewSource(12))
	for range 400 {
		most := []int{0, 1, 3, 20, api.MaxCap}[r.Intn(5)]
		g := drawn(r, 1+r.Intn(api.MaxN), r.Intn(api.MaxArcs+1), most)
		var want []int
		sum := 0
		for k, a := range g.Arcs {
			p := parts(only(g, func(j int, _ api.Arc) bool { return ahead(g, j, k) }))
			if p[a.From] != p[a.To] {
				want = append(want, k)
				sum += a.Cap
			}
		}
		if l, s, e := Least(g); e != api.OK || s != sum || !slices.Equal(l, want) {
			t.Fatalf("%v: %v %d %d, not %v %d", g, l, s, e, want, sum)
		}
	}
}

// P18, of any two nodes.
func TestWideDrawn(t *testing.T) {
	r := rand.New(rand.NewSource(13))
	for range 200 {
		most := []int{0, 2, 20, api.MaxCap}[r.Intn(4)]
		checkWide(t, drawn(r, 1+r.Intn(api.MaxN), r.Intn(api.MaxArcs+1)/(1+r.Intn(6)), most))
	}
}

// P17, P18: arcs may be gone in either direction.
func TestDirectionIsNotLookedAt(t *testing.T) {
	r := rand.New(rand.NewSource(14))
	for range 300 {
		g := drawn(r, 2+r.Intn(api.MaxN-1), r.Intn(30), 9)
		h := api.Graph{N: g.N, Arcs: slices.Clone(g.Arcs)}
		for k, a := range h.Arcs {
			if r.Intn(2) == 0 {
				h.Arcs[k] = api.Arc{From: a.To, To: a.From, Cap: a.Cap}
			}
		}
		l, sum, e := Least(g)
		if m, s, f := Least(h); !slices.Equal(l, m) || s != sum || f != e {
			t.Fatalf("%v: %v %d %d, turned %v: %v %d %d", g, l, sum, e, h, m, s, f)
		}
		c, e := Wide(g, 0, 1)
		if d, f := Wide(h, 1, 0); d != c || f != e {
			t.Fatalf("%v: %d %d, turned %v: %d %d", g, c, e, h, d, f)
		}
	}
}

// P1.
func TestNothingPanics(t *testing.T) {
	odd := []int{math.MinInt, -10001, -1, 0, 1, 2, 11, 12, 13, 10001, math.MaxInt}
	for _, n := range odd {
		for _, v := range odd {
			for _, w := range odd {
				callAll(api.Graph{N: n}, v, w)
				callAll(api.Graph{N: n, Arcs: arcs(v, w, 0)}, v, w)
				callAll(api.Graph{N: n, Arcs: arcs(0, 0, v, 0, 1, w)}, w, v)
				callAll(api.Graph{N: n, Arcs: arcs(0, 1, 1, v, w, n)}, 0, 1)
				callAll(api.Graph{N: n, Arcs: alike(61, v, w, 0)}, v, w)
			}
		}
	}
}

func callAll(g api.Graph, s, t int) {
	Least(g)
	Wide(g, s, t)
}

// P2: what is handed in stays as it is, the memory behind a list included.
func TestNothingIsChanged(t *testing.T) {
	r := rand.New(rand.NewSource(15))
	for range 200 {
		whole := drawn(r, api.MaxN, 3+r.Intn(50), 9).Arcs
		before := slices.Clone(whole)
		callAll(api.Graph{N: api.MaxN, Arcs: whole[:len(whole)-3]}, r.Intn(api.MaxN), r.Intn(api.MaxN))
		if !slices.Equal(whole, before) {
			t.Fatal("arcs have changed:", before, whole)
		}
	}
}

// P2: nothing is kept, and an answer shares no memory with a later one.
func TestNothingIsShared(t *testing.T) {
	g := api.Graph{N: 4, Arcs: arcs(0, 1, 5, 1, 2, 3, 2, 0, 4, 3, 0, 8)}
	want := []int{1, 2, 3}
	for range 3 {
		l, sum, e := Least(g)
		if e != api.OK || sum != 15 || !slices.Equal(l, want) {
			t.Fatal(l, sum, e)
		}
		l = l[:cap(l)]
		for i := range l {
			l[i] = -5
		}
		callAll(line(12, -4), 3, 7)
		if c, e := Wide(g, 1, 3); c != 8 || e != api.OK {
			t.Fatal(c, e)
		}
	}
}
