package euler

import (
	"math"
	"math/rand"
	"slices"
	"testing"

	"weirmaster/api"
)

// arcs by their ends: From and To of each.
func arcs(ends ...int) []api.Arc {
	var list []api.Arc
	for c := range slices.Chunk(ends, 2) {
		list = append(list, api.Arc{From: c[0], To: c[1]})
	}
	return list
}

// full: 60 times the same arc.
func full(from, to int) []api.Arc {
	return slices.Repeat(arcs(from, to), api.MaxArcs)
}

// ring: n nodes, each with an arc to the next one, the last one's to 0.
func ring(n int) api.Graph {
	g := api.Graph{N: n}
	for v := range n {
		g.Arcs = append(g.Arcs, api.Arc{From: v, To: (v + 1) % n})
	}
	return g
}

// shuttle: 60 arcs between the last node and 0, there and back.
func shuttle() api.Graph {
	return api.Graph{N: 12, Arcs: slices.Repeat(arcs(11, 0, 0, 11), api.MaxArcs/2)}
}

// canCases: graphs, and how all of their arcs can be gone.
var canCases = []struct {
	name string
	g    api.Graph
	want int
}{
	{"no arcs, one node", api.Graph{N: 1}, api.Round},
	{"no arcs, twelve nodes", api.Graph{N: 12, Arcs: []api.Arc{}}, api.Round},
	{"a round of three", ring(3), api.Round},
	{"a round of twelve", ring(12), api.Round},
	{"there and back", api.Graph{N: 2, Arcs: arcs(1, 0, 0, 1)}, api.Round},
	{"one loop", api.Graph{N: 1, Arcs: arcs(0, 0)}, api.Round},
	{"a loop, other nodes bare", api.Graph{N: 5, Arcs: arcs(3, 3)}, api.Round},
	{"sixty loops", api.Graph{N: 12, Arcs: full(11, 11)}, api.Round},
	{"an eight", api.Graph{N: 5, Arcs: arcs(0, 1, 1, 2, 2, 0, 2, 3, 3, 4, 4, 2)}, api.Round},
	{"a round far from 0", api.Graph{N: 9, Arcs: arcs(8, 6, 7, 8, 6, 7)}, api.Round},
	{"sixty there and back", shuttle(), api.Round},
	{"one arc", api.Graph{N: 2, Arcs: arcs(0, 1)}, api.Once},
	{"one arc, downwards", api.Graph{N: 12, Arcs: arcs(11, 4)}, api.Once},
	{"a line, told from its end", api.Graph{N: 4, Arcs: arcs(2, 3, 1, 2, 0, 1)}, api.Once},
	{"a line with a loop", api.Graph{N: 3, Arcs: arcs(0, 1, 1, 2, 1, 1)}, api.Once},
	{"a loop at the beginning", api.Graph{N: 2, Arcs: arcs(0, 1, 0, 0)}, api.Once},
	{"a loop at the end", api.Graph{N: 2, Arcs: arcs(1, 1, 0, 1)}, api.Once},
	{"a round and on from it", api.Graph{N: 4, Arcs: arcs(0, 3, 0, 1, 1, 2, 2, 0)}, api.Once},
	{"into a round", api.Graph{N: 4, Arcs: arcs(0, 1, 1, 2, 2, 0, 3, 0)}, api.Once},
	{"there, back and there", api.Graph{N: 2, Arcs: arcs(1, 0, 0, 1, 1, 0)}, api.Once},
	{"fifty-nine there and back", api.Graph{N: 12, Arcs: shuttle().Arcs[:59]}, api.Once},
	{"two alike", api.Graph{N: 2, Arcs: arcs(0, 1, 0, 1)}, 0},
	{"sixty alike", api.Graph{N: 12, Arcs: full(0, 11)}, 0},
	{"arcs that meet", api.Graph{N: 3, Arcs: arcs(0, 1, 2, 1)}, 0},
	{"arcs that part", api.Graph{N: 3, Arcs: arcs(1, 0, 1, 2)}, 0},
	{"the arc that has no way back", api.Graph{N: 3, Arcs: arcs(0, 1, 1, 2, 0, 2)}, 0},
	{"two rounds apart", api.Graph{N: 4, Arcs: arcs(0, 1, 1, 0, 2, 3, 3, 2)}, 0},
	{"two loops apart", api.Graph{N: 2, Arcs: arcs(0, 0, 1, 1)}, 0},
	{"two arcs apart", api.Graph{N: 4, Arcs: arcs(0, 1, 2, 3)}, 0},
	{"a round and an arc apart", api.Graph{N: 5, Arcs: arcs(0, 1, 1, 0, 3, 4)}, 0},
	{"an arc and a loop apart", api.Graph{N: 3, Arcs: arcs(1, 2, 0, 0)}, 0},
	{"a star of four", api.Graph{N: 5, Arcs: arcs(0, 1, 0, 2, 3, 0, 4, 0)}, 0},
	{"rounds joined by an arc each way, and one more", api.Graph{N: 4, Arcs: arcs(0, 1, 1, 0, 2, 3, 3, 2, 0, 2, 2, 0, 1, 3, 0, 3)}, 0},
}

// checkBoth: Can tells want, and Trail what goes with it.
func checkBoth(t *testing.T, name string, g api.Graph, want int) {
	t.Helper()
	if k, e := Can(g); e != api.OK || k != want {
		t.Fatalf("%s: %v: Can %d %d, not %d", name, g, k, e, want)
	}
	l, e := Trail(g)
	if want == 0 {
		if e != api.ErrNone || len(l) != 0 {
			t.Fatalf("%s: %v: Trail %v %d where there is none", name, g, l, e)
		}
	} else if e != api.OK || !isTrail(g, l, want) {
		t.Fatalf("%s: %v: Trail %v %d", name, g, l, e)
	}
}

// isTrail: all arcs, each once, one behind the other, back at the beginning just if kind says so.
func isTrail(g api.Graph, l []int, kind int) bool {
	seen := make([]bool, len(g.Arcs))
	for i, k := range l {
		if k < 0 || k >= len(g.Arcs) || seen[k] {
			return false
		}
		seen[k] = true
		if i > 0 && g.Arcs[l[i-1]].To != g.Arcs[k].From {
			return false
		}
	}
	if slices.Contains(seen, false) {
		return false
	}
	back := len(l) == 0 || g.Arcs[l[0]].From == g.Arcs[l[len(l)-1]].To
	return back == (kind == api.Round)
}

// P10 and P11.
func TestCases(t *testing.T) {
	for _, c := range canCases {
		checkBoth(t, c.name, c.g, c.want)
	}
}

// P11: where one order alone will do, it is told.
func TestTrailOfOneOrder(t *testing.T) {
	cases := []struct {
		name string
		g    api.Graph
		want []int
	}{
		{"no arcs", api.Graph{N: 3}, nil},
		{"one arc", api.Graph{N: 2, Arcs: arcs(1, 0)}, []int{0}},
		{"a line", api.Graph{N: 4, Arcs: arcs(2, 3, 0, 1, 1, 2)}, []int{1, 2, 0}},
		{"not out of a round too early", api.Graph{N: 4, Arcs: arcs(0, 3, 0, 1, 1, 2, 2, 0)}, []int{1, 2, 3, 0}},
		{"the round ahead of the rest", api.Graph{N: 5, Arcs: arcs(1, 4, 0, 1, 3, 1, 1, 2, 2, 3)}, []int{1, 3, 4, 2, 0}},
		{"the loop ahead of the arc", api.Graph{N: 2, Arcs: arcs(0, 1, 0, 0)}, []int{1, 0}},
	}
	for _, c := range cases {
		if l, e := Trail(c.g); e != api.OK || !slices.Equal(l, c.want) {
			t.Errorf("%s: %v %d, not %v", c.name, l, e, c.want)
		}
	}
}

// tryAll goes all ways there are, and tells as Can should.
func tryAll(g api.Graph) int {
	if len(g.Arcs) == 0 {
		return api.Round
	}
	best := 0
	for s := range g.N {
		ends := endsFrom(g, s)
		if slices.Contains(ends, s) {
			return api.Round
		}
		if len(ends) > 0 {
			best = api.Once
		}
	}
	return best
}

// endsFrom tells where one may be when all arcs are gone from s on: by sets of arcs, few ones first.
func endsFrom(g api.Graph, s int) []int {
	at := make([]uint, 1<<len(g.Arcs))
	at[0] = 1 << s
	for set := range at {
		for k, a := range g.Arcs {
			if set>>k&1 == 0 && at[set]>>a.From&1 == 1 {
				at[set|1<<k] |= 1 << a.To
			}
		}
	}
	var ends []int
	for v := range g.N {
		if at[len(at)-1]>>v&1 == 1 {
			ends = append(ends, v)
		}
	}
	return ends
}

// P10 and P11, of all lists of few arcs.
func TestAllOfFewArcs(t *testing.T) {
	for _, size := range []struct{ n, most int }{{1, 6}, {2, 5}, {3, 4}, {4, 3}} {
		checkFrom(t, api.Graph{N: size.n}, size.most)
	}
}

func checkFrom(t *testing.T, g api.Graph, more int) {
	t.Helper()
	checkBoth(t, "few arcs", g, tryAll(g))
	if more == 0 {
		return
	}
	for i := range g.N * g.N {
		longer := append(slices.Clone(g.Arcs), api.Arc{From: i / g.N, To: i % g.N})
		checkFrom(t, api.Graph{N: g.N, Arcs: longer}, more-1)
	}
}

// P10 and P11, of all graphs of three nodes that have each arc at most once.
func TestAllOfThreeNodes(t *testing.T) {
	for bits := range 1 << 9 {
		g := api.Graph{N: 3}
		for i := range 9 {
			if bits>>i&1 == 1 {
				g.Arcs = append(g.Arcs, api.Arc{From: i / 3, To: i % 3})
			}
		}
		checkBoth(t, "three nodes", g, tryAll(g))
	}
}

// gone draws arcs, one behind the other, of which each leads to a node below n, put up by shift.
func gone(r *rand.Rand, n, shift, many int) []api.Arc {
	var list []api.Arc
	at := r.Intn(n)
	for range many {
		to := r.Intn(n)
		list = append(list, api.Arc{From: at + shift, To: to + shift, Cap: r.Intn(2*api.MaxCap+1) - api.MaxCap})
		at = to
	}
	return list
}

func mix(r *rand.Rand, list []api.Arc) {
	r.Shuffle(len(list), func(i, j int) { list[i], list[j] = list[j], list[i] })
}

// P10 and P11, of graphs whose arcs were gone when they were made.
func TestGoneWhenMade(t *testing.T) {
	r := rand.New(rand.NewSource(3))
	for range 3000 {
		n := 1 + r.Intn(api.MaxN)
		list := gone(r, n, 0, 1+r.Intn(api.MaxArcs))
		want := api.Once
		if list[0].From == list[len(list)-1].To {
			want = api.Round
		}
		mix(r, list)
		checkBoth(t, "gone", api.Graph{N: n, Arcs: list}, want)
	}
}

// P10 and P11, of graphs of two parts, in each of which all arcs can be gone.
func TestTwoParts(t *testing.T) {
	r := rand.New(rand.NewSource(4))
	for range 1000 {
		n, m := 1+r.Intn(6), 1+r.Intn(6)
		list := slices.Concat(gone(r, n, 0, 1+r.Intn(30)), gone(r, m, n, 1+r.Intn(30)))
		mix(r, list)
		checkBoth(t, "two parts", api.Graph{N: n + m, Arcs: list}, 0)
	}
}

// P10 and P11, of graphs in which a part of what was gone is missing, or an arc is turned, by trying all.
func TestSpoilt(t *testing.T) {
	r := rand.New(rand.NewSource(5))
	for range 2000 {
		n := 2 + r.Intn(5)
		list := gone(r, n, 0, 2+r.Intn(8))
		k := r.Intn(len(list))
		if r.Intn(2) == 0 {
			list = slices.Delete(list, k, k+1)
		} else {
			list[k].From, list[k].To = list[k].To, list[k].From
		}
		mix(r, list)
		g := api.Graph{N: n, Arcs: list}
		checkBoth(t, "spoilt", g, tryAll(g))
	}
}

// P10 and P11: the numbers Cap change nothing.
func TestCapIsNotLookedAt(t *testing.T) {
	for _, length := range []int{-10000, -1, 0, 1, 10000} {
		for _, c := range canCases {
			g := api.Graph{N: c.g.N, Arcs: slices.Clone(c.g.Arcs)}
			for i := range g.Arcs {
				g.Arcs[i].Cap = length * (1 - i%3)
			}
			checkBoth(t, c.name, g, c.want)
		}
	}
}

// P10 and P11: CheckLong's error, with nothing beside it, also where it can't be done.
func TestCheckLongIsTold(t *testing.T) {
	cases := []struct {
		name string
		g    api.Graph
		want api.Errno
	}{
		{"no node", api.Graph{}, api.ErrArg},
		{"below 0", api.Graph{N: -1}, api.ErrArg},
		{"13 nodes", api.Graph{N: 13}, api.ErrArg},
		{"greatest int", api.Graph{N: math.MaxInt}, api.ErrArg},
		{"61 arcs", api.Graph{N: 1, Arcs: make([]api.Arc, 61)}, api.ErrLarge},
		{"61 arcs, all alike", api.Graph{N: 2, Arcs: append(full(0, 1), arcs(0, 1)...)}, api.ErrLarge},
		{"From at N", api.Graph{N: 2, Arcs: arcs(2, 0)}, api.ErrNode},
		{"To below 0", api.Graph{N: 2, Arcs: arcs(0, -1)}, api.ErrNode},
		{"a node behind a loop", api.Graph{N: 1, Arcs: arcs(0, 0, 0, 1)}, api.ErrNode},
		{"a node, and it can't be done", api.Graph{N: 2, Arcs: arcs(0, 1, 0, 1, 0, 2)}, api.ErrNode},
		{"Cap 10001", api.Graph{N: 2, Arcs: []api.Arc{{To: 1, Cap: 10001}}}, api.ErrArg},
		{"Cap -10001", api.Graph{N: 1, Arcs: []api.Arc{{Cap: -10001}}}, api.ErrArg},
		{"Cap, and it can't be done", api.Graph{N: 2, Arcs: []api.Arc{{To: 1}, {To: 1, Cap: 10001}}}, api.ErrArg},
	}
	for _, c := range cases {
		if k, e := Can(c.g); e != c.want || k != 0 {
			t.Errorf("%s: Can %d %d, not %d alone", c.name, k, e, c.want)
		}
		if l, e := Trail(c.g); e != c.want || len(l) != 0 {
			t.Errorf("%s: Trail %v %d, not %d alone", c.name, l, e, c.want)
		}
	}
}

// P1.
func TestNothingPanics(t *testing.T) {
	odd := []int{math.MinInt, -10001, -1, 0, 1, 2, 12, 13, 10001, math.MaxInt}
	for _, n := range odd {
		for _, v := range odd {
			for _, w := range odd {
				callAll(n, nil)
				callAll(n, arcs(v, w))
				callAll(n, arcs(0, 0, v, w, 0, 1, 1, 0))
				callAll(n, []api.Arc{{To: 1, Cap: v}, {Cap: w}})
				callAll(n, full(v, w))
				callAll(n, append(full(v, w), full(0, 0)...))
			}
		}
	}
}

func callAll(n int, list []api.Arc) {
	g := api.Graph{N: n, Arcs: list}
	Can(g)
	Trail(g)
}

// P2: what is handed in stays as it is, the memory behind its list included.
func TestNothingIsChanged(t *testing.T) {
	for _, c := range canCases {
		whole := append(slices.Clone(c.g.Arcs), arcs(9, 9, 8, 8, 7, 7)...)
		before := slices.Clone(whole)
		g := api.Graph{N: c.g.N, Arcs: whole[:len(c.g.Arcs)]}
		Can(g)
		Trail(g)
		if !slices.Equal(whole, before) {
			t.Errorf("%s: what was handed in has changed: %v", c.name, whole)
		}
	}
}

// P2: nothing is kept: an answer that was written over does not come back, and the same is answered each time.
func TestNothingIsKept(t *testing.T) {
	g := api.Graph{N: 5, Arcs: arcs(0, 1, 1, 2, 2, 0, 2, 3, 3, 4, 4, 2, 2, 2, 0, 2)}
	l, _ := Trail(g)
	first := slices.Clone(l)
	l = l[:cap(l)]
	for i := range l {
		l[i] = -5
	}
	callAll(12, ring(12).Arcs)
	callAll(3, full(2, 2))
	callAll(3, full(0, 1))
	for range 20 {
		if l, e := Trail(g); e != api.OK || !slices.Equal(l, first) {
			t.Errorf("%v %d, at first %v", l, e, first)
		}
	}
}
