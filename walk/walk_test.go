package walk

import (
	"math"
	"math/rand"
	"slices"
	"testing"

	"weirmaster/api"
)

// arcs by their ends: From and To of each.
func arcs(ends ...int) []api.Arc {
	var list []api.Arc
	for c := range slices.Chunk(ends, 2) {
		list = append(list, api.Arc{From: c[0], To: c[1]})
	}
	return list
}

// line leads from 0 over all others to n-1, its last arc first.
func line(n int) api.Graph {
	g := api.Graph{N: n}
	for v := n - 2; v >= 0; v-- {
		g.Arcs = append(g.Arcs, api.Arc{From: v, To: v + 1})
	}
	return g
}

// ring: n nodes, each with an arc to the next one, the last one's to 0.
func ring(n int) api.Graph {
	g := api.Graph{N: n}
	for v := range n {
		g.Arcs = append(g.Arcs, api.Arc{From: v, To: (v + 1) % n})
	}
	return g
}

// full: 60 times the same arc.
func full(from, to int) []api.Arc {
	return slices.Repeat(arcs(from, to), api.MaxArcs)
}

// P6.
func TestFar(t *testing.T) {
	cases := []struct {
		name string
		g    api.Graph
		s    int
		want []int
	}{
		{"two steps", api.Graph{N: 3, Arcs: arcs(0, 1, 1, 2)}, 0, []int{0, 1, 2}},
		{"not against an arc", api.Graph{N: 3, Arcs: arcs(0, 1, 1, 2)}, 1, []int{-1, 0, 1}},
		{"one node", api.Graph{N: 1}, 0, []int{0}},
		{"a loop is no step", api.Graph{N: 1, Arcs: arcs(0, 0)}, 0, []int{0}},
		{"no arcs", api.Graph{N: 3}, 1, []int{-1, 0, -1}},
		{"back at the start", ring(3), 1, []int{2, 0, 1}},
		{"the short way is told last", api.Graph{N: 4, Arcs: arcs(0, 1, 1, 2, 2, 3, 0, 3)}, 0, []int{0, 1, 2, 1}},
		{"the short way is told first", api.Graph{N: 4, Arcs: arcs(0, 3, 2, 3, 1, 2, 0, 1)}, 0, []int{0, 1, 2, 1}},
		{"twelve in line", line(12), 0, []int{0, 1, 2, 3, 4, 5, 6, 7, 8, 9, 10, 11}},
		{"from the end of the line", line(4), 3, []int{-1, -1, -1, 0}},
		{"sixty alike", api.Graph{N: 12, Arcs: full(11, 0)}, 11, []int{1, -1, -1, -1, -1, -1, -1, -1, -1, -1, -1, 0}},
	}
	for _, c := range cases {
		if l, e := Far(c.g, c.s); e != api.OK || !slices.Equal(l, c.want) {
			t.Errorf("%s: %v %d, not %v", c.name, l, e, c.want)
		}
	}
}

// P7.
func TestPath(t *testing.T) {
	cases := []struct {
		name string
		g    api.Graph
		s, t int
		want []int
	}{
		{"two steps", api.Graph{N: 3, Arcs: arcs(0, 1, 1, 2)}, 0, 2, []int{0, 1}},
		{"none to itself", api.Graph{N: 3, Arcs: arcs(0, 1, 1, 2)}, 1, 1, nil},
		{"none to itself, round or loop", api.Graph{N: 2, Arcs: arcs(0, 0, 0, 1, 1, 0)}, 0, 0, nil},
		{"one node", api.Graph{N: 1}, 0, 0, nil},
		{"one arc is shorter than two", api.Graph{N: 3, Arcs: arcs(0, 1, 1, 2, 0, 2)}, 0, 2, []int{2}},
		{"in the order of the way", line(5), 0, 4, []int{3, 2, 1, 0}},
		{"over a part of the line", line(5), 1, 3, []int{2, 1}},
		{"all twelve", line(12), 0, 11, []int{10, 9, 8, 7, 6, 5, 4, 3, 2, 1, 0}},
		{"round the end", ring(4), 3, 1, []int{3, 0}},
	}
	for _, c := range cases {
		if l, e := Path(c.g, c.s, c.t); e != api.OK || !slices.Equal(l, c.want) {
			t.Errorf("%s: %v %d, not %v", c.name, l, e, c.want)
		}
	}
}

// P7.
func TestPathThereIsNone(t *testing.T) {
	cases := []struct {
		name string
		g    api.Graph
		s, t int
	}{
		{"no arcs", api.Graph{N: 2}, 0, 1},
		{"against the arc", api.Graph{N: 2, Arcs: arcs(0, 1)}, 1, 0},
		{"against the line", line(12), 11, 0},
		{"two parts", api.Graph{N: 4, Arcs: arcs(0, 1, 1, 0, 2, 3, 3, 2)}, 0, 3},
		{"loops lead nowhere", api.Graph{N: 2, Arcs: arcs(0, 0, 1, 1)}, 0, 1},
	}
	for _, c := range cases {
		if l, e := Path(c.g, c.s, c.t); e != api.ErrNone || len(l) != 0 {
			t.Errorf("%s: %v %d", c.name, l, e)
		}
	}
}

// P8.
func TestParts(t *testing.T) {
	cases := []struct {
		name string
		g    api.Graph
		want []int
	}{
		{"one node", api.Graph{N: 1}, []int{0}},
		{"no arcs", api.Graph{N: 3}, []int{0, 1, 2}},
		{"loops join nothing", api.Graph{N: 2, Arcs: arcs(1, 1, 0, 0)}, []int{0, 1}},
		{"either direction", api.Graph{N: 4, Arcs: arcs(3, 1, 2, 1)}, []int{0, 1, 1, 1}},
		{"joined late", api.Graph{N: 5, Arcs: arcs(4, 3, 2, 1, 0, 1, 3, 2)}, []int{0, 0, 0, 0, 0}},
		{"woven", api.Graph{N: 6, Arcs: arcs(5, 3, 4, 2, 3, 1, 2, 0)}, []int{0, 1, 0, 1, 0, 1}},
		{"twelve in line", line(12), make([]int, 12)},
		{"sixty alike", api.Graph{N: 12, Arcs: full(11, 9)}, []int{0, 1, 2, 3, 4, 5, 6, 7, 8, 9, 10, 9}},
	}
	for _, c := range cases {
		if l, e := Parts(c.g); e != api.OK || !slices.Equal(l, c.want) {
			t.Errorf("%s: %v %d, not %v", c.name, l, e, c.want)
		}
	}
}

// P9.
func TestSides(t *testing.T) {
	cases := []struct {
		name string
		g    api.Graph
		want []int
	}{
		{"one node", api.Graph{N: 1}, []int{0}},
		{"no arcs", api.Graph{N: 3}, []int{0, 0, 0}},
		{"there and back", api.Graph{N: 2, Arcs: arcs(1, 0, 0, 1, 1, 0)}, []int{0, 1}},
		{"the least of each part has 0", api.Graph{N: 5, Arcs: arcs(4, 1, 3, 2)}, []int{0, 0, 0, 1, 1}},
		{"arcs that meet", api.Graph{N: 3, Arcs: arcs(1, 0, 1, 2)}, []int{0, 1, 0}},
		{"a round of four", ring(4), []int{0, 1, 0, 1}},
		{"a round of twelve", ring(12), []int{0, 1, 0, 1, 0, 1, 0, 1, 0, 1, 0, 1}},
		{"twelve in line", line(12), []int{0, 1, 0, 1, 0, 1, 0, 1, 0, 1, 0, 1}},
		{"sixty alike", api.Graph{N: 2, Arcs: full(1, 0)}, []int{0, 1}},
	}
	for _, c := range cases {
		if l, e := Sides(c.g); e != api.OK || !slices.Equal(l, c.want) {
			t.Errorf("%s: %v %d, not %v", c.name, l, e, c.want)
		}
	}
}

// P9.
func TestSidesThereAreNone(t *testing.T) {
	cases := []struct {
		name string
		g    api.Graph
	}{
		{"a loop", api.Graph{N: 1, Arcs: arcs(0, 0)}},
		{"a loop at the end", api.Graph{N: 3, Arcs: arcs(0, 1, 1, 2, 2, 2)}},
		{"a round of three", ring(3)},
		{"a round of eleven", ring(11)},
		{"three, not all one way", api.Graph{N: 3, Arcs: arcs(0, 1, 0, 2, 1, 2)}},
		{"in the last part", api.Graph{N: 5, Arcs: arcs(0, 1, 2, 3, 3, 4, 4, 2)}},
		{"sixty loops", api.Graph{N: 12, Arcs: full(11, 11)}},
	}
	for _, c := range cases {
		if l, e := Sides(c.g); e != api.ErrLoop || len(l) != 0 {
			t.Errorf("%s: %v %d", c.name, l, e)
		}
	}
}

// steps by another method: a way over each node is tried for each two.
func steps(g api.Graph) [][]int {
	const none = 1000
	d := make([][]int, g.N)
	for v := range d {
		d[v] = slices.Repeat([]int{none}, g.N)
		d[v][v] = 0
	}
	for _, a := range g.Arcs {
		d[a.From][a.To] = min(d[a.From][a.To], 1)
	}
	for m := range g.N {
		for v := range g.N {
			for w := range g.N {
				d[v][w] = min(d[v][w], d[v][m]+d[m][w])
			}
		}
	}
	for v := range g.N {
		for w := range g.N {
			if d[v][w] >= none {
				d[v][w] = -1
			}
		}
	}
	return d
}

// isWay: the arcs lead from s to t, and are as many as they should be.
func isWay(g api.Graph, way []int, s, t, long int) bool {
	for _, k := range way {
		if k < 0 || k >= len(g.Arcs) || g.Arcs[k].From != s {
			return false
		}
		s = g.Arcs[k].To
	}
	return s == t && len(way) == long
}

func checkWays(t *testing.T, g api.Graph) {
	t.Helper()
	d := steps(g)
	for v := range g.N {
		if l, e := Far(g, v); e != api.OK || !slices.Equal(l, d[v]) {
			t.Fatalf("%v: Far of %d: %v %d, not %v", g, v, l, e, d[v])
		}
		for w := range g.N {
			way, e := Path(g, v, w)
			if d[v][w] < 0 {
				if e != api.ErrNone || len(way) != 0 {
					t.Fatalf("%v: Path %d %d: %v %d", g, v, w, way, e)
				}
			} else if e != api.OK || !isWay(g, way, v, w, d[v][w]) {
				t.Fatalf("%v: Path %d %d: %v %d", g, v, w, way, e)
			}
		}
	}
}

func checkJoined(t *testing.T, g api.Graph) {
	t.Helper()
	either := g
	for _, a := range g.Arcs {
		either.Arcs = append(slices.Clone(either.Arcs), api.Arc{From: a.To, To: a.From})
	}
	want := make([]int, g.N)
	for v, row := range steps(either) {
		want[v] = slices.IndexFunc(row, func(d int) bool { return d >= 0 })
	}
	if l, e := Parts(g); e != api.OK || !slices.Equal(l, want) {
		t.Fatalf("%v: Parts %v %d, not %v", g, l, e, want)
	}
	sides := trySides(g, want)
	l, e := Sides(g)
	if sides == nil && (e != api.ErrLoop || len(l) != 0) || sides != nil && (e != api.OK || !slices.Equal(l, sides)) {
		t.Fatalf("%v: Sides %v %d, not %v", g, l, e, sides)
	}
}

// trySides goes through all sides there are: nil if none will do.
func trySides(g api.Graph, least []int) []int {
	for bits := range 1 << g.N {
		side := func(v int) int { return bits >> v & 1 }
		good := !slices.ContainsFunc(g.Arcs, func(a api.Arc) bool { return side(a.From) == side(a.To) })
		good = good && !slices.ContainsFunc(least, func(v int) bool { return side(v) == 1 })
		if good {
			sides := make([]int, g.N)
			for v := range sides {
				sides[v] = side(v)
			}
			return sides
		}
	}
	return nil
}

// P6 to P9, of all graphs of three nodes that have each arc at most once.
func TestAllOfThreeNodes(t *testing.T) {
	for bits := range 1 << 9 {
		g := api.Graph{N: 3}
		for i := range 9 {
			if bits>>i&1 == 1 {
				g.Arcs = append(g.Arcs, api.Arc{From: i / 3, To: i % 3})
			}
		}
		checkWays(t, g)
		checkJoined(t, g)
	}
}

// P6 to P9, of graphs of all sizes, with few arcs and with many.
func TestManyGraphs(t *testing.T) {
	r := rand.New(rand.NewSource(2))
	for range 1500 {
		g := api.Graph{N: 1 + r.Intn(api.MaxN)}
		for range r.Intn([]int{6, 14, api.MaxArcs + 1}[r.Intn(3)]) {
			a := api.Arc{From: r.Intn(g.N), To: r.Intn(g.N), Cap: r.Intn(2*api.MaxCap+1) - api.MaxCap}
			g.Arcs = append(g.Arcs, a)
		}
		checkWays(t, g)
		checkJoined(t, g)
		for i, a := range g.Arcs {
			// So that some have sides: each arc leads from an even node to an odd one, or back.
			if g.N > 1 && a.From%2 == a.To%2 {
				g.Arcs[i].To ^= 1
				if g.Arcs[i].To >= g.N {
					g.Arcs[i].To -= 2
				}
			}
		}
		checkWays(t, g)
		checkJoined(t, g)
	}
}

// P6 to P9: the numbers Cap change nothing.
func TestCapIsNotLookedAt(t *testing.T) {
	for _, length := range []int{-10000, -1, 0, 1, 10000} {
		g := api.Graph{N: 4, Arcs: arcs(0, 1, 1, 2, 0, 3, 3, 2)}
		g.Arcs[1].Cap = length
		g.Arcs[2].Cap = -length
		checkWays(t, g)
		checkJoined(t, g)
	}
}

// badGraphs: what CheckLong does not let pass, and the error it tells.
var badGraphs = []struct {
	name string
	g    api.Graph
	want api.Errno
}{
	{"no node", api.Graph{}, api.ErrArg},
	{"below 0", api.Graph{N: -1}, api.ErrArg},
	{"13 nodes", api.Graph{N: 13}, api.ErrArg},
	{"greatest int", api.Graph{N: math.MaxInt}, api.ErrArg},
	{"61 arcs", api.Graph{N: 1, Arcs: make([]api.Arc, 61)}, api.ErrLarge},
	{"From at N", api.Graph{N: 2, Arcs: arcs(2, 0)}, api.ErrNode},
	{"To below 0", api.Graph{N: 2, Arcs: arcs(0, -1)}, api.ErrNode},
	{"Cap 10001", api.Graph{N: 2, Arcs: []api.Arc{{To: 1, Cap: 10001}}}, api.ErrArg},
	{"Cap -10001", api.Graph{N: 2, Arcs: []api.Arc{{To: 1, Cap: -10001}}}, api.ErrArg},
	{"Cap ahead of a loop", api.Graph{N: 2, Arcs: []api.Arc{{Cap: 10001}}}, api.ErrArg},
	{"a node behind a loop", api.Graph{N: 1, Arcs: arcs(0, 0, 0, 1)}, api.ErrNode},
}

func isError(t *testing.T, name string, l []int, e, want api.Errno) {
	t.Helper()
	if e != want || len(l) != 0 {
		t.Errorf("%s: %v %d, not %d alone", name, l, e, want)
	}
}

// P6 to P9: CheckLong's error ahead of all others, with nothing beside it.
func TestCheckLongIsToldFirst(t *testing.T) {
	for _, c := range badGraphs {
		for _, v := range []int{0, -1, 99} {
			l, e := Far(c.g, v)
			isError(t, c.name+": Far", l, e, c.want)
			for _, w := range []int{0, -1, 99} {
				l, e = Path(c.g, v, w)
				isError(t, c.name+": Path", l, e, c.want)
			}
		}
		l, e := Parts(c.g)
		isError(t, c.name+": Parts", l, e, c.want)
		l, e = Sides(c.g)
		isError(t, c.name+": Sides", l, e, c.want)
	}
}

// P6 and P7: what is no node, as s or as t; ErrNode is told ahead of ErrNone.
func TestNoNode(t *testing.T) {
	for _, g := range []api.Graph{{N: 3}, {N: 3, Arcs: arcs(0, 1, 1, 2, 2, 0)}} {
		for _, v := range []int{-1, 3, 12, math.MinInt, math.MaxInt} {
			l, e := Far(g, v)
			isError(t, "Far", l, e, api.ErrNode)
			l, e = Path(g, v, 0)
			isError(t, "Path from none", l, e, api.ErrNode)
			l, e = Path(g, 0, v)
			isError(t, "Path to none", l, e, api.ErrNode)
			l, e = Path(g, v, v)
			isError(t, "Path from none to none", l, e, api.ErrNode)
		}
	}
}

// P1.
func TestNothingPanics(t *testing.T) {
	odd := []int{math.MinInt, -10001, -1, 0, 1, 2, 12, 13, 10001, math.MaxInt}
	for _, n := range odd {
		for _, v := range odd {
			for _, w := range odd {
				callAll(n, v, w, nil)
				callAll(n, v, w, arcs(v, w))
				callAll(n, v, w, arcs(0, 0, v, w, 0, 1, 1, 0))
				callAll(n, v, w, []api.Arc{{To: 1, Cap: v}, {Cap: w}})
				callAll(n, v, w, append(full(v, w), full(0, 0)...))
			}
		}
	}
}

func callAll(n, v, w int, list []api.Arc) {
	g := api.Graph{N: n, Arcs: list}
	Far(g, v)
	Path(g, v, w)
	Parts(g)
	Sides(g)
}

func fill(l []int) {
	l = l[:cap(l)]
	for i := range l {
		l[i] = -5
	}
}

// P2: what is handed in stays as it is, the memory behind its list included.
func TestNothingIsChanged(t *testing.T) {
	whole := []api.Arc{{From: 2, To: 3, Cap: -4}, {From: 0, To: 1, Cap: 5}, {From: 1, To: 2}, {From: 9, To: 9, Cap: 9}, {From: 9}}
	before := slices.Clone(whole)
	g := api.Graph{N: 5, Arcs: whole[:3]}
	for v := -1; v <= g.N; v++ {
		Far(g, v)
		for w := -1; w <= g.N; w++ {
			Path(g, v, w)
		}
	}
	Parts(g)
	Sides(g)
	if !slices.Equal(whole, before) {
		t.Error("what was handed in has changed:", whole)
	}
}

// P2: nothing is kept: an answer that was written over does not come back, and the same is answered each time.
func TestNothingIsKept(t *testing.T) {
	g := api.Graph{N: 6, Arcs: arcs(0, 1, 0, 2, 1, 3, 2, 3, 0, 1, 4, 5)}
	calls := []func() ([]int, api.Errno){
		func() ([]int, api.Errno) { return Far(g, 0) },
		func() ([]int, api.Errno) { return Path(g, 0, 3) },
		func() ([]int, api.Errno) { return Parts(g) },
		func() ([]int, api.Errno) { return Sides(g) },
	}
	var first [][]int
	for _, call := range calls {
		l, _ := call()
		first = append(first, slices.Clone(l))
		fill(l)
	}
	callAll(12, 11, 0, ring(12).Arcs)
	callAll(3, 0, 1, full(2, 2))
	for i, call := range calls {
		if l, e := call(); e != api.OK || !slices.Equal(l, first[i]) {
			t.Errorf("call %d: %v %d, at first %v", i, l, e, first[i])
		}
	}
}
