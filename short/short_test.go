package short

import (
	"math"
	"math/rand"
	"slices"
	"testing"

	"weirmaster/api"
	"weirmaster/walk"
)

// arcs by their numbers: From, To and Cap of each.
func arcs(numbers ...int) []api.Arc {
	var list []api.Arc
	for c := range slices.Chunk(numbers, 3) {
		list = append(list, api.Arc{From: c[0], To: c[1], Cap: c[2]})
	}
	return list
}

// alike: n times the same arc.
func alike(n, from, to, long int) []api.Arc {
	return slices.Repeat(arcs(from, to, long), n)
}

// line: n nodes, each with an arc to the next one, of the same length.
func line(n, long int) api.Graph {
	g := api.Graph{N: n}
	for v := 1; v < n; v++ {
		g.Arcs = append(g.Arcs, api.Arc{From: v - 1, To: v, Cap: long})
	}
	return g
}

// backwards: the same graph, its arcs told from the last to the first.
func backwards(g api.Graph) api.Graph {
	l := slices.Clone(g.Arcs)
	slices.Reverse(l)
	return api.Graph{N: g.N, Arcs: l}
}

// closed: a line of n nodes, and an arc of so much from its end to its beginning.
func closed(n, long, last int) api.Graph {
	g := line(n, long)
	g.Arcs = append(g.Arcs, api.Arc{From: n - 1, To: 0, Cap: last})
	return g
}

// steps: the first n of 0, 1, 2, .. times d.
func steps(n, d int) []int {
	l := make([]int, n)
	for i := range l {
		l[i] = i * d
	}
	return l
}

// signs: of a text of 1 and 0, where a 1 stands.
func signs(text string) []bool {
	l := make([]bool, len(text))
	for i := range l {
		l[i] = text[i] == '1'
	}
	return l
}

// longCases: graphs that graph.CheckLong does not let pass.
var longCases = []struct {
	name string
	g    api.Graph
	want api.Errno
}{
	{"no node", api.Graph{}, api.ErrArg},
	{"below 0", api.Graph{N: -1}, api.ErrArg},
	{"13 nodes", line(13, 1), api.ErrArg},
	{"least int", api.Graph{N: math.MinInt}, api.ErrArg},
	{"greatest int", api.Graph{N: math.MaxInt}, api.ErrArg},
	{"61 arcs", api.Graph{N: 2, Arcs: alike(61, 0, 1, 1)}, api.ErrLarge},
	{"61 arcs, bad ones", api.Graph{N: 2, Arcs: alike(61, 0, 2, 1)}, api.ErrLarge},
	{"61 loops below 0", api.Graph{N: 2, Arcs: alike(61, 0, 0, -1)}, api.ErrLarge},
	{"From at N", api.Graph{N: 2, Arcs: arcs(2, 0, 1)}, api.ErrNode},
	{"To below 0", api.Graph{N: 2, Arcs: arcs(0, -1, 1)}, api.ErrNode},
	{"a bad arc behind a loop below 0", api.Graph{N: 2, Arcs: arcs(0, 0, -1, 1, 2, 1)}, api.ErrNode},
	{"Cap 10001", api.Graph{N: 2, Arcs: arcs(0, 1, 10001)}, api.ErrArg},
	{"Cap -10001", api.Graph{N: 2, Arcs: arcs(0, 1, -10001)}, api.ErrArg},
	{"a loop's Cap", api.Graph{N: 2, Arcs: arcs(0, 1, 1, 1, 1, -10001)}, api.ErrArg},
	{"a node ahead of a Cap", api.Graph{N: 2, Arcs: arcs(0, 2, 10001)}, api.ErrNode},
	{"a Cap ahead of the next arc's node", api.Graph{N: 2, Arcs: arcs(0, 1, 10001, 0, 2, 1)}, api.ErrArg},
}

// P19, P20, P21: CheckLong's error, with nothing beside it, ahead of all others.
func TestCheckLongIsTold(t *testing.T) {
	for _, c := range longCases {
		for _, s := range []int{math.MinInt, -1, 0, 1, 2, 99} {
			if far, there, e := From(c.g, s); far != nil || there != nil || e != c.want {
				t.Errorf("%s: From %d %v %v %d, not %d alone", c.name, s, far, there, e, c.want)
			}
		}
		if far, e := Heights(c.g); far != nil || e != c.want {
			t.Errorf("%s: Heights %v %d, not %d alone", c.name, far, e, c.want)
		}
		if far, there, e := All(c.g); far != nil || there != nil || e != c.want {
			t.Errorf("%s: All %v %v %d, not %d alone", c.name, far, there, e, c.want)
		}
	}
}

// P19.
func TestFrom(t *testing.T) {
	fork := api.Graph{N: 4, Arcs: arcs(0, 1, 5, 0, 2, 4, 2, 1, -2)}
	aside := api.Graph{N: 4, Arcs: arcs(0, 1, 3, 2, 3, 1, 3, 2, -2, 2, 0, 1)}
	cases := []struct {
		name  string
		g     api.Graph
		s     int
		far   []int
		there string
	}{
		{"one node", api.Graph{N: 1}, 0, []int{0}, "1"},
		{"one node and loops", api.Graph{N: 1, Arcs: arcs(0, 0, 5, 0, 0, 0)}, 0, []int{0}, "1"},
		{"no arcs", api.Graph{N: 3, Arcs: []api.Arc{}}, 1, []int{0, 0, 0}, "010"},
		{"4 and -2 are shorter than 5", fork, 0, []int{0, 2, 4, 0}, "1110"},
		{"not against an arc", fork, 1, []int{0, 0, 0, 0}, "0100"},
		{"below 0", fork, 2, []int{0, -2, 0, 0}, "0110"},
		{"from the last node", fork, 3, []int{0, 0, 0, 0}, "0001"},
		{"a loop below 0 to which no way leads", aside, 0, []int{0, 3, 0, 0}, "1100"},
		{"that, from the next node", aside, 1, []int{0, 0, 0, 0}, "0100"},
		{"an arc of 0 leads there", line(3, 0), 1, []int{0, 0, 0}, "011"},
		{"the shortest of three", api.Graph{N: 2, Arcs: arcs(0, 1, 5, 0, 1, -6, 0, 1, 7)}, 0, []int{0, -6}, "11"},
		{"one arc is shorter than two", api.Graph{N: 3, Arcs: arcs(0, 1, 3, 1, 2, 3, 0, 2, 5)}, 0, []int{0, 3, 5}, "111"},
		{"a loop of 0", closed(3, 1, -2), 0, []int{0, 1, 2}, "111"},
		{"a loop of 0, from elsewhere", closed(3, 1, -2), 2, []int{-2, -1, 0}, "111"},
		{"a loop above 0 is not gone", closed(3, -1, 3), 0, []int{0, -1, -2}, "111"},
		{"as far as can be", line(12, 10000), 0, steps(12, 10000), "111111111111"},
		{"as near as can be", line(12, -10000), 0, steps(12, -10000), "111111111111"},
		{"eleven arcs, told from the last on", backwards(line(12, -10000)), 0, steps(12, -10000), "111111111111"},
		{"twelve arcs, a loop of 0", backwards(closed(12, -3, 33)), 0, steps(12, -3), "111111111111"},
		{"sixty alike", api.Graph{N: 12, Arcs: alike(60, 11, 0, 8)}, 11, []int{8, 0, 0, 0, 0, 0, 0, 0, 0, 0, 0, 0}, "100000000001"},
	}
	for _, c := range cases {
		far, there, e := From(c.g, c.s)
		if e != api.OK || !slices.Equal(far, c.far) || !slices.Equal(there, signs(c.there)) {
			t.Errorf("%s: %v %v %d, not %v %s", c.name, far, there, e, c.far, c.there)
		}
	}
}

// P19: what is wrong, with nothing beside it.
func TestFromErrors(t *testing.T) {
	behind := api.Graph{N: 4, Arcs: arcs(0, 1, 9, 1, 2, 1, 2, 1, -2, 2, 3, 5)}
	cases := []struct {
		name string
		g    api.Graph
		s    int
		want api.Errno
	}{
		{"below 0", line(3, 1), -1, api.ErrNode},
		{"at N", line(3, 1), 3, api.ErrNode},
		{"least int", line(3, 1), math.MinInt, api.ErrNode},
		{"greatest int", line(3, 1), math.MaxInt, api.ErrNode},
		{"no node, ahead of a loop", closed(3, -1, -1), 3, api.ErrNode},
		{"one node's loop", api.Graph{N: 1, Arcs: arcs(0, 0, -1)}, 0, api.ErrLoop},
		{"a loop beside one above 0", api.Graph{N: 2, Arcs: arcs(1, 1, 9, 1, 1, -1, 0, 1, 0)}, 0, api.ErrLoop},
		{"a loop of two, from afar", behind, 0, api.ErrLoop},
		{"a loop of two, from itself", behind, 1, api.ErrLoop},
		{"a loop of two, from its other node", behind, 2, api.ErrLoop},
		{"a loop of twelve", closed(12, 1, -12), 7, api.ErrLoop},
		{"a loop of twelve, told from the last on", backwards(closed(12, -1, 10)), 0, api.ErrLoop},
		{"great numbers that come to -1", backwards(closed(12, 909, -10000)), 5, api.ErrLoop},
		{"a loop at the end of a line", api.Graph{N: 12, Arcs: append(line(12, 10000).Arcs, arcs(11, 11, -1)...)}, 0, api.ErrLoop},
		{"all at the least Cap", api.Graph{N: 12, Arcs: alike(60, 3, 3, -10000)}, 3, api.ErrLoop},
	}
	for _, c := range cases {
		if far, there, e := From(c.g, c.s); far != nil || there != nil || e != c.want {
			t.Errorf("%s: %v %v %d, not %d alone", c.name, far, there, e, c.want)
		}
	}
	if far, there, e := From(behind, 3); e != api.OK || !slices.Equal(far, make([]int, 4)) || !slices.Equal(there, signs("0001")) {
		t.Error("from a node behind the loop:", far, there, e)
	}
}

// P20.
func TestHeights(t *testing.T) {
	cases := []struct {
		name string
		g    api.Graph
		want []int
	}{
		{"one node", api.Graph{N: 1}, []int{0}},
		{"a loop of 0", api.Graph{N: 1, Arcs: arcs(0, 0, 0)}, []int{0}},
		{"twelve apart", api.Graph{N: 12}, make([]int, 12)},
		{"4 and -2", api.Graph{N: 4, Arcs: arcs(0, 1, 5, 0, 2, 4, 2, 1, -2)}, []int{0, -2, 0, 0}},
		{"none is above 0", line(5, 7), make([]int, 5)},
		{"from whichever is best", api.Graph{N: 4, Arcs: arcs(0, 3, -2, 1, 3, -5, 2, 3, -4)}, []int{0, 0, 0, -5}},
		{"begin behind a long arc", api.Graph{N: 3, Arcs: arcs(0, 1, 6, 1, 2, -5)}, []int{0, 0, -5}},
		{"begin ahead of a short one", api.Graph{N: 3, Arcs: arcs(0, 1, -6, 1, 2, 5)}, []int{0, -6, -1}},
		{"a round of 0", closed(3, 1, -2), []int{-2, -1, 0}},
		{"two parts", api.Graph{N: 4, Arcs: arcs(3, 2, -1, 0, 1, -8)}, []int{0, -8, -1, 0}},
		{"as little as can be", line(12, -10000), steps(12, -10000)},
		{"that, told from the last on", backwards(line(12, -10000)), steps(12, -10000)},
		{"a round of 0 of twelve", backwards(closed(12, -3, 33)), steps(12, -3)},
	}
	for _, c := range cases {
		if far, e := Heights(c.g); e != api.OK || !slices.Equal(far, c.want) {
			t.Errorf("%s: %v %d, not %v", c.name, far, e, c.want)
		}
	}
}

// P20, P21: a loop below 0 anywhere, with nothing beside it.
func TestLoopAnywhere(t *testing.T) {
	cases := []struct {
		name string
		g    api.Graph
	}{
		{"one node's", api.Graph{N: 1, Arcs: arcs(0, 0, -1)}},
		{"the last node's, apart", api.Graph{N: 12, Arcs: append(line(11, 4).Arcs, arcs(11, 11, -1)...)}},
		{"of two, from which one comes to all", api.Graph{N: 4, Arcs: arcs(3, 2, 1, 2, 3, -2, 2, 1, 5, 1, 0, 5)}},
		{"of two, to which none leads from 0", api.Graph{N: 4, Arcs: arcs(0, 1, 3, 2, 3, 1, 3, 2, -2, 2, 0, 1)}},
		{"of twelve", closed(12, 1, -12)},
		{"of twelve, told from the last on", backwards(closed(12, -1, 10))},
		{"of twelve, of great numbers that come to -1", closed(12, 909, -10000)},
	}
	for _, c := range cases {
		if far, e := Heights(c.g); far != nil || e != api.ErrLoop {
			t.Errorf("%s: Heights %v %d", c.name, far, e)
		}
		if far, there, e := All(c.g); far != nil || there != nil || e != api.ErrLoop {
			t.Errorf("%s: All %v %v %d", c.name, far, there, e)
		}
	}
}

// P21.
func TestAll(t *testing.T) {
	g := api.Graph{N: 4, Arcs: arcs(0, 1, 5, 0, 2, 4, 2, 1, -2)}
	far, there, e := All(g)
	wantFar := [][]int{{0, 2, 4, 0}, {0, 0, 0, 0}, {0, -2, 0, 0}, {0, 0, 0, 0}}
	wantThere := [][]bool{signs("1110"), signs("0100"), signs("0110"), signs("0001")}
	if e != api.OK || !slices.EqualFunc(far, wantFar, slices.Equal) || !slices.EqualFunc(there, wantThere, slices.Equal) {
		t.Error(far, there, e)
	}
	far, there, e = All(api.Graph{N: 1})
	if e != api.OK || len(far) != 1 || len(there) != 1 || !slices.Equal(far[0], []int{0}) || !slices.Equal(there[0], signs("1")) {
		t.Error(far, there, e)
	}
}

// table: by trying what is asked of all nodes at one time. loop tells of which nodes a way below 0 leads to itself.
type table struct {
	far   [][]int
	there [][]bool
	loop  []bool
}

func newTable(n int) table {
	w := table{loop: make([]bool, n)}
	for v := range n {
		w.far = append(w.far, make([]int, n))
		w.there = append(w.there, make([]bool, n))
		w.there[v][v] = true
	}
	return w
}

// byWays goes all ways that come to no node twice, but back to where they began, perhaps. A way below 0 from a node
// to itself has such a one in it, at one of its nodes.
func byWays(g api.Graph) table {
	w := newTable(g.N)
	small := make([]bool, g.N)
	for s := range g.N {
		var goOn func(v, long int, seen uint)
		goOn = func(v, long int, seen uint) {
			if !w.there[s][v] || long < w.far[s][v] {
				w.there[s][v], w.far[s][v] = true, long
			}
			for _, a := range g.Arcs {
				if a.From != v {
					continue
				}
				if a.To == s {
					small[s] = small[s] || long+a.Cap < 0
				} else if seen>>a.To&1 == 0 {
					goOn(a.To, long+a.Cap, seen|1<<a.To)
				}
			}
		}
		goOn(s, 0, 1<<s)
	}
	// A node has a way below 0 to itself just if it comes to a small loop, and from there back: that may be gone
	// as often as one likes.
	for v := range g.N {
		for u := range g.N {
			w.loop[v] = w.loop[v] || small[u] && w.there[v][u] && w.there[u][v]
		}
	}
	return w
}

// bySquares lets ways come over one more node at a time. Its lengths hold only of nodes that come to no loop.
func bySquares(g api.Graph) table {
	w := newTable(g.N)
	take := func(u, v, long int) {
		if !w.there[u][v] || long < w.far[u][v] {
			w.there[u][v], w.far[u][v] = true, long
		}
	}
	for _, a := range g.Arcs {
		take(a.From, a.To, a.Cap)
	}
	for m := range g.N {
		for u := range g.N {
			for v := range g.N {
				if w.there[u][m] && w.there[m][v] {
					take(u, v, max(w.far[u][m]+w.far[m][v], -1<<40))
				}
			}
		}
	}
	for v := range g.N {
		w.loop[v] = w.far[v][v] < 0
	}
	return w
}

// check holds all three calls against a table; it tells whether there is a loop.
func check(t *testing.T, g api.Graph, w table) bool {
	t.Helper()
	heights := make([]int, g.N)
	for s := range g.N {
		far, there, e := From(g, s)
		ends := slices.ContainsFunc(steps(g.N, 1), func(v int) bool { return w.there[s][v] && w.loop[v] })
		if ends && (far != nil || there != nil || e != api.ErrLoop) {
			t.Fatalf("%v, from %d: %v %v %d, not a loop", g, s, far, there, e)
		}
		if !ends && (e != api.OK || !slices.Equal(far, w.far[s]) || !slices.Equal(there, w.there[s])) {
			t.Fatalf("%v, from %d: %v %v %d, not %v %v", g, s, far, there, e, w.far[s], w.there[s])
		}
		for v := range heights {
			heights[v] = min(heights[v], w.far[s][v])
		}
	}
	h, e := Heights(g)
	far, there, f := All(g)
	if slices.Contains(w.loop, true) {
		if h != nil || e != api.ErrLoop || far != nil || there != nil || f != api.ErrLoop {
			t.Fatalf("%v: %v %d, %v %v %d, not a loop", g, h, e, far, there, f)
		}
		return true
	}
	if e != api.OK || !slices.Equal(h, heights) {
		t.Fatalf("%v: %v %d, not %v", g, h, e, heights)
	}
	if f != api.OK || !slices.EqualFunc(far, w.far, slices.Equal) || !slices.EqualFunc(there, w.there, slices.Equal) {
		t.Fatalf("%v: %v %v %d, not %v %v", g, far, there, f, w.far, w.there)
	}
	return false
}

// drawn: a graph of n nodes with so many arcs, whose numbers Cap are from least to most.
func drawn(r *rand.Rand, n, many, least, most int) api.Graph {
	g := api.Graph{N: n}
	for range many {
		g.Arcs = append(g.Arcs, api.Arc{From: r.Intn(n), To: r.Intn(n), Cap: least + r.Intn(most-least+1)})
	}
	return g
}

// lean: drawn, and each node given a height by which its arcs are longer or shorter: that changes no loop.
func lean(r *rand.Rand, n, many, least, most, high int) api.Graph {
	g := drawn(r, n, many, least, most)
	heights := make([]int, n)
	for v := range heights {
		heights[v] = r.Intn(high + 1)
	}
	for k, a := range g.Arcs {
		g.Arcs[k].Cap += heights[a.To] - heights[a.From]
	}
	return g
}

// P19, P20, P21, of all lists of few arcs with Cap -1, 0 or 1.
func TestAllOfFewArcs(t *testing.T) {
	for _, size := range []struct{ n, most int }{{1, 4}, {2, 4}, {3, 3}} {
		checkFrom(t, api.Graph{N: size.n}, size.most)
	}
}

func checkFrom(t *testing.T, g api.Graph, more int) {
	t.Helper()
	check(t, g, byWays(g))
	if more == 0 {
		return
	}
	for i := range 3 * g.N * g.N {
		ends := i / 3
		longer := append(slices.Clone(g.Arcs), api.Arc{From: ends / g.N, To: ends % g.N, Cap: i%3 - 1})
		checkFrom(t, api.Graph{N: g.N, Arcs: longer}, more-1)
	}
}

// P19, P20, P21, by going all ways.
func TestDrawnByWays(t *testing.T) {
	r := rand.New(rand.NewSource(21))
	loops := 0
	for range 3000 {
		least := -r.Intn(3)
		g := lean(r, 1+r.Intn(6), r.Intn(13), least, 5+r.Intn(5), r.Intn(20))
		if check(t, g, byWays(g)) {
			loops++
		}
	}
	if loops < 300 || loops > 2700 {
		t.Error("too many or too few loops:", loops)
	}
}

// P19, P20, P21, up to the greatest graphs and numbers.
func TestDrawnBySquares(t *testing.T) {
	r := rand.New(rand.NewSource(22))
	loops := 0
	for range 2000 {
		least := -r.Intn(900) * r.Intn(2)
		g := lean(r, 1+r.Intn(api.MaxN), r.Intn(api.MaxArcs+1), least, 3000, r.Intn(7000))
		if check(t, g, bySquares(g)) {
			loops++
		}
	}
	if loops < 100 || loops > 1900 {
		t.Error("too many or too few loops:", loops)
	}
}

// P19, P20, P21: rounds over all nodes, in any order of the arcs, just below 0, at 0 and just above it.
func TestLongRounds(t *testing.T) {
	r := rand.New(rand.NewSource(23))
	for range 600 {
		n := 2 + r.Intn(api.MaxN-1)
		for over := -1; over <= 1; over++ {
			g := closed(n, 0, over)
			names := r.Perm(n)
			heights := r.Perm(n)
			for k, a := range g.Arcs {
				g.Arcs[k] = api.Arc{From: names[a.From], To: names[a.To], Cap: a.Cap + heights[a.To] - heights[a.From]}
			}
			r.Shuffle(n, func(i, j int) { g.Arcs[i], g.Arcs[j] = g.Arcs[j], g.Arcs[i] })
			if check(t, g, bySquares(g)) != (over < 0) {
				t.Fatal(g, over)
			}
		}
	}
}

// P19: with arcs of 1 it is as many arcs as package walk tells.
func TestArcsOfOne(t *testing.T) {
	r := rand.New(rand.NewSource(24))
	for range 500 {
		g := drawn(r, 1+r.Intn(api.MaxN), r.Intn(30), 1, 1)
		s := r.Intn(g.N)
		want, _ := walk.Far(g, s)
		far, there, e := From(g, s)
		if e != api.OK || len(far) != g.N || len(there) != g.N {
			t.Fatal(g, s, far, there, e)
		}
		for v, d := range want {
			if far[v] != max(d, 0) || there[v] != (d >= 0) {
				t.Fatal(g, s, far, there, want)
			}
		}
	}
}

// P1.
func TestNothingPanics(t *testing.T) {
	odd := []int{math.MinInt, -10001, -10000, -1, 0, 1, 2, 11, 12, 13, 10001, math.MaxInt}
	for _, n := range odd {
		for _, v := range odd {
			for _, w := range odd {
				callAll(api.Graph{N: n}, v)
				callAll(api.Graph{N: n, Arcs: arcs(v, w, -1)}, v)
				callAll(api.Graph{N: n, Arcs: arcs(0, 0, v, 0, 1, w)}, w)
				callAll(api.Graph{N: n, Arcs: arcs(0, 1, 1, v, w, n)}, 0)
				callAll(api.Graph{N: n, Arcs: alike(61, v, w, 0)}, v)
			}
		}
	}
}

func callAll(g api.Graph, s int) {
	From(g, s)
	Heights(g)
	All(g)
}

// P2: what is handed in stays as it is, the memory behind a list included.
func TestNothingIsChanged(t *testing.T) {
	r := rand.New(rand.NewSource(25))
	for range 300 {
		whole := lean(r, api.MaxN, 3+r.Intn(50), -r.Intn(2), 9, 20).Arcs
		before := slices.Clone(whole)
		callAll(api.Graph{N: api.MaxN, Arcs: whole[:len(whole)-3]}, r.Intn(api.MaxN))
		if !slices.Equal(whole, before) {
			t.Fatal("arcs have changed:", before, whole)
		}
	}
}

// spoil writes over a list, spare memory included.
func spoil[T any](l []T, by T) {
	l = l[:cap(l)]
	for i := range l {
		l[i] = by
	}
}

// P2: nothing is kept, and no list of an answer shares memory with another one of it, or with a later answer.
func TestNothingIsShared(t *testing.T) {
	g := api.Graph{N: 3, Arcs: arcs(0, 1, 4, 1, 2, -6, 0, 2, 1)}
	wantFar := [][]int{{0, 4, -2}, {0, 0, -6}, {0, 0, 0}}
	wantThere := [][]bool{signs("111"), signs("011"), signs("001")}
	for range 3 {
		far, there, e := All(g)
		if e != api.OK || len(far) != 3 || len(there) != 3 {
			t.Fatal(far, there, e)
		}
		for s := range 3 {
			if !slices.Equal(far[s], wantFar[s]) || !slices.Equal(there[s], wantThere[s]) {
				t.Fatal(s, far, there)
			}
			f, k, e := From(g, s)
			if e != api.OK || !slices.Equal(f, wantFar[s]) || !slices.Equal(k, wantThere[s]) {
				t.Fatal(s, f, k, e)
			}
			spoil(f, 77)
			spoil(k, s == 2)
			spoil(far[s], 77)
			spoil(there[s], s == 2)
		}
		spoil(far, nil)
		spoil(there, nil)
		h, e := Heights(g)
		if e != api.OK || !slices.Equal(h, []int{0, 0, -6}) {
			t.Fatal(h, e)
		}
		spoil(h, 77)
		callAll(line(12, -4), 3)
	}
}
