package tree

import (
	"math"
	"math/big"
	"math/bits"
	"math/rand"
	"slices"
	"testing"

	"weirmaster/api"
)

// arcs by their ends: From and To of each.
func arcs(ends ...int) []api.Arc {
	var list []api.Arc
	for c := range slices.Chunk(ends, 2) {
		list = append(list, api.Arc{From: c[0], To: c[1]})
	}
	return list
}

// alike: n times the same arc.
func alike(n, from, to int) []api.Arc {
	return slices.Repeat(arcs(from, to), n)
}

// line: n nodes, each with an arc to the next one.
func line(n int) api.Graph {
	g := api.Graph{N: n}
	for v := 1; v < n; v++ {
		g.Arcs = append(g.Arcs, api.Arc{From: v - 1, To: v})
	}
	return g
}

// ring is a line whose last node has an arc to 0.
func ring(n int) api.Graph {
	g := line(n)
	g.Arcs = append(g.Arcs, api.Arc{From: n - 1})
	return g
}

// star: n nodes, each with an arc to the middle one.
func star(n, middle int) api.Graph {
	g := api.Graph{N: n}
	for v := range n {
		if v != middle {
			g.Arcs = append(g.Arcs, api.Arc{From: v, To: middle})
		}
	}
	return g
}

// complete: n nodes, any two with an arc.
func complete(n int) api.Graph {
	g := api.Graph{N: n}
	for v := range n {
		for w := range v {
			g.Arcs = append(g.Arcs, api.Arc{From: v, To: w})
		}
	}
	return g
}

// between: a nodes and b others, each with an arc to each of the others.
func between(a, b int) api.Graph {
	g := api.Graph{N: a + b}
	for v := range a {
		for w := range b {
			g.Arcs = append(g.Arcs, api.Arc{From: v, To: a + w})
		}
	}
	return g
}

// longCases: graphs that graph.CheckLong does not let pass.
var longCases = []struct {
	name string
	g    api.Graph
	want api.Errno
}{
	{"no node", api.Graph{}, api.ErrArg},
	{"below 0", api.Graph{N: -1}, api.ErrArg},
	{"13 nodes", api.Graph{N: 13}, api.ErrArg},
	{"13 nodes, a tree", line(13), api.ErrArg},
	{"least int", api.Graph{N: math.MinInt}, api.ErrArg},
	{"greatest int", api.Graph{N: math.MaxInt}, api.ErrArg},
	{"61 arcs", api.Graph{N: 1, Arcs: make([]api.Arc, 61)}, api.ErrLarge},
	{"61 arcs, a bad one", api.Graph{N: 2, Arcs: alike(61, 0, 2)}, api.ErrLarge},
	{"From at N", api.Graph{N: 2, Arcs: arcs(2, 0)}, api.ErrNode},
	{"To below 0", api.Graph{N: 2, Arcs: arcs(0, -1)}, api.ErrNode},
	{"a node behind a tree", api.Graph{N: 2, Arcs: arcs(0, 1, 1, 2)}, api.ErrNode},
	{"Cap 10001", api.Graph{N: 2, Arcs: []api.Arc{{To: 1, Cap: 10001}}}, api.ErrArg},
	{"Cap -10001", api.Graph{N: 2, Arcs: []api.Arc{{To: 1, Cap: -10001}}}, api.ErrArg},
	{"9 nodes and no such node", api.Graph{N: 9, Arcs: arcs(0, 9)}, api.ErrNode},
	{"31 arcs, the last one's Cap", api.Graph{N: 2, Arcs: append(alike(30, 0, 1), api.Arc{Cap: 10001})}, api.ErrArg},
}

// P12, P14, P15: CheckLong's error, with nothing beside it, ahead of all others.
func TestCheckLongIsTold(t *testing.T) {
	for _, c := range longCases {
		if n, e := Count(c.g); n != 0 || e != c.want {
			t.Errorf("%s: Count %d %d, not %d alone", c.name, n, e, c.want)
		}
		if is, e := Is(c.g); is || e != c.want {
			t.Errorf("%s: Is %t %d, not %d alone", c.name, is, e, c.want)
		}
		if l, e := Code(c.g); len(l) != 0 || e != c.want {
			t.Errorf("%s: Code %v %d, not %d alone", c.name, l, e, c.want)
		}
	}
}

// P12.
func TestCount(t *testing.T) {
	cases := []struct {
		name string
		g    api.Graph
		want int
	}{
		{"one node", api.Graph{N: 1}, 1},
		{"one node and loops", api.Graph{N: 1, Arcs: alike(30, 0, 0)}, 1},
		{"two nodes, no arcs", api.Graph{N: 2}, 0},
		{"two nodes, loops alone", api.Graph{N: 2, Arcs: arcs(0, 0, 1, 1)}, 0},
		{"one arc", api.Graph{N: 2, Arcs: arcs(0, 1)}, 1},
		{"one arc, downwards", api.Graph{N: 2, Arcs: arcs(1, 0)}, 1},
		{"there and back", api.Graph{N: 2, Arcs: arcs(0, 1, 1, 0)}, 2},
		{"thirty alike", api.Graph{N: 2, Arcs: alike(30, 0, 1)}, 30},
		{"an arc and loops", api.Graph{N: 2, Arcs: arcs(0, 0, 1, 0, 1, 1)}, 1},
		{"eight nodes, no arcs", api.Graph{N: 8}, 0},
		{"a line", line(8), 1},
		{"a star", star(8, 3), 1},
		{"a round of three", ring(3), 3},
		{"a round of eight", ring(8), 8},
		{"a round and a node apart", api.Graph{N: 8, Arcs: ring(7).Arcs}, 0},
		{"0 apart", api.Graph{N: 3, Arcs: arcs(1, 2, 2, 1)}, 0},
		{"two rounds apart", api.Graph{N: 6, Arcs: arcs(0, 1, 1, 2, 2, 0, 3, 4, 4, 5, 5, 3)}, 0},
		{"an eight", api.Graph{N: 5, Arcs: arcs(0, 1, 1, 2, 2, 0, 2, 3, 3, 4, 4, 2)}, 9},
		{"all of four", complete(4), 16},
		{"all of seven", complete(7), 16807},
		{"all of eight", complete(8), 262144},
		{"all of eight, and two more at the last", api.Graph{N: 8, Arcs: append(complete(8).Arcs, arcs(7, 0, 7, 7)...)}, 327680},
		{"four and four", between(4, 4), 4096},
		{"two and six", between(2, 6), 192},
		{"a line of arcs by five", api.Graph{N: 7, Arcs: slices.Repeat(line(7).Arcs, 5)}, 15625},
	}
	for _, c := range cases {
		if n, e := Count(c.g); n != c.want || e != api.OK {
			t.Errorf("%s: %d %d, not %d", c.name, n, e, c.want)
		}
	}
}

// P12: the errors of what is too large.
func TestCountLarge(t *testing.T) {
	cases := []struct {
		name string
		g    api.Graph
		want api.Errno
	}{
		{"8 nodes", api.Graph{N: 8}, api.OK},
		{"9 nodes", api.Graph{N: 9}, api.ErrLarge},
		{"9 nodes, a tree", line(9), api.ErrLarge},
		{"12 nodes", line(12), api.ErrLarge},
		{"30 arcs", api.Graph{N: 8, Arcs: alike(30, 6, 7)}, api.OK},
		{"31 arcs", api.Graph{N: 2, Arcs: alike(31, 0, 1)}, api.ErrLarge},
		{"31 loops", api.Graph{N: 1, Arcs: alike(31, 0, 0)}, api.ErrLarge},
		{"60 arcs", api.Graph{N: 8, Arcs: alike(60, 0, 1)}, api.ErrLarge},
		{"9 nodes, 31 arcs", api.Graph{N: 9, Arcs: alike(31, 0, 1)}, api.ErrLarge},
	}
	for _, c := range cases {
		if n, e := Count(c.g); n != 0 || e != c.want {
			t.Errorf("%s: %d %d, not 0 %d", c.name, n, e, c.want)
		}
	}
}

// joins: are all nodes joined by the arcs whose bits are set? By names that are made alike, arc by arc.
func joins(g api.Graph, set uint) bool {
	names := make([]int, g.N)
	for v := range names {
		names[v] = v
	}
	for k, a := range g.Arcs {
		if set>>k&1 == 0 {
			continue
		}
		old, now := names[a.From], names[a.To]
		for v := range names {
			if names[v] == old {
				names[v] = now
			}
		}
	}
	return slices.Min(names) == slices.Max(names)
}

// tryAll counts the choices of N-1 arcs by which all are joined, one by one.
func tryAll(g api.Graph) int {
	many := 0
	for set := range uint(1) << len(g.Arcs) {
		if bits.OnesCount(set) == g.N-1 && joins(g, set) {
			many++
		}
	}
	return many
}

func checkCountAndIs(t *testing.T, g api.Graph) {
	t.Helper()
	want := tryAll(g)
	if n, e := Count(g); n != want || e != api.OK {
		t.Fatalf("%v: Count %d %d, not %d", g, n, e, want)
	}
	isTree := len(g.Arcs) == g.N-1 && want == 1
	if is, e := Is(g); is != isTree || e != api.OK {
		t.Fatalf("%v: Is %t %d, not %t", g, is, e, isTree)
	}
	if l, e := Code(g); !isTree && (len(l) != 0 || e != api.ErrForm) {
		t.Fatalf("%v: Code %v %d of what is no tree", g, l, e)
	}
}

// P12, P14, of all lists of few arcs.
func TestAllOfFewArcs(t *testing.T) {
	for _, size := range []struct{ n, most int }{{1, 6}, {2, 5}, {3, 4}, {4, 3}} {
		checkFrom(t, api.Graph{N: size.n}, size.most)
	}
}

func checkFrom(t *testing.T, g api.Graph, more int) {
	t.Helper()
	checkCountAndIs(t, g)
	if more == 0 {
		return
	}
	for i := range g.N * g.N {
		longer := append(slices.Clone(g.Arcs), api.Arc{From: i / g.N, To: i % g.N})
		checkFrom(t, api.Graph{N: g.N, Arcs: longer}, more-1)
	}
}

// drawn: a graph of n nodes with so many arcs, of any Cap that there may be.
func drawn(r *rand.Rand, n, many int) api.Graph {
	g := api.Graph{N: n}
	for range many {
		g.Arcs = append(g.Arcs, api.Arc{From: r.Intn(n), To: r.Intn(n), Cap: r.Intn(2*api.MaxCap+1) - api.MaxCap})
	}
	return g
}

// P12, P14, of graphs by trying all.
func TestDrawn(t *testing.T) {
	r := rand.New(rand.NewSource(6))
	for range 800 {
		checkCountAndIs(t, drawn(r, 1+r.Intn(api.MaxTree), r.Intn(13)))
	}
	for range 800 {
		n := 2 + r.Intn(api.MaxTree-1)
		checkCountAndIs(t, drawn(r, n, n-1))
	}
}

// P12, of graphs too large for that: a tree has an arc or it has not.
func TestCountByOneArc(t *testing.T) {
	r := rand.New(rand.NewSource(7))
	for range 500 {
		g := drawn(r, 2+r.Intn(api.MaxTree-1), 1+r.Intn(api.MaxPairs))
		k := r.Intn(len(g.Arcs))
		a := g.Arcs[k]
		rest := slices.Delete(slices.Clone(g.Arcs), k, k+1)
		all, e := Count(g)
		without, f := Count(api.Graph{N: g.N, Arcs: rest})
		with := 0
		if a.From != a.To {
			with, _ = Count(merged(api.Graph{N: g.N, Arcs: rest}, a.From, a.To))
		}
		if e != api.OK || f != api.OK || all != without+with {
			t.Fatalf("%v: %d %d, but %d without arc %d, %d with it", g, all, e, without, k, with)
		}
	}
}

// merged: v and w are one node.
func merged(g api.Graph, v, w int) api.Graph {
	name := func(x int) int {
		if x == max(v, w) {
			return min(v, w)
		}
		if x > max(v, w) {
			return x - 1
		}
		return x
	}
	h := api.Graph{N: g.N - 1}
	for _, a := range g.Arcs {
		h.Arcs = append(h.Arcs, api.Arc{From: name(a.From), To: name(a.To)})
	}
	return h
}

// square: n rows, of numbers by a function of row and column.
func square(n int, number func(i, j int) int) [][]int {
	m := make([][]int, n)
	for i := range m {
		m[i] = make([]int, n)
		for j := range m[i] {
			m[i][j] = number(i, j)
		}
	}
	return m
}

// diagonal: x where row and column are the same, else 0.
func diagonal(n, x int) [][]int {
	return square(n, func(i, j int) int {
		if i == j {
			return x
		}
		return 0
	})
}

// sylvester: of 9 and -9 so that the determinant of 7 rows is 512 times 9^7, up to its sign.
func sylvester() [][]int {
	return square(7, func(i, j int) int { return 9 - 18*(bits.OnesCount(uint((i+1)&(j+1)))%2) })
}

// P13.
func TestDet(t *testing.T) {
	cases := []struct {
		name string
		m    [][]int
		want int
	}{
		{"no rows", nil, 1},
		{"an empty list", [][]int{}, 1},
		{"one 0", [][]int{{0}}, 0},
		{"one 9", [][]int{{9}}, 9},
		{"one -9", [][]int{{-9}}, -9},
		{"two rows", [][]int{{1, 2}, {3, 4}}, -2},
		{"two rows, changed over", [][]int{{3, 4}, {1, 2}}, 2},
		{"0 in the corner", [][]int{{0, 1}, {1, 0}}, -1},
		{"three rows", [][]int{{0, 1, 2}, {3, 4, 5}, {6, 7, 9}}, -3},
		{"three moved on", [][]int{{0, 1, 0}, {0, 0, 1}, {1, 0, 0}}, 1},
		{"four moved on", [][]int{{0, 1, 0, 0}, {0, 0, 1, 0}, {0, 0, 0, 1}, {1, 0, 0, 0}}, -1},
		{"above the diagonal", [][]int{{2, 9, -9}, {0, 3, 7}, {0, 0, -4}}, -24},
		{"rows in step", [][]int{{1, 2, 3}, {4, 5, 6}, {7, 8, 9}}, 0},
		{"two rows alike", [][]int{{1, 5, 2}, {7, 0, 3}, {1, 5, 2}}, 0},
		{"seven ones", diagonal(7, 1), 1},
		{"seven nines", diagonal(7, 9), 4782969},
		{"seven minus nines", diagonal(7, -9), -4782969},
		{"seven rows of 9", square(7, func(int, int) int { return 9 }), 0},
		{"powers", [][]int{{1, 1, 1, 1}, {0, 1, 2, -1}, {0, 1, 4, 1}, {0, 1, 8, -1}}, -12},
		{"seven rows, nearly as much as can be", sylvester(), 2448880128},
	}
	for _, c := range cases {
		if d, e := Det(c.m); d != c.want || e != api.OK {
			t.Errorf("%s: %d %d, not %d", c.name, d, e, c.want)
		}
	}
}

// P13: errors, which is told first, and nothing beside them.
func TestDetErrors(t *testing.T) {
	cases := []struct {
		name string
		m    [][]int
		want api.Errno
	}{
		{"eight rows", diagonal(8, 1), api.ErrLarge},
		{"eight empty rows", make([][]int, 8), api.ErrLarge},
		{"eight rows of 10", diagonal(8, 10), api.ErrLarge},
		{"a row too many numbers", [][]int{{1, 2}}, api.ErrForm},
		{"an empty row", [][]int{{}}, api.ErrForm},
		{"no row at all", [][]int{nil}, api.ErrForm},
		{"a short row", [][]int{{1, 2}, {3}}, api.ErrForm},
		{"a long row", [][]int{{1, 2}, {3, 4, 5}}, api.ErrForm},
		{"the last of seven rows", append(diagonal(7, 1)[:6], nil), api.ErrForm},
		{"10", [][]int{{10}}, api.ErrArg},
		{"-10", [][]int{{-10}}, api.ErrArg},
		{"the last number", [][]int{{1, 2}, {3, 10}}, api.ErrArg},
		{"least int", [][]int{{math.MinInt}}, api.ErrArg},
		{"greatest int", [][]int{{0, math.MaxInt}, {0, 0}}, api.ErrArg},
		{"form ahead of numbers in a row", [][]int{{10, 10}}, api.ErrForm},
		{"numbers of the first row", [][]int{{1, 10}, {3}}, api.ErrArg},
		{"form of the first row", [][]int{{1}, {3, 10}}, api.ErrForm},
	}
	for _, c := range cases {
		if d, e := Det(c.m); d != 0 || e != c.want {
			t.Errorf("%s: %d %d, not 0 %d", c.name, d, e, c.want)
		}
	}
}

// eliminate reckons a determinant by fractions, row from row.
func eliminate(m [][]int) int {
	rows := make([][]*big.Rat, len(m))
	for i, row := range m {
		for _, x := range row {
			rows[i] = append(rows[i], big.NewRat(int64(x), 1))
		}
	}
	d := big.NewRat(1, 1)
	for i := range rows {
		k := slices.IndexFunc(rows[i:], func(row []*big.Rat) bool { return row[i].Sign() != 0 })
		if k < 0 {
			return 0
		}
		if k > 0 {
			rows[i], rows[i+k] = rows[i+k], rows[i]
			d.Neg(d)
		}
		d.Mul(d, rows[i][i])
		clearBelow(rows, i)
	}
	return int(d.Num().Int64())
}

func clearBelow(rows [][]*big.Rat, i int) {
	for _, row := range rows[i+1:] {
		by := new(big.Rat).Quo(row[i], rows[i][i])
		for j := range row {
			row[j] = new(big.Rat).Sub(row[j], new(big.Rat).Mul(by, rows[i][j]))
		}
	}
}

// P13, of numbers from narrow and from wide bounds, held against elimination.
func TestDetDrawn(t *testing.T) {
	r := rand.New(rand.NewSource(8))
	for i := range 2000 {
		most := 1 + i%api.MaxEntry
		m := square(r.Intn(api.MaxDet+1), func(int, int) int { return r.Intn(2*most+1) - most })
		if d, e := Det(m); d != eliminate(m) || e != api.OK {
			t.Fatalf("%v: %d %d, not %d", m, d, e, eliminate(m))
		}
	}
	for range 500 {
		m := square(api.MaxDet, func(int, int) int { return 18*r.Intn(2) - 9 })
		if d, e := Det(m); d != eliminate(m) || e != api.OK {
			t.Fatalf("%v: %d %d, not %d", m, d, e, eliminate(m))
		}
	}
}

// P14.
func TestIs(t *testing.T) {
	cases := []struct {
		name string
		g    api.Graph
		want bool
	}{
		{"one node", api.Graph{N: 1}, true},
		{"one node, an empty list", api.Graph{N: 1, Arcs: []api.Arc{}}, true},
		{"a loop", api.Graph{N: 1, Arcs: arcs(0, 0)}, false},
		{"two nodes apart", api.Graph{N: 2}, false},
		{"two nodes", line(2), true},
		{"two nodes, downwards", api.Graph{N: 2, Arcs: arcs(1, 0)}, true},
		{"two nodes and a loop", api.Graph{N: 2, Arcs: arcs(1, 1)}, false},
		{"there and back", ring(2), false},
		{"arcs that meet", api.Graph{N: 3, Arcs: arcs(0, 1, 2, 1)}, true},
		{"arcs that part", api.Graph{N: 3, Arcs: arcs(1, 0, 1, 2)}, true},
		{"two alike and a node apart", api.Graph{N: 3, Arcs: arcs(0, 1, 0, 1)}, false},
		{"a round of three", ring(3), false},
		{"a round and a node apart", api.Graph{N: 4, Arcs: ring(3).Arcs}, false},
		{"0 and a round apart", api.Graph{N: 4, Arcs: arcs(1, 2, 2, 3, 3, 1)}, false},
		{"a loop and an arc", api.Graph{N: 3, Arcs: arcs(0, 1, 2, 2)}, false},
		{"a tree and a loop", api.Graph{N: 3, Arcs: arcs(0, 1, 1, 2, 2, 2)}, false},
		{"a line of twelve", line(12), true},
		{"a round of twelve", ring(12), false},
		{"a star of twelve", star(12, 5), true},
		{"a line of eleven, and one apart", api.Graph{N: 12, Arcs: line(11).Arcs}, false},
		{"a round of eleven, and one apart", api.Graph{N: 12, Arcs: ring(11).Arcs}, false},
		{"sixty arcs", api.Graph{N: 12, Arcs: alike(60, 0, 11)}, false},
	}
	for _, c := range cases {
		if is, e := Is(c.g); is != c.want || e != api.OK {
			t.Errorf("%s: Is %t %d, not %t", c.name, is, e, c.want)
		}
		wantCode := api.ErrForm
		if c.want {
			wantCode = api.OK
		}
		if l, e := Code(c.g); e != wantCode || !c.want && len(l) != 0 {
			t.Errorf("%s: Code %v %d, not %d", c.name, l, e, wantCode)
		}
	}
}

// P15.
func TestCode(t *testing.T) {
	cases := []struct {
		name string
		g    api.Graph
		want []int
	}{
		{"one node", api.Graph{N: 1}, nil},
		{"two nodes", line(2), nil},
		{"a line of three", line(3), []int{1}},
		{"0 between", api.Graph{N: 3, Arcs: arcs(2, 0, 1, 0)}, []int{0}},
		{"2 between", api.Graph{N: 3, Arcs: arcs(0, 2, 2, 1)}, []int{2}},
		{"a line of five", line(5), []int{1, 2, 3}},
		{"a line from within", api.Graph{N: 5, Arcs: arcs(4, 2, 2, 0, 0, 1, 3, 1)}, []int{1, 0, 2}},
		{"a star around 0", star(5, 0), []int{0, 0, 0}},
		{"a star around 4", star(5, 4), []int{4, 4, 4}},
		{"two middles", api.Graph{N: 6, Arcs: arcs(0, 3, 3, 1, 2, 3, 3, 4, 5, 4)}, []int{3, 3, 3, 4}},
		{"of the document's form", api.Graph{N: 5, Arcs: arcs(4, 1, 3, 1, 3, 2, 0, 3)}, []int{3, 3, 1}},
		{"a star of twelve", star(12, 7), []int{7, 7, 7, 7, 7, 7, 7, 7, 7, 7}},
	}
	for _, c := range cases {
		if l, e := Code(c.g); e != api.OK || !slices.Equal(l, c.want) {
			t.Errorf("%s: %v %d, not %v", c.name, l, e, c.want)
		}
	}
}

// P16.
func TestDecode(t *testing.T) {
	cases := []struct {
		code []int
		want []api.Arc
	}{
		{nil, arcs(0, 1)},
		{[]int{}, arcs(0, 1)},
		{[]int{0}, arcs(0, 1, 0, 2)},
		{[]int{1}, arcs(0, 1, 1, 2)},
		{[]int{2}, arcs(0, 2, 1, 2)},
		{[]int{0, 0}, arcs(0, 1, 0, 2, 0, 3)},
		{[]int{3, 0}, arcs(1, 3, 0, 2, 0, 3)},
		{[]int{3, 3, 1}, arcs(0, 3, 2, 3, 1, 3, 1, 4)},
		{[]int{1, 0, 2}, arcs(1, 3, 0, 1, 0, 2, 2, 4)},
		{[]int{11, 11, 11, 11, 11, 11, 11, 11, 11, 11}, star(12, 11).Arcs},
		{[]int{1, 2, 3, 4, 5, 6, 7, 8, 9, 10}, line(12).Arcs},
	}
	for _, c := range cases {
		h, e := Decode(c.code)
		if e != api.OK || h.N != len(c.code)+2 || !slices.Equal(h.Arcs, c.want) {
			t.Errorf("%v: %v %d, not %v", c.code, h, e, c.want)
		}
	}
}

// P16: errors, with nothing beside them.
func TestDecodeErrors(t *testing.T) {
	cases := []struct {
		code []int
		want api.Errno
	}{
		{make([]int, 11), api.ErrLarge},
		{[]int{-1, 99, 0, 0, 0, 0, 0, 0, 0, 0, 0}, api.ErrLarge},
		{[]int{3}, api.ErrNode},
		{[]int{-1}, api.ErrNode},
		{[]int{math.MinInt}, api.ErrNode},
		{[]int{math.MaxInt}, api.ErrNode},
		{[]int{0, 4}, api.ErrNode},
		{[]int{4, 0}, api.ErrNode},
		{[]int{0, 0, 0, 0, 0, 0, 0, 0, 0, 12}, api.ErrNode},
		{[]int{0, 0, 0, 0, 0, 0, 0, 0, 0, -1}, api.ErrNode},
	}
	for _, c := range cases {
		if h, e := Decode(c.code); e != c.want || h.N != 0 || len(h.Arcs) != 0 {
			t.Errorf("%v: %v %d, not %d alone", c.code, h, e, c.want)
		}
	}
}

// takeAway does as P15 says, and tells beside the code the arcs in the order in which they go, the last one too.
func takeAway(g api.Graph) ([]int, []api.Arc) {
	rest := slices.Clone(g.Arcs)
	var code []int
	var order []api.Arc
	for len(rest) > 1 {
		v := 0
		for len(atNode(rest, v)) != 1 {
			v++
		}
		k := atNode(rest, v)[0]
		code = append(code, rest[k].From+rest[k].To-v)
		order = append(order, upwards(rest[k]))
		rest = slices.Delete(rest, k, k+1)
	}
	return code, append(order, upwards(rest[0]))
}

// atNode: the places of the arcs at v.
func atNode(list []api.Arc, v int) []int {
	var places []int
	for k, a := range list {
		if a.From == v || a.To == v {
			places = append(places, k)
		}
	}
	return places
}

func upwards(a api.Arc) api.Arc {
	return api.Arc{From: min(a.From, a.To), To: max(a.From, a.To)}
}

// checkPair: Decode tells a tree of which l is the code, in order, and Code tells l.
func checkPair(t *testing.T, l []int) {
	t.Helper()
	h, e := Decode(l)
	if e != api.OK || h.N != len(l)+2 || len(h.Arcs) != len(l)+1 {
		t.Fatalf("%v: Decode %v %d", l, h, e)
	}
	if is, e := Is(h); !is || e != api.OK {
		t.Fatalf("%v: %v is no tree: %d", l, h, e)
	}
	code, order := takeAway(h)
	if !slices.Equal(code, l) || !slices.Equal(order, h.Arcs) {
		t.Fatalf("%v: Decode %v, of which the code is %v, the order %v", l, h, code, order)
	}
	if back, e := Code(h); e != api.OK || !slices.Equal(back, l) {
		t.Fatalf("%v: back from its tree it is %v %d", l, back, e)
	}
}

// P15 and P16, of all codes of at most five nodes.
func TestAllCodes(t *testing.T) {
	for long := range 6 {
		n := long + 2
		many := 1
		for range long {
			many *= n
		}
		for number := range many {
			l := make([]int, long)
			for i := range l {
				l[i] = number % n
				number /= n
			}
			checkPair(t, l)
		}
	}
}

// P15 and P16, of long codes.
func TestLongCodes(t *testing.T) {
	r := rand.New(rand.NewSource(9))
	for range 3000 {
		l := make([]int, r.Intn(api.MaxN-1))
		few := 1 + r.Intn(len(l)+2)
		for i := range l {
			l[i] = len(l) + 1 - r.Intn(few)
		}
		checkPair(t, l)
	}
}

// grown: a tree whose nodes are named, and whose arcs are turned and laid, as they are drawn.
func grown(r *rand.Rand, n int) api.Graph {
	names := r.Perm(n)
	g := api.Graph{N: n}
	for v := 1; v < n; v++ {
		a := api.Arc{From: names[v], To: names[r.Intn(v)], Cap: r.Intn(2*api.MaxCap+1) - api.MaxCap}
		if r.Intn(2) == 0 {
			a.From, a.To = a.To, a.From
		}
		g.Arcs = append(g.Arcs, a)
	}
	r.Shuffle(len(g.Arcs), func(i, j int) { g.Arcs[i], g.Arcs[j] = g.Arcs[j], g.Arcs[i] })
	return g
}

// P14, P15, P16, of trees in any order and direction, with any Cap.
func TestGrown(t *testing.T) {
	r := rand.New(rand.NewSource(10))
	for range 3000 {
		g := grown(r, 2+r.Intn(api.MaxN-1))
		if is, e := Is(g); !is || e != api.OK {
			t.Fatalf("%v: Is %t %d", g, is, e)
		}
		want, order := takeAway(g)
		l, e := Code(g)
		if e != api.OK || !slices.Equal(l, want) {
			t.Fatalf("%v: Code %v %d, not %v", g, l, e, want)
		}
		if h, e := Decode(l); e != api.OK || h.N != g.N || !slices.Equal(h.Arcs, order) {
			t.Fatalf("%v: Decode of its code %v %d, not %v", g, h, e, order)
		}
	}
}

// P12, P14, P15: the numbers Cap change nothing.
func TestCapIsNotLookedAt(t *testing.T) {
	for _, length := range []int{-10000, -1, 1, 10000} {
		for _, g := range []api.Graph{line(8), ring(8), complete(5), star(8, 2), {N: 3, Arcs: arcs(0, 1, 0, 1)}} {
			h := api.Graph{N: g.N, Arcs: slices.Clone(g.Arcs)}
			for i := range h.Arcs {
				h.Arcs[i].Cap = length * (1 - i%3)
			}
			m, e := Count(g)
			if n, f := Count(h); n != m || f != e {
				t.Error("Count", h, n, f)
			}
			is, e := Is(g)
			if now, f := Is(h); now != is || f != e {
				t.Error("Is", h, now, f)
			}
			l, e := Code(g)
			if now, f := Code(h); !slices.Equal(now, l) || f != e {
				t.Error("Code", h, now, f)
			}
		}
	}
}

// P1.
func TestNothingPanics(t *testing.T) {
	odd := []int{math.MinInt, -10001, -1, 0, 1, 2, 8, 9, 12, 13, 10001, math.MaxInt}
	for _, n := range odd {
		for _, v := range odd {
			for _, w := range odd {
				callAll(api.Graph{N: n})
				callAll(api.Graph{N: n, Arcs: arcs(v, w)})
				callAll(api.Graph{N: n, Arcs: arcs(v, w, 0, 0)})
				callAll(api.Graph{N: n, Arcs: arcs(0, 0, v, w, 0, 1, 1, 0)})
				callAll(api.Graph{N: n, Arcs: []api.Arc{{To: 1, Cap: v}, {Cap: w}}})
				callAll(api.Graph{N: n, Arcs: alike(61, v, w)})
				Det([][]int{{n, v}, {w, 0}})
				Det([][]int{{n, v, w}, nil})
				Decode([]int{n, v, w})
				Decode([]int{n, v, w, 0, 1, 2, 3, 4, 5, 6, 7})
			}
		}
	}
	for rows := range 20 {
		for long := range 20 {
			m := make([][]int, rows)
			for i := range m {
				m[i] = make([]int, long)
			}
			Det(m)
		}
		Decode(make([]int, rows))
		Decode(slices.Repeat([]int{rows}, rows))
	}
}

func callAll(g api.Graph) {
	Count(g)
	Is(g)
	Code(g)
}

// P2: what is handed in stays as it is, the memory behind a list included.
func TestNothingIsChanged(t *testing.T) {
	for _, g := range []api.Graph{{N: 1}, line(2), ring(8), star(8, 4), complete(6), {N: 4, Arcs: arcs(3, 2, 0, 3, 3, 1)}} {
		whole := append(slices.Clone(g.Arcs), arcs(9, 9, 8, 8, 7, 7)...)
		before := slices.Clone(whole)
		callAll(api.Graph{N: g.N, Arcs: whole[:len(g.Arcs)]})
		if !slices.Equal(whole, before) {
			t.Error("arcs have changed:", before, whole)
		}
	}
	m := append(square(5, func(i, j int) int { return (3*i+j*j+i*j)%19 - 9 }), []int{77})
	before := make([][]int, len(m))
	for i := range m {
		m[i] = append(m[i], 66, 55)
		before[i] = slices.Clone(m[i])
		m[i] = m[i][:len(m[i])-2]
	}
	Det(m[:5])
	for i := range m {
		if !slices.Equal(m[i][:len(m[i])+2], before[i]) {
			t.Error("row", i, "has changed:", before[i], m[i])
		}
	}
	l := []int{3, 3, 1, 99, 98, 97, 96}
	Decode(l[:3])
	if !slices.Equal(l, []int{3, 3, 1, 99, 98, 97, 96}) {
		t.Error("a code has changed:", l)
	}
}

// P13: rows that share their memory are numbers like others.
func TestDetOfSharedRows(t *testing.T) {
	long := []int{1, 2, 3, 4}
	if d, e := Det([][]int{long[:3], long[1:], long[:3]}); d != 0 || e != api.OK {
		t.Error(d, e)
	}
	if d, e := Det([][]int{long[:2], long[1:3]}); d != -1 || e != api.OK {
		t.Error(d, e)
	}
}

func fill[T any](l []T, v T) {
	l = l[:cap(l)]
	for i := range l {
		l[i] = v
	}
}

// P2: an answer shares no memory with what was handed in, nor with a later answer.
func TestNothingIsShared(t *testing.T) {
	l := []int{3, 3, 1}
	h, _ := Decode(l)
	first := slices.Clone(h.Arcs)
	code, _ := Code(h)
	fill(code, -5)
	if !slices.Equal(h.Arcs, first) {
		t.Error("writing to a code changed the tree:", h)
	}
	fill(h.Arcs, api.Arc{From: -5})
	if !slices.Equal(l, []int{3, 3, 1}) {
		t.Error("writing to a tree changed the code:", l)
	}
	Decode([]int{0, 1, 2, 3})
	for range 3 {
		h, e := Decode(l)
		if e != api.OK || !slices.Equal(h.Arcs, first) {
			t.Error("at first", first, "then", h, e)
		}
		if code, e := Code(h); e != api.OK || !slices.Equal(code, l) {
			t.Error("the code has become", code, e)
		}
	}
}
