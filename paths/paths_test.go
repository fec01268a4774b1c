package paths

import (
	"math"
	"math/rand"
	"slices"
	"testing"

	"weirmaster/api"
)

// arcs by their ends: From and To of each. Each takes another number, as the numbers Cap don't matter.
func arcs(ends ...int) []api.Arc {
	var list []api.Arc
	for c := range slices.Chunk(ends, 2) {
		list = append(list, api.Arc{From: c[0], To: c[1], Cap: 10 * len(list) % 31})
	}
	return list
}

// alike: n times the same arc.
func alike(n, from, to int) []api.Arc {
	return slices.Repeat(arcs(from, to), n)
}

// net from 0 to its last node.
func net(n int, list ...[]api.Arc) api.Net {
	return api.Net{N: n, S: 0, T: n - 1, Arcs: slices.Concat(list...)}
}

// back: the same net, from its sink to its source.
func back(n api.Net) api.Net {
	n.S, n.T = n.T, n.S
	return n
}

// line: n nodes, each with an arc to the next one.
func line(n int) api.Net {
	var list []api.Arc
	for v := 1; v < n; v++ {
		list = append(list, arcs(v-1, v)...)
	}
	return net(n, list)
}

// fork: from 0 over 1 and over 2 to 3, and from 1 to 2.
func fork() api.Net {
	return net(4, arcs(0, 1, 0, 2, 1, 3, 1, 2, 2, 3))
}

// whole: an arc from each node to each other one, but from S to T.
func whole(n int) api.Net {
	w := net(n)
	for ends := range n * n {
		from, to := ends/n, ends%n
		if from != to && (from != w.S || to != w.T) {
			w.Arcs = append(w.Arcs, arcs(from, to)...)
		}
	}
	return w
}

// count: the numbers from 0 to n - 1.
func count(n int) []int {
	var list []int
	for k := range n {
		list = append(list, k)
	}
	return list
}

// singles: the numbers from 0 to n - 1, each alone in a list.
func singles(n int) [][]int {
	return slices.Collect(slices.Chunk(count(n), 1))
}

// badNets: what graph.CheckNet does not let pass.
var badNets = []struct {
	name string
	n    api.Net
	want api.Errno
}{
	{"no node", api.Net{}, api.ErrArg},
	{"13 nodes", line(13), api.ErrArg},
	{"nodes below 0", api.Net{N: -1, T: 1}, api.ErrArg},
	{"greatest int of nodes", api.Net{N: math.MaxInt, T: 1}, api.ErrArg},
	{"61 arcs", net(2, alike(61, 1, 0)), api.ErrLarge},
	{"61 arcs, the first to no node", net(2, alike(61, 0, 2)), api.ErrLarge},
	{"From at N", net(2, arcs(2, 0)), api.ErrNode},
	{"From below 0", net(2, arcs(-1, 0)), api.ErrNode},
	{"To at N", net(12, arcs(0, 12)), api.ErrNode},
	{"To below 0", net(2, arcs(0, -1)), api.ErrNode},
	{"Cap 10001", net(3, []api.Arc{{From: 0, To: 1, Cap: 10001}}), api.ErrArg},
	{"Cap -1", net(3, []api.Arc{{From: 0, To: 1, Cap: -1}}), api.ErrArg},
	{"Cap -1 at the last arc", net(3, arcs(0, 1, 1, 2), []api.Arc{{From: 2, To: 2, Cap: -1}}), api.ErrArg},
	{"least int of Cap", net(3, []api.Arc{{From: 0, To: 1, Cap: math.MinInt}}), api.ErrArg},
	{"Cap 10001 at an arc from S to T", net(2, []api.Arc{{From: 0, To: 1, Cap: 10001}}), api.ErrArg},
	{"Cap -1 behind an arc from S to T", net(2, arcs(0, 1), []api.Arc{{From: 1, To: 1, Cap: -1}}), api.ErrArg},
	{"Cap -1 of 7 nodes", net(7, []api.Arc{{From: 0, To: 1, Cap: -1}}), api.ErrArg},
	{"no node at the last of 31 arcs", net(2, alike(30, 0, 1), arcs(0, 2)), api.ErrNode},
	{"no node at one arc, a bad Cap at a later one", net(2, arcs(0, 2), []api.Arc{{Cap: -1}}), api.ErrNode},
	{"a bad Cap at one arc, no node at a later one", net(2, []api.Arc{{Cap: -1}}, arcs(0, 2)), api.ErrArg},
	{"S at N", api.Net{N: 2, S: 2, T: 1}, api.ErrNode},
	{"S at N, of 7 nodes", api.Net{N: 7, S: 7, T: 1}, api.ErrNode},
	{"S below 0", api.Net{N: 2, S: -1, T: 1}, api.ErrNode},
	{"T at N", api.Net{N: 6, S: 0, T: 6}, api.ErrNode},
	{"T below 0", api.Net{N: 2, S: 0, T: -1}, api.ErrNode},
	{"S is T", api.Net{N: 2, S: 1, T: 1}, api.ErrForm},
	{"S is T, of 7 nodes", api.Net{N: 7, S: 1, T: 1}, api.ErrForm},
	{"S is T, and an arc from it to it", api.Net{N: 2, S: 1, T: 1, Arcs: arcs(1, 1)}, api.ErrForm},
	{"one node", api.Net{N: 1}, api.ErrForm},
	{"S and T the same, but no node", api.Net{N: 2, S: 2, T: 2}, api.ErrNode},
}

// P38 to P41: a net that is not right, with nothing beside the error.
func TestBadNets(t *testing.T) {
	for _, c := range badNets {
		if l, e := Apart(c.n); l != nil || e != c.want {
			t.Errorf("%s: Apart %v %d, not %d alone", c.name, l, e, c.want)
		}
		if l, e := Bar(c.n); l != nil || e != c.want {
			t.Errorf("%s: Bar %v %d, not %d alone", c.name, l, e, c.want)
		}
		checkAloneError(t, c.name, c.n, c.want)
	}
}

func checkAloneError(t *testing.T, name string, n api.Net, want api.Errno) {
	t.Helper()
	if l, e := Alone(n); l != nil || e != want {
		t.Errorf("%s: Alone %v %d, not %d alone", name, l, e, want)
	}
	if l, e := Block(n); l != nil || e != want {
		t.Errorf("%s: Block %v %d, not %d alone", name, l, e, want)
	}
}

// P40, P41: what Apart and Bar let pass, but Alone and Block don't.
func TestErrorsOfAlone(t *testing.T) {
	cases := []struct {
		name string
		n    api.Net
		want api.Errno
	}{
		{"7 nodes", line(7), api.ErrLarge},
		{"12 nodes, no arcs", net(12), api.ErrLarge},
		{"31 arcs", net(3, alike(31, 0, 1)), api.ErrLarge},
		{"31 arcs that lead nowhere", net(2, alike(31, 0, 0)), api.ErrLarge},
		{"60 arcs", net(3, alike(60, 0, 1)), api.ErrLarge},
		{"7 nodes, and an arc from S to T", net(7, arcs(0, 6)), api.ErrLarge},
		{"31 arcs from S to T", net(2, alike(31, 0, 1)), api.ErrLarge},
		{"from S to T", net(2, arcs(0, 1)), api.ErrState},
		{"from S to T, Cap 0", net(2, []api.Arc{{From: 0, To: 1, Cap: 0}}), api.ErrState},
		{"from S to T, S above T", api.Net{N: 6, S: 4, T: 1, Arcs: arcs(4, 1)}, api.ErrState},
		{"from S to T, the last of 30", net(6, alike(29, 1, 2), arcs(0, 5)), api.ErrState},
		{"from S to T, beside other ways", net(4, fork().Arcs, arcs(0, 3)), api.ErrState},
		{"from S to T, the first one", net(4, arcs(0, 3), fork().Arcs), api.ErrState},
	}
	for _, c := range cases {
		check(t, c.n)
		checkAloneError(t, c.name, c.n, c.want)
	}
}

// P38 to P41, by hand: of how many there are, and where one answer alone will do that one.
func TestByHand(t *testing.T) {
	cases := []struct {
		name  string
		n     api.Net
		apart int
		ways  [][]int
		bar   []int
		alone int
		lone  [][]int
		block []int
	}{
		{"no arcs", net(2), 0, none, nothing, 0, none, nothing},
		{"no arcs, 6 nodes, S above T", back(net(6, []api.Arc{})), 0, none, nothing, 0, none, nothing},
		{"back alone", back(net(2, arcs(0, 1))), 0, none, nothing, 0, none, nothing},
		{"two steps", line(3), 1, [][]int{{0, 1}}, nil, 1, [][]int{{0, 1}}, []int{1}},
		{"two steps, the last one first", net(3, arcs(1, 2, 0, 1)), 1, [][]int{{1, 0}}, nil, 1, [][]int{{1, 0}}, []int{1}},
		{"a line", line(6), 1, [][]int{count(5)}, nil, 1, [][]int{count(5)}, nil},
		{"fork", fork(), 2, [][]int{{0, 2}, {1, 4}}, nil, 2, [][]int{{0, 2}, {1, 4}}, []int{1, 2}},
		{"two there, one on", net(3, arcs(0, 1, 0, 1, 1, 2)), 1, nil, []int{2}, 1, nil, []int{1}},
		{"one there, two on", net(3, arcs(1, 2, 0, 1, 1, 2)), 1, nil, []int{1}, 1, nil, []int{1}},
		{"two there, two on", net(3, arcs(0, 1, 1, 2, 0, 1, 1, 2)), 2, nil, nil, 1, nil, []int{1}},
		{"two in the midst", net(4, alike(3, 0, 1), alike(2, 1, 2), alike(3, 2, 3)), 2, nil, []int{3, 4}, 1, nil, nil},
		{"what leads back does not bar", net(4, alike(2, 0, 1), arcs(2, 1, 2, 1, 1, 2), alike(2, 2, 3)),
			1, nil, []int{4}, 1, nil, nil},
		{"all meet at 3", net(6, arcs(0, 1, 0, 2, 1, 3, 2, 3, 3, 4, 3, 5, 4, 5)), 2, nil, nil, 1, nil, []int{3}},
		{"the near way would bar both", net(6, arcs(0, 1, 1, 2, 2, 5, 0, 3, 3, 2, 1, 4, 4, 5)),
			2, [][]int{{0, 5, 6}, {3, 4, 2}}, nil, 2, [][]int{{0, 5, 6}, {3, 4, 2}}, nil},
		{"loops on the way", net(3, arcs(0, 0, 0, 1, 1, 1, 1, 2, 2, 2)), 1, nil, nil, 1, [][]int{{1, 3}}, []int{1}},
		{"back to S, and on from T", net(4, arcs(0, 1, 1, 0, 1, 3, 3, 2, 2, 3)), 1, nil, nil, 1, [][]int{{0, 2}}, []int{1}},
		{"through T and S from 1 to 2", net(4, arcs(0, 1, 1, 3, 3, 2, 2, 0)), 1, nil, nil, 1, [][]int{{0, 1}}, []int{1}},
		{"from S alone", net(4, arcs(0, 1, 1, 2, 2, 0)), 0, none, nothing, 0, none, nothing},
		{"to T alone", net(4, arcs(1, 2, 2, 3, 3, 1)), 0, none, nothing, 0, none, nothing},
		{"all arcs of 3 nodes", whole(3), 1, [][]int{{0, 2}}, nil, 1, [][]int{{0, 2}}, []int{1}},
		{"all arcs of 6 nodes", whole(6), 4, nil, nil, 4, nil, []int{1, 2, 3, 4}},
		{"30 arcs", net(6, whole(6).Arcs, arcs(3, 3)), 4, nil, nil, 4, nil, []int{1, 2, 3, 4}},
		{"30 arcs over one node", net(3, alike(15, 0, 1), alike(15, 1, 2)), 15, nil, nil, 1, nil, []int{1}},
		{"S above T", api.Net{N: 6, S: 5, T: 2, Arcs: arcs(5, 4, 4, 2, 5, 3, 3, 2, 5, 0, 0, 2)},
			3, [][]int{{0, 1}, {2, 3}, {4, 5}}, nil, 3, [][]int{{0, 1}, {2, 3}, {4, 5}}, []int{0, 3, 4}},
	}
	for _, c := range cases {
		ways, bar := check(t, c.n)
		if len(ways) != c.apart {
			t.Errorf("%s: Apart %v, not %d", c.name, ways, c.apart)
		}
		lone, block := checkLone(t, c.n)
		if len(lone) != c.alone {
			t.Errorf("%s: Alone %v, not %d", c.name, lone, c.alone)
		}
		checkWays(t, c.name, ways, c.ways)
		checkWays(t, c.name, lone, c.lone)
		if c.bar != nil && !slices.Equal(bar, c.bar) {
			t.Errorf("%s: Bar %v, not %v", c.name, bar, c.bar)
		}
		if c.block != nil && !slices.Equal(block, c.block) {
			t.Errorf("%s: Block %v, not %v", c.name, block, c.block)
		}
		checkOneAlone(t, c.name, len(c.n.Arcs), c.bar, func(l []int) bool { return bars(c.n, l) })
		checkOneAlone(t, c.name, c.n.N, c.block, func(l []int) bool { return blocks(c.n, l) })
	}
}

// Lists that have nothing in them: nil says in the table that several answers will do.
var (
	none    = [][]int{}
	nothing = []int{}
)

// checkWays holds ways, in whatever order they are told, against the ones that are wanted, if there are any.
func checkWays(t *testing.T, name string, ways, want [][]int) {
	t.Helper()
	ways, want = slices.Clone(ways), slices.Clone(want)
	slices.SortFunc(ways, slices.Compare)
	slices.SortFunc(want, slices.Compare)
	if want != nil && !slices.EqualFunc(ways, want, slices.Equal) {
		t.Errorf("%s: ways %v, not %v", name, ways, want)
	}
}

// checkOneAlone holds that of as many of the numbers below n as are wanted the wanted ones alone will do, and no fewer.
func checkOneAlone(t *testing.T, name string, n int, want []int, will func([]int) bool) {
	t.Helper()
	if want == nil || n > 12 {
		return
	}
	for set := range 1 << n {
		var list []int
		for k := range n {
			if set>>k%2 == 1 {
				list = append(list, k)
			}
		}
		if len(list) <= len(want) && will(list) != slices.Equal(list, want) {
			t.Errorf("%s: not the one alone: %v", name, list)
		}
	}
}

// P38, P39, by hand: what is too large for Alone, or leads from S to T.
func TestLargeByHand(t *testing.T) {
	far := line(12)
	far.Arcs = append(far.Arcs, arcs(0, 11)...)
	cases := []struct {
		name string
		n    api.Net
		ways [][]int
		bar  []int
	}{
		{"one arc", net(2, arcs(0, 1)), singles(1), []int{0}},
		{"one arc, Cap 0", net(2, []api.Arc{{From: 0, To: 1, Cap: 0}}), singles(1), []int{0}},
		{"one arc, Cap 10000", net(2, []api.Arc{{From: 0, To: 1, Cap: 10000}}), singles(1), []int{0}},
		{"60 arcs from S to T", net(2, alike(60, 0, 1)), singles(60), count(60)},
		{"60 arcs from T to S", back(net(2, alike(60, 0, 1))), none, nothing},
		{"a line of 12", line(12), [][]int{count(11)}, nil},
		{"a line of 12, and from S to T", far, [][]int{count(11), {11}}, nil},
		{"59 arcs, and one on", net(12, alike(30, 0, 5), arcs(5, 6), alike(29, 6, 11)), nil, []int{30}},
		{"from S to T and over each other node",
			net(7, arcs(0, 1, 1, 6, 0, 2, 2, 6, 0, 3, 3, 6, 0, 4, 4, 6, 0, 5, 5, 6, 0, 6)),
			[][]int{{0, 1}, {2, 3}, {4, 5}, {6, 7}, {8, 9}, {10}}, nil},
		{"one of Cap 0 and one of much", net(3, []api.Arc{{From: 0, To: 1, Cap: 0}, {From: 1, To: 2, Cap: 10000}}),
			[][]int{{0, 1}}, nil},
		{"one of much bars, not three of 0", net(3, []api.Arc{{From: 0, To: 1, Cap: 0}, {From: 0, To: 1, Cap: 0},
			{From: 0, To: 1, Cap: 0}, {From: 1, To: 2, Cap: 10000}}), nil, []int{3}},
	}
	for _, c := range cases {
		ways, bar := check(t, c.n)
		checkWays(t, c.name, ways, c.ways)
		if c.bar != nil && !slices.Equal(bar, c.bar) {
			t.Errorf("%s: Bar %v, not %v", c.name, bar, c.bar)
		}
	}
}

// areWays tells whether each list is arcs from S to T, each from where the one ahead leads to, and no arc is there
// twice.
func areWays(n api.Net, ways [][]int) bool {
	gone := map[int]int{}
	for _, way := range ways {
		at := n.S
		for _, k := range way {
			if k < 0 || k >= len(n.Arcs) || n.Arcs[k].From != at || gone[k] > 0 {
				return false
			}
			gone[k]++
			at = n.Arcs[k].To
		}
		if at != n.T {
			return false
		}
	}
	return true
}

// areAlone tells whether ways come, beside to T at the end, to no node twice, and to none to which another one comes,
// nor to S.
func areAlone(n api.Net, ways [][]int) bool {
	been := map[int]int{n.S: 1, n.T: 1}
	for _, way := range ways {
		for i, k := range way {
			to := n.Arcs[k].To
			if i == len(way)-1 && to == n.T {
				continue
			}
			if been[to] > 0 {
				return false
			}
			been[to]++
		}
	}
	return true
}

// leads tells whether there is a way from S to T without these arcs and these nodes.
func leads(n api.Net, arcs, nodes []int) bool {
	reached := map[int]int{n.S: 1}
	for range n.N {
		for k, a := range n.Arcs {
			if reached[a.From] > 0 && !slices.Contains(arcs, k) && !slices.Contains(nodes, a.To) {
				reached[a.To]++
			}
		}
	}
	return reached[n.T] > 0
}

func rises(l []int, n int) bool {
	for i, x := range l {
		if x < 0 || x >= n || i > 0 && x <= l[i-1] {
			return false
		}
	}
	return true
}

func bars(n api.Net, l []int) bool {
	return rises(l, len(n.Arcs)) && !leads(n, l, nil)
}

func blocks(n api.Net, l []int) bool {
	return rises(l, n.N) && !slices.Contains(l, n.S) && !slices.Contains(l, n.T) && !leads(n, nil, l)
}

// check holds Apart and Bar of what is right against P38 and P39. No two of the ways go by the same one of the arcs
// that bar, and each goes by one: if there are as many ways as arcs, there can't be more ways, nor fewer arcs.
func check(t *testing.T, n api.Net) ([][]int, []int) {
	t.Helper()
	ways, e := Apart(n)
	if e != api.OK || !areWays(n, ways) {
		t.Fatal("Apart:", n, ways, e)
	}
	bar, e := Bar(n)
	if e != api.OK || !bars(n, bar) {
		t.Fatal("Bar:", n, bar, e)
	}
	if len(ways) != len(bar) {
		t.Fatal("not as many ways as arcs that bar:", n, ways, bar)
	}
	return ways, bar
}

// checkLone holds Alone and Block against P40 and P41: as in check, with nodes instead of arcs.
func checkLone(t *testing.T, n api.Net) ([][]int, []int) {
	t.Helper()
	ways, e := Alone(n)
	block, e2 := Block(n)
	want := api.OK
	if slices.ContainsFunc(n.Arcs, func(a api.Arc) bool { return a.From == n.S && a.To == n.T }) {
		want = api.ErrState
	}
	if n.N >= 7 || len(n.Arcs) >= 31 {
		want = api.ErrLarge
	}
	if e != want || e2 != want || want != api.OK && (ways != nil || block != nil) {
		t.Fatal("not that error alone:", want, n, ways, e, block, e2)
	}
	if !areWays(n, ways) || !areAlone(n, ways) {
		t.Fatal("Alone:", n, ways)
	}
	if want == api.OK && !blocks(n, block) {
		t.Fatal("Block:", n, block)
	}
	if len(ways) != len(block) {
		t.Fatal("not as many ways as nodes that block:", n, ways, block)
	}
	return ways, block
}

// tally counts of how many nets there were how many ways.
type tally struct{ apart, alone [api.MaxArcs + 1]int }

func (c *tally) check(t *testing.T, n api.Net) {
	t.Helper()
	ways, _ := check(t, n)
	lone, _ := checkLone(t, n)
	c.apart[len(ways)]++
	c.alone[len(lone)]++
}

// P38 to P41, of all lists of few arcs.
func TestAllOfFewArcs(t *testing.T) {
	for _, size := range []struct{ n, arcs int }{{2, 5}, {3, 4}, {4, 3}} {
		var c tally
		c.checkLonger(t, api.Net{N: size.n, S: size.n - 1, T: 0}, size.arcs)
		if c.apart[0] < 100 || c.apart[1] < 100 || c.apart[2] < 20 {
			t.Error("too few of a kind:", size, c)
		}
	}
}

// checkLonger checks a net and all that have so many more arcs.
func (c *tally) checkLonger(t *testing.T, n api.Net, more int) {
	t.Helper()
	c.check(t, n)
	if more == 0 {
		return
	}
	for ends := range n.N * n.N {
		m := n
		m.Arcs = append(slices.Clone(n.Arcs), api.Arc{From: ends / n.N, To: ends % n.N})
		c.checkLonger(t, m, more-1)
	}
}

// P38 to P41, of all nets of 4 nodes without arcs that are alike, or from a node to itself, or from S to T; and of 5
// nodes of those that have no arc to S or from T either.
func TestAllNets(t *testing.T) {
	var c tally
	c.checkParts(t, whole(4))
	five := whole(5)
	five.Arcs = slices.DeleteFunc(five.Arcs, func(a api.Arc) bool { return a.To == five.S || a.From == five.T })
	c.checkParts(t, five)
	if slices.Min(c.apart[:4]) < 100 || slices.Min(c.alone[:4]) < 20 {
		t.Error("too few of a kind:", c)
	}
}

// checkParts checks the nets that have some of the arcs of n, and back from T to S.
func (c *tally) checkParts(t *testing.T, n api.Net) {
	t.Helper()
	for set := range 1 << len(n.Arcs) {
		m := n
		m.Arcs = nil
		for k, a := range n.Arcs {
			if set>>k%2 == 1 {
				m.Arcs = append(m.Arcs, a)
			}
		}
		c.check(t, m)
		c.check(t, back(m))
	}
}

// drawn: a net of n nodes with so many arcs.
func drawn(r *rand.Rand, n, many int) api.Net {
	d := api.Net{N: n, S: r.Intn(n)}
	d.T = (d.S + 1 + r.Intn(n-1)) % n
	for range many {
		d.Arcs = append(d.Arcs, api.Arc{From: r.Intn(n), To: r.Intn(n), Cap: r.Intn(api.MaxCap + 1)})
	}
	return d
}

// shut: a drawn net without arcs from S to T.
func shut(r *rand.Rand, n, many int) api.Net {
	d := drawn(r, n, many)
	for k, a := range d.Arcs {
		if a.From == d.S && a.To == d.T {
			d.Arcs[k].To = d.S
		}
	}
	return d
}

// thin: the same net without one arc or some of them, in another order, and perhaps from T to S.
func thin(r *rand.Rand, n api.Net) api.Net {
	r.Shuffle(len(n.Arcs), func(i, j int) { n.Arcs[i], n.Arcs[j] = n.Arcs[j], n.Arcs[i] })
	n.Arcs = n.Arcs[r.Intn(len(n.Arcs)):]
	if r.Intn(2) == 0 {
		return back(n)
	}
	return n
}

// P38 to P41, of drawn nets up to the greatest ones.
func TestDrawn(t *testing.T) {
	r := rand.New(rand.NewSource(91))
	var c tally
	for range 3000 {
		c.check(t, drawn(r, 2+r.Intn(11), r.Intn(61)))
		c.check(t, drawn(r, 12, 60))
		c.check(t, shut(r, 2+r.Intn(5), r.Intn(31)))
		c.check(t, shut(r, 6, 30))
		c.check(t, thin(r, whole(6)))
	}
	if slices.Min(c.apart[:7]) < 100 || slices.Min(c.alone[:5]) < 100 {
		t.Error("too few of a kind:", c)
	}
}

// rows: a drawn net whose nodes stand in rows between S and T, with arcs from each row to the next one alone but for a
// few: the way that is found first is seldom one of the best ones.
func rows(r *rand.Rand, n, row, many int) api.Net {
	d := net(n)
	of := func(v int) int { return (v + row - 1) / row }
	for len(d.Arcs) < many {
		a := api.Arc{From: r.Intn(n), To: r.Intn(n), Cap: r.Intn(3)}
		if of(a.To) == of(a.From)+1 && a.To < n-1 || a.To == n-1 && n-1-a.From <= row || r.Intn(20) == 0 {
			d.Arcs = append(d.Arcs, a)
		}
	}
	return d
}

// P38 to P41, where ways must make room for others.
func TestRows(t *testing.T) {
	r := rand.New(rand.NewSource(92))
	var c tally
	for range 2000 {
		c.check(t, rows(r, 11, 3, 15+r.Intn(20)))
		c.check(t, rows(r, 12, 5, 15+r.Intn(20)))
		c.check(t, rows(r, 6, 2, 6+r.Intn(15)))
	}
	if slices.Min(c.apart[:4]) < 200 || slices.Min(c.alone[:3]) < 200 {
		t.Error("too few of a kind:", c)
	}
}

// The numbers Cap are not looked at.
func TestCapsAreNotLookedAt(t *testing.T) {
	r := rand.New(rand.NewSource(93))
	for range 1000 {
		n := either(r)
		first := ask(n)
		for _, most := range []int{1, 2, 10, api.MaxCap + 1} {
			n.Arcs = slices.Clone(n.Arcs)
			for k := range n.Arcs {
				n.Arcs[k].Cap = r.Intn(most)
			}
			if other := ask(n); !same(first, other) {
				t.Fatal("another answer with other numbers Cap:", n, first, other)
			}
		}
	}
}

// told: what all calls tell of one net.
type told struct {
	apart, alone [][]int
	bar, block   []int
	errs         [4]api.Errno
}

func ask(n api.Net) (a told) {
	a.apart, a.errs[0] = Apart(n)
	a.bar, a.errs[1] = Bar(n)
	a.alone, a.errs[2] = Alone(n)
	a.block, a.errs[3] = Block(n)
	return a
}

func same(a, b told) bool {
	return slices.EqualFunc(a.lists(), b.lists(), slices.Equal) && len(a.apart) == len(b.apart) && a.errs == b.errs
}

// lists: all that there are in an answer.
func (a told) lists() [][]int {
	return slices.Concat(a.apart, a.alone, [][]int{a.bar, a.block})
}

// either: a drawn net, that is right for all calls or for some.
func either(r *rand.Rand) api.Net {
	if r.Intn(3) == 0 {
		return drawn(r, 2+r.Intn(11), r.Intn(61))
	}
	return shut(r, 2+r.Intn(5), r.Intn(31))
}

// P2: the same each time, whatever was asked between.
func TestSameEachTime(t *testing.T) {
	r := rand.New(rand.NewSource(94))
	for range 500 {
		n := either(r)
		first := ask(n)
		for range 5 {
			ask(either(r))
			if again := ask(n); !same(first, again) {
				t.Fatal(n, first, again)
			}
		}
	}
}

// P1.
func TestNothingPanics(t *testing.T) {
	odd := []int{math.MinInt, -10001, -1, 0, 1, 2, 5, 6, 7, 11, 12, 13, 10000, 10001, math.MaxInt}
	for _, n := range odd {
		for _, v := range odd {
			for _, w := range odd {
				ask(api.Net{N: n, S: v, T: w})
				ask(api.Net{N: n, S: v, T: w, Arcs: arcs(v, w)})
				ask(api.Net{N: n, S: v, T: w, Arcs: arcs(w, v, v, 1, 1, w)})
				ask(api.Net{N: n, S: 0, T: 2, Arcs: arcs(v, w, 0, 1, 1, 2)})
				ask(api.Net{N: n, S: 0, T: 2, Arcs: []api.Arc{{From: 0, To: 1, Cap: v}, {From: 1, To: 2, Cap: w}}})
				ask(api.Net{N: n, S: v, T: w, Arcs: alike(30, w, v)})
				ask(api.Net{N: n, S: v, T: w, Arcs: alike(61, v, w)})
			}
		}
	}
}

// P2: what is handed in stays as it is, the memory behind a list included.
func TestNothingIsChanged(t *testing.T) {
	r := rand.New(rand.NewSource(95))
	for range 2000 {
		n := either(r)
		list := append(slices.Clone(n.Arcs), arcs(7, 7, 8, 8, 9, 9)...)
		list = append(list, slices.Repeat(arcs(0, 1), 20)...)
		before := slices.Clone(list)
		n.Arcs = list[:len(n.Arcs)]
		ask(n)
		// And a net that is not right.
		n.Arcs = list[:len(n.Arcs)+1]
		n.N = 7
		ask(n)
		if !slices.Equal(list, before) {
			t.Fatal("changed:", before, list)
		}
	}
}

// P2: no list shares memory with another one of the same answer, or with one of a later answer, spare memory included.
func TestNothingIsShared(t *testing.T) {
	r := rand.New(rand.NewSource(96))
	for range 1000 {
		n := either(r)
		a := ask(n)
		want := clone(a)
		second := ask(n)
		ask(either(r))
		if !same(a, want) {
			t.Fatal("an earlier answer has changed:", want, a)
		}
		lists, whole := a.lists(), want.lists()
		for i := range lists {
			spoil(lists[i])
			for j := i + 1; j < len(lists); j++ {
				if !slices.Equal(lists[j], whole[j]) {
					t.Fatal("a list has changed with another one:", n, whole[j], lists[j])
				}
			}
		}
		spoilWays(a.apart)
		spoilWays(a.alone)
		if third := ask(n); !same(second, want) || !same(third, want) {
			t.Fatal("another answer has changed with it:", want, second, third)
		}
	}
}

func clone(a told) told {
	c := told{bar: slices.Clone(a.bar), block: slices.Clone(a.block), errs: a.errs}
	for _, way := range a.apart {
		c.apart = append(c.apart, slices.Clone(way))
	}
	for _, way := range a.alone {
		c.alone = append(c.alone, slices.Clone(way))
	}
	return c
}

// spoil writes over a list, spare memory included.
func spoil(l []int) {
	l = l[:cap(l)]
	for i := range l {
		l[i] = -7
	}
}

func spoilWays(l [][]int) {
	l = l[:cap(l)]
	for i := range l {
		l[i] = []int{-7}
	}
}
