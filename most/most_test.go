package most

import (
	"math"
	"math/rand"
	"slices"
	"testing"

	"weirmaster/api"
	"weirmaster/flow"
)

// arcs by their numbers: From, To and Cap of each.
func arcs(numbers ...int) []api.Arc {
	var list []api.Arc
	for c := range slices.Chunk(numbers, 3) {
		list = append(list, api.Arc{From: c[0], To: c[1], Cap: c[2]})
	}
	return list
}

// alike: n times the same arc.
func alike(n, from, to, most int) []api.Arc {
	return slices.Repeat(arcs(from, to, most), n)
}

// net from 0 to its last node.
func net(n int, list []api.Arc) api.Net {
	return api.Net{N: n, S: 0, T: n - 1, Arcs: list}
}

// back: the same net, from its sink to its source.
func back(n api.Net) api.Net {
	n.S, n.T = n.T, n.S
	return n
}

// line: n nodes, each with an arc to the next one, all of the same Cap.
func line(n, most int) api.Net {
	var list []api.Arc
	for v := 1; v < n; v++ {
		list = append(list, api.Arc{From: v - 1, To: v, Cap: most})
	}
	return net(n, list)
}

// times: n times the same number.
func times(n, x int) []int {
	return slices.Repeat([]int{x}, n)
}

// fork: from 0 over 1 and over 2 to 3, and from 1 to 2.
func fork() api.Net {
	return net(4, arcs(0, 1, 4, 0, 2, 3, 1, 3, 2, 1, 2, 1, 2, 3, 3))
}

// bridge: from 0 over 1 and over 2 to 3, so much along each arc, and from 1 to 2 as much as given.
func bridge(most, between int) api.Net {
	return net(4, arcs(0, 1, most, 0, 2, most, 1, 2, between, 1, 3, most, 2, 3, most))
}

// trap: the one shortest way, by 1 and 2 to 7, uses up what the two longer ways need: 0 to 2 over 3 and 4 on one side,
// 1 to 7 over 5 and 6 on the other.
func trap(most int) api.Net {
	var list []api.Arc
	for _, ends := range [][2]int{{0, 1}, {1, 2}, {2, 7}, {0, 3}, {3, 4}, {4, 2}, {1, 5}, {5, 6}, {6, 7}} {
		list = append(list, api.Arc{From: ends[0], To: ends[1], Cap: most})
	}
	return net(8, list)
}

// badNets: what graph.CheckNet does not let pass.
var badNets = []struct {
	name string
	n    api.Net
	want api.Errno
}{
	{"no node", api.Net{}, api.ErrArg},
	{"13 nodes", line(13, 1), api.ErrArg},
	{"nodes below 0", api.Net{N: -1, T: 1}, api.ErrArg},
	{"greatest int of nodes", api.Net{N: math.MaxInt, T: 1}, api.ErrArg},
	{"61 arcs", net(2, alike(61, 0, 1, 1)), api.ErrLarge},
	{"61 arcs, the first to no node", net(2, alike(61, 0, 2, 1)), api.ErrLarge},
	{"From at N", net(2, arcs(2, 0, 1)), api.ErrNode},
	{"From below 0", net(2, arcs(-1, 0, 1)), api.ErrNode},
	{"To at N", net(12, arcs(0, 12, 1)), api.ErrNode},
	{"To below 0", net(2, arcs(0, -1, 1)), api.ErrNode},
	{"Cap 10001", net(2, arcs(0, 1, 10001)), api.ErrArg},
	{"Cap -1", net(2, arcs(0, 1, -1)), api.ErrArg},
	{"Cap -1 at the last arc", net(3, arcs(0, 1, 5, 1, 2, 5, 2, 2, -1)), api.ErrArg},
	{"least int of Cap", net(2, arcs(0, 1, math.MinInt)), api.ErrArg},
	{"S at N", api.Net{N: 2, S: 2, T: 1}, api.ErrNode},
	{"S below 0", api.Net{N: 2, S: -1, T: 1}, api.ErrNode},
	{"T at N", api.Net{N: 12, S: 0, T: 12}, api.ErrNode},
	{"T below 0", api.Net{N: 2, S: 0, T: -1}, api.ErrNode},
	{"S is T", api.Net{N: 2, S: 1, T: 1}, api.ErrForm},
	{"one node", api.Net{N: 1}, api.ErrForm},
	{"a bad Cap ahead of S that is T", api.Net{N: 2, Arcs: arcs(0, 1, -1)}, api.ErrArg},
	{"S and T the same, but no node", api.Net{N: 2, S: 2, T: 2}, api.ErrNode},
}

// P25, P26: a net that is not right, with nothing beside the error.
func TestBadNets(t *testing.T) {
	for _, c := range badNets {
		if f, v, e := Of(c.n); f != nil || v != 0 || e != c.want {
			t.Errorf("%s: Of %v %d %d, not %d alone", c.name, f, v, e, c.want)
		}
		// What is wrong with the flow comes behind what is wrong with the net.
		for _, from := range [][]int{nil, times(len(c.n.Arcs), 0), times(len(c.n.Arcs), 99999), times(70, -1)} {
			if f, v, e := More(c.n, from); f != nil || v != 0 || e != c.want {
				t.Errorf("%s: More %v %d %d, not %d alone", c.name, f, v, e, c.want)
			}
		}
	}
}

// P26: what is no flow, with nothing beside the error.
func TestBadFlows(t *testing.T) {
	cases := []struct {
		name string
		n    api.Net
		f    []int
		want api.Errno
	}{
		{"no numbers", fork(), nil, api.ErrForm},
		{"empty", fork(), []int{}, api.ErrForm},
		{"one too few", fork(), times(4, 0), api.ErrForm},
		{"one too many", fork(), times(6, 0), api.ErrForm},
		{"one of no arcs", net(2, nil), times(1, 0), api.ErrForm},
		{"length ahead of what is over", fork(), []int{5, -1, 9, 9}, api.ErrForm},
		{"below 0", fork(), []int{0, 0, -1, 0, 0}, api.ErrOver},
		{"above Cap", fork(), []int{0, 0, 3, 0, 0}, api.ErrOver},
		{"the last above", line(3, 3), []int{3, 4}, api.ErrOver},
		{"all above, and nothing is lost", line(5, 3), times(4, 4), api.ErrOver},
		{"all below 0, and nothing is lost", line(5, 3), times(4, -1), api.ErrOver},
		{"a loop above Cap", net(3, arcs(1, 1, 2)), []int{3}, api.ErrOver},
		{"10001", line(2, 10000), []int{10001}, api.ErrOver},
		{"least int", line(3, 1), []int{math.MinInt, math.MinInt}, api.ErrOver},
		{"over at the last arc ahead of lost at the first", line(4, 5), []int{2, 1, 6}, api.ErrOver},
		{"comes, and does not go on", fork(), []int{1, 0, 0, 0, 0}, api.ErrLost},
		{"goes on, but did not come", fork(), []int{0, 0, 0, 0, 1}, api.ErrLost},
		{"lost between S and T", line(12, 9), []int{7, 7, 7, 7, 7, 6, 6, 6, 6, 6, 6}, api.ErrLost},
		{"a loop does not make up", net(3, arcs(0, 1, 1, 1, 1, 1)), []int{1, 1}, api.ErrLost},
	}
	for _, c := range cases {
		if f, v, e := More(c.n, c.f); f != nil || v != 0 || e != c.want {
			t.Errorf("%s: %v %d %d, not %d alone", c.name, f, v, e, c.want)
		}
	}
}

// goodCases: nets, and as much as can be.
var goodCases = []struct {
	name string
	n    api.Net
	want int
}{
	{"an arc of 4, behind it one of 3", net(3, arcs(0, 1, 4, 1, 2, 3)), 3},
	{"an arc of 3, behind it one of 4", net(3, arcs(0, 1, 3, 1, 2, 4)), 3},
	{"no arcs", net(2, nil), 0},
	{"no arcs, empty", net(12, []api.Arc{}), 0},
	{"one arc", net(2, arcs(0, 1, 7)), 7},
	{"one arc of Cap 0", net(2, arcs(0, 1, 0)), 0},
	{"the other way alone", net(2, arcs(1, 0, 7)), 0},
	{"there and back", net(2, arcs(0, 1, 7, 1, 0, 5)), 7},
	{"two alike, and one of another Cap", net(2, arcs(0, 1, 7, 0, 1, 7, 0, 1, 2)), 16},
	{"fork", fork(), 5},
	{"fork, from its sink", back(fork()), 0},
	{"bridge", bridge(5, 5), 10},
	{"bridge of little between", bridge(10000, 1), 20000},
	{"bridge of as much as can be", bridge(10000, 10000), 20000},
	{"all must go over the bridge", net(4, arcs(0, 1, 9, 1, 2, 4, 2, 3, 9)), 4},
	{"trap", trap(1), 2},
	{"greatest trap", trap(10000), 20000},
	{"a longest line", line(12, 10000), 10000},
	{"a longest line, from its sink", back(line(12, 10000)), 0},
	{"a line that is broken", net(4, arcs(0, 1, 9, 1, 2, 0, 2, 3, 9)), 0},
	{"as much as can be at all", net(2, alike(60, 0, 1, 10000)), 600000},
	{"half of all arcs at each end", net(3, append(alike(30, 0, 1, 10000), alike(30, 1, 2, 10000)...)), 300000},
	{"loops", net(3, arcs(0, 0, 5, 0, 1, 3, 1, 1, 9, 1, 2, 2, 2, 2, 4)), 2},
	{"loops alone", net(2, arcs(0, 0, 5, 1, 1, 5)), 0},
	{"arcs to S and from T", net(3, arcs(1, 0, 8, 2, 1, 8, 0, 1, 3, 1, 2, 5, 2, 0, 9)), 3},
	{"S above T", api.Net{N: 4, S: 3, T: 1, Arcs: arcs(3, 0, 2, 0, 1, 4, 3, 1, 5, 3, 2, 9)}, 7},
	{"S and T between", api.Net{N: 5, S: 2, T: 3, Arcs: arcs(2, 0, 4, 0, 1, 3, 1, 4, 2, 4, 3, 9, 2, 3, 1)}, 3},
	{"a round that can't be come to", net(5, arcs(0, 4, 3, 1, 2, 6, 2, 3, 6, 3, 1, 6)), 3},
}

// P25, P26.
func TestByHand(t *testing.T) {
	for _, c := range goodCases {
		// The hand-made number is held against the sides as well.
		if s := leastSide(c.n); s != c.want {
			t.Errorf("%s: it should be %d", c.name, s)
		}
		check(t, c.n, c.want)
		checkMore(t, c.n, times(len(c.n.Arcs), 0), c.want)
	}
}

// P26, from flows that are not nothing.
func TestMoreByHand(t *testing.T) {
	cases := []struct {
		name string
		n    api.Net
		f    []int
		want int
	}{
		{"as much as can be already", fork(), []int{3, 2, 2, 1, 3}, 5},
		{"a bit is there", fork(), []int{1, 0, 1, 0, 0}, 5},
		{"back over the bridge", bridge(1, 1), []int{1, 0, 1, 0, 1}, 2},
		{"much back over the bridge", bridge(10000, 10000), []int{10000, 0, 10000, 0, 10000}, 20000},
		{"back along the trap", trap(3), []int{3, 3, 3, 0, 0, 0, 0, 0, 0}, 6},
		{"no way but from the sink", back(line(3, 7)), []int{4, 4}, 0},
		{"all comes from the sink", back(line(12, 10000)), times(11, 10000), 0},
		{"as little as can be at all", back(net(2, alike(60, 0, 1, 10000))), times(60, 10000), 0},
		{"more comes back to S", net(2, arcs(0, 1, 5, 1, 0, 9)), []int{2, 9}, 5},
		{"a round that is full", net(3, arcs(0, 1, 6, 1, 0, 6, 1, 2, 4)), []int{6, 6, 0}, 4},
		{"a round apart", net(5, arcs(0, 4, 3, 1, 2, 6, 2, 3, 6, 3, 1, 6)), []int{0, 6, 6, 6}, 3},
		{"loops that are full", net(3, arcs(0, 0, 5, 0, 1, 3, 1, 1, 9, 1, 2, 2, 2, 2, 4)), []int{5, 0, 9, 0, 4}, 2},
		{"as much as can be at all", net(2, alike(60, 0, 1, 10000)), times(60, 9999), 600000},
	}
	for _, c := range cases {
		if s := leastSide(c.n); s != c.want {
			t.Errorf("%s: it should be %d", c.name, s)
		}
		checkMore(t, c.n, c.f, c.want)
	}
}

// check holds Of against as much as can be.
func check(t *testing.T, n api.Net, want int) {
	t.Helper()
	f, v, e := Of(n)
	if e != api.OK || v != want {
		t.Fatalf("%v: Of %v %d %d, not %d", n, f, v, e, want)
	}
	checkFlow(t, n, f, v)
}

// checkMore holds More against as much as can be.
func checkMore(t *testing.T, n api.Net, from []int, want int) {
	t.Helper()
	f, v, e := More(n, from)
	if e != api.OK || v != want {
		t.Fatalf("%v %v: More %v %d %d, not %d", n, from, f, v, e, want)
	}
	checkFlow(t, n, f, v)
}

func checkFlow(t *testing.T, n api.Net, f []int, want int) {
	t.Helper()
	if v, e := flow.Value(n, f); v != want || e != api.OK {
		t.Fatalf("%v: %v is a flow of %d (error %d), not %d", n, f, v, e, want)
	}
}

// leastSide: of all sides with S and without T the least sum of what the arcs that leave it take.
func leastSide(n api.Net) int {
	least := math.MaxInt
	for side := range 1 << n.N {
		if side>>n.S&1 == 0 || side>>n.T&1 == 1 {
			continue
		}
		sum := 0
		for _, a := range n.Arcs {
			if side>>a.From&1 == 1 && side>>a.To&1 == 0 {
				sum += a.Cap
			}
		}
		least = min(least, sum)
	}
	return least
}

// allFlows: every flow of a net, by trying all numbers along each arc.
func allFlows(n api.Net) [][]int {
	var list [][]int
	f := make([]int, len(n.Arcs))
	for {
		if flow.Check(n, f) == api.OK {
			list = append(list, slices.Clone(f))
		}
		k := 0
		for ; k < len(f) && f[k] == n.Arcs[k].Cap; k++ {
			f[k] = 0
		}
		if k == len(f) {
			return list
		}
		f[k]++
	}
}

// greatest: the greatest Value of some flows.
func greatest(n api.Net, flows [][]int) int {
	most := math.MinInt
	for _, f := range flows {
		v, _ := flow.Value(n, f)
		most = max(most, v)
	}
	return most
}

// checkAll holds Of, and More from each flow of a net, against the greatest Value of all its flows; it tells of how
// many flows the Value was less.
func checkAll(t *testing.T, n api.Net) int {
	t.Helper()
	flows := allFlows(n)
	want := greatest(n, flows)
	check(t, n, want)
	less := 0
	for _, f := range flows {
		checkMore(t, n, f, want)
		if v, _ := flow.Value(n, f); v < want {
			less++
		}
	}
	return less
}

// P25, P26, of all lists of few arcs.
func TestAllOfFewArcs(t *testing.T) {
	for _, size := range []struct{ n, arcs, most int }{{2, 3, 2}, {3, 3, 2}, {3, 4, 1}} {
		less := checkLonger(t, api.Net{N: size.n, S: size.n - 1, T: 0}, size.arcs, size.most)
		if less < 100 {
			t.Error("too few flows that are not as much as can be:", size, less)
		}
	}
}

func checkLonger(t *testing.T, n api.Net, more, most int) int {
	t.Helper()
	less := checkAll(t, n)
	if more == 0 {
		return less
	}
	for ends := range n.N * n.N {
		for x := range most + 1 {
			m := n
			m.Arcs = append(slices.Clone(n.Arcs), api.Arc{From: ends / n.N, To: ends % n.N, Cap: x})
			less += checkLonger(t, m, more-1, most)
		}
	}
	return less
}

// drawn: a net of n nodes with so many arcs of at most so much each.
func drawn(r *rand.Rand, n, many, most int) api.Net {
	d := api.Net{N: n, S: r.Intn(n)}
	d.T = (d.S + 1 + r.Intn(n-1)) % n
	for range many {
		d.Arcs = append(d.Arcs, api.Arc{From: r.Intn(n), To: r.Intn(n), Cap: r.Intn(most + 1)})
	}
	return d
}

// P25, P26, from all flows of drawn nets.
func TestAllFlowsOfDrawn(t *testing.T) {
	r := rand.New(rand.NewSource(41))
	less := 0
	for range 1000 {
		less += checkAll(t, drawn(r, 4+r.Intn(2), 5+r.Intn(3), 2))
	}
	if less < 1000 {
		t.Error("too few flows that are not as much as can be:", less)
	}
}

// P25, up to the greatest nets and Caps.
func TestDrawn(t *testing.T) {
	r := rand.New(rand.NewSource(42))
	flows := 0
	for _, most := range []int{1, 3, 20, api.MaxCap} {
		for range 1000 {
			n := drawn(r, 2+r.Intn(api.MaxN-1), r.Intn(api.MaxArcs+1), most)
			want := leastSide(n)
			check(t, n, want)
			if want > most {
				flows++
			}
		}
	}
	if flows < 1000 {
		t.Error("too few nets through which more than one arc takes goes:", flows)
	}
}

// narrow: a drawn net whose nodes stand in three rows of three between S and T, with arcs from each row to the next
// one, and a few elsewhere: many ways, most of them in each other's way.
func narrow(r *rand.Rand, most int) api.Net {
	n := net(11, nil)
	row := func(v int) int { return (v + 2) / 3 }
	for len(n.Arcs) < 24 {
		a := api.Arc{From: r.Intn(n.N), To: r.Intn(n.N), Cap: 1 + r.Intn(most)}
		if row(a.To) == row(a.From)+1 || r.Intn(30) == 0 {
			n.Arcs = append(n.Arcs, a)
		}
	}
	return n
}

// P25, P26, where what goes one way must make room for another.
func TestNarrow(t *testing.T) {
	r := rand.New(rand.NewSource(43))
	for _, most := range []int{1, 2, api.MaxCap} {
		for range 2000 {
			n := narrow(r, most)
			want := leastSide(n)
			check(t, n, want)
			f := make([]int, len(n.Arcs))
			for range 5 {
				stroll(r, n, f, n.S, n.T)
			}
			checkMore(t, n, f, want)
		}
	}
}

// stroll goes arcs that take something yet at will, from s until it comes to t, and lets some go along them; if it does
// not come there it lets nothing go.
func stroll(r *rand.Rand, n api.Net, f []int, s, t int) {
	had := slices.Clone(f)
	var gone []int
	for at := s; at != t || len(gone) == 0; {
		var on []int
		for k, a := range n.Arcs {
			if a.From == at && f[k] < a.Cap {
				on = append(on, k)
			}
		}
		if len(on) == 0 {
			copy(f, had)
			return
		}
		k := on[r.Intn(len(on))]
		gone = append(gone, k)
		f[k]++
		at = n.Arcs[k].To
	}
	more := r.Intn(api.MaxCap)
	for _, k := range gone {
		// An arc that was gone several times gets that many times as much.
		more = min(more, (n.Arcs[k].Cap-f[k])/len(gone))
	}
	for _, k := range gone {
		f[k] += more
	}
}

// drawnFlow: a drawn net, and what strolls in it from S to T, from T to S, and from a node to itself let go.
func drawnFlow(r *rand.Rand, nodes, many, most int) (api.Net, []int) {
	n := drawn(r, nodes, many, most)
	f := make([]int, many)
	for range r.Intn(4) {
		stroll(r, n, f, n.S, n.T)
	}
	for range r.Intn(4) {
		stroll(r, n, f, n.T, n.S)
	}
	for range r.Intn(4) {
		v := r.Intn(nodes)
		stroll(r, n, f, v, v)
	}
	return n, f
}

// P26, up to the greatest nets and Caps, from all kinds of flows.
func TestMoreOfDrawn(t *testing.T) {
	r := rand.New(rand.NewSource(44))
	below, less := 0, 0
	for _, most := range []int{1, 3, 20, api.MaxCap} {
		for range 1500 {
			n, f := drawnFlow(r, 2+r.Intn(api.MaxN-1), r.Intn(api.MaxArcs+1), most)
			want := leastSide(n)
			checkMore(t, n, f, want)
			if v, _ := flow.Value(n, f); v < 0 {
				below++
			} else if v > 0 && v < want {
				less++
			}
		}
	}
	if below < 500 || less < 500 {
		t.Error("too few of a kind:", below, less)
	}
}

// P26: More of what Of or More told can't tell more.
func TestNoMoreThanMost(t *testing.T) {
	r := rand.New(rand.NewSource(45))
	for range 1000 {
		n := drawn(r, 2+r.Intn(api.MaxN-1), r.Intn(api.MaxArcs+1), 50)
		f, v, _ := Of(n)
		checkMore(t, n, f, v)
	}
}

// P2: the same each time, whatever was asked between.
func TestSameEachTime(t *testing.T) {
	r := rand.New(rand.NewSource(46))
	for range 300 {
		n, from := drawnFlow(r, 6, 25, 9)
		f, v, e := Of(n)
		g, w, d := More(n, from)
		for range 5 {
			if f2, v2, e2 := Of(n); !slices.Equal(f, f2) || v != v2 || e != e2 {
				t.Fatal("Of:", n, f, v, e, f2, v2, e2)
			}
			if g2, w2, d2 := More(n, from); !slices.Equal(g, g2) || w != w2 || d != d2 {
				t.Fatal("More:", n, from, g, w, d, g2, w2, d2)
			}
			callAll(drawnFlow(r, 6, 25, 9))
		}
	}
}

// P1.
func TestNothingPanics(t *testing.T) {
	odd := []int{math.MinInt, -10001, -1, 0, 1, 2, 11, 12, 13, 10000, 10001, math.MaxInt}
	for _, n := range odd {
		for _, v := range odd {
			for _, w := range odd {
				callAll(api.Net{N: n, S: v, T: w}, nil)
				callAll(api.Net{N: n, S: v, T: w, Arcs: arcs(v, w, 1)}, []int{1})
				callAll(api.Net{N: n, S: 0, T: 1, Arcs: arcs(v, w, 1, 1, 1, 1)}, []int{1, 1})
				callAll(api.Net{N: n, S: 0, T: 1, Arcs: arcs(0, 1, v, 1, 0, w)}, []int{v, w})
				callAll(api.Net{N: 2, S: 0, T: 1, Arcs: arcs(0, 1, 10000, 1, 0, 10000)}, []int{v, w, n}[:1+(v&1)])
				callAll(api.Net{N: 3, S: 0, T: 2, Arcs: arcs(0, 1, 10000, 1, 2, 10000, 1, 1, 10000)}, []int{v, w, n})
				callAll(api.Net{N: n, S: v, T: w, Arcs: alike(61, v, w, 0)}, times(61, n))
			}
		}
	}
}

func callAll(n api.Net, f []int) {
	Of(n)
	More(n, f)
}

// P2: what is handed in stays as it is, the memory behind a list included.
func TestNothingIsChanged(t *testing.T) {
	r := rand.New(rand.NewSource(47))
	for range 1000 {
		n, f := drawnFlow(r, 2+r.Intn(5), r.Intn(31), 9)
		list := append(slices.Clone(n.Arcs), arcs(7, 7, 7, 8, 8, 8)...)
		numbers := append(slices.Clone(f), 77, 88)
		n.Arcs = list[:len(f)]
		listBefore, numbersBefore := slices.Clone(list), slices.Clone(numbers)
		callAll(n, numbers[:len(f)])
		// And a list that is no flow.
		callAll(n, numbers[:len(f)+1])
		if !slices.Equal(list, listBefore) || !slices.Equal(numbers, numbersBefore) {
			t.Fatal("changed:", listBefore, list, numbersBefore, numbers)
		}
	}
}

// spoil writes over a list, spare memory included.
func spoil(l []int) {
	l = l[:cap(l)]
	for i := range l {
		l[i] = -7
	}
}

// P2: an answer shares no memory with what was handed in, or with a later answer, also where it is what was handed in.
func TestNothingIsShared(t *testing.T) {
	r := rand.New(rand.NewSource(48))
	for range 500 {
		n, from := drawnFlow(r, 2+r.Intn(5), r.Intn(31), 9)
		f, _, _ := Of(n)
		wantOf := slices.Clone(f)
		notShared(t, n, from)
		if !slices.Equal(f, wantOf) {
			t.Fatal("an earlier answer has changed:", f, wantOf)
		}
		notShared(t, n, f)
		spoil(f)
		if again, _, _ := Of(n); !slices.Equal(again, wantOf) {
			t.Fatal("a later answer is another one:", again, wantOf)
		}
	}
}

// notShared spoils what More told, with numbers behind those that were handed in.
func notShared(t *testing.T, n api.Net, f []int) {
	t.Helper()
	numbers := append(slices.Clone(f), 77, 88)
	before := slices.Clone(numbers)
	g, _, _ := More(n, numbers[:len(f)])
	want := slices.Clone(g)
	spoil(g)
	if !slices.Equal(numbers, before) {
		t.Fatal("what was handed in has changed:", numbers, before)
	}
	if again, _, _ := More(n, numbers[:len(f)]); !slices.Equal(again, want) {
		t.Fatal("a later answer is another one:", again, want)
	}
	g, _, _ = More(n, numbers[:len(f)])
	spoil(numbers)
	if !slices.Equal(g, want) {
		t.Fatal("an answer has changed with what was handed in:", g, want)
	}
}
