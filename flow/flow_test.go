package flow

import (
	"math"
	"math/rand"
	"reflect"
	"slices"
	"testing"

	"weirmaster/api"
)

// arcs by their numbers: From, To and Cap of each.
func arcs(numbers ...int) []api.Arc {
	var list []api.Arc
	for c := range slices.Chunk(numbers, 3) {
		list = append(list, api.Arc{From: c[0], To: c[1], Cap: c[2]})
	}
	return list
}

// alike: n times the same arc.
func alike(n, from, to, most int) []api.Arc {
	return slices.Repeat(arcs(from, to, most), n)
}

// net from 0 to its last node.
func net(n int, list []api.Arc) api.Net {
	return api.Net{N: n, S: 0, T: n - 1, Arcs: list}
}

// back: the same net, from its sink to its source.
func back(n api.Net) api.Net {
	n.S, n.T = n.T, n.S
	return n
}

// line: n nodes, each with an arc to the next one, all of the same Cap.
func line(n, most int) api.Net {
	var list []api.Arc
	for v := 1; v < n; v++ {
		list = append(list, api.Arc{From: v - 1, To: v, Cap: most})
	}
	return net(n, list)
}

// times: n times the same number.
func times(n, x int) []int {
	return slices.Repeat([]int{x}, n)
}

// fork: from 0 over 1 and over 2 to 3, and from 1 to 2.
func fork() api.Net {
	return net(4, arcs(0, 1, 4, 0, 2, 3, 1, 3, 2, 1, 2, 1, 2, 3, 3))
}

// badCases: what Check does not let pass.
var badCases = []struct {
	name string
	n    api.Net
	f    []int
	want api.Errno
}{
	{"no node", api.Net{}, nil, api.ErrArg},
	{"13 nodes", line(13, 1), times(12, 0), api.ErrArg},
	{"nodes below 0", api.Net{N: -1, T: 1}, nil, api.ErrArg},
	{"greatest int of nodes", api.Net{N: math.MaxInt, T: 1}, nil, api.ErrArg},
	{"61 arcs", net(2, alike(61, 0, 1, 1)), times(61, 0), api.ErrLarge},
	{"61 arcs and no flow", net(2, alike(61, 0, 1, 1)), nil, api.ErrLarge},
	{"From at N", net(2, arcs(2, 0, 1)), times(1, 0), api.ErrNode},
	{"To below 0", net(2, arcs(0, -1, 1)), times(1, 0), api.ErrNode},
	{"Cap 10001", net(2, arcs(0, 1, 10001)), times(1, 0), api.ErrArg},
	{"Cap -1", net(2, arcs(0, 1, -1)), times(1, -1), api.ErrArg},
	{"S at N", api.Net{N: 2, S: 2, T: 1}, nil, api.ErrNode},
	{"T below 0", api.Net{N: 2, S: 0, T: -1}, nil, api.ErrNode},
	{"S is T", api.Net{N: 2, S: 1, T: 1}, nil, api.ErrForm},
	{"a bad node ahead of a flow of another length", net(2, arcs(0, 2, 1)), nil, api.ErrNode},
	{"a bad Cap ahead of a flow above it", net(2, arcs(0, 1, -1)), times(1, 5), api.ErrArg},
	{"a bad T ahead of what is over", api.Net{N: 2, T: 2, Arcs: arcs(0, 1, 1)}, times(1, 2), api.ErrNode},

	{"no numbers", fork(), nil, api.ErrForm},
	{"empty", fork(), []int{}, api.ErrForm},
	{"one too few", fork(), times(4, 0), api.ErrForm},
	{"one too many", fork(), times(6, 0), api.ErrForm},
	{"one of no arcs", net(2, nil), times(1, 0), api.ErrForm},
	{"length ahead of what is over", fork(), []int{5, -1, 9, 9}, api.ErrForm},
	{"length ahead of what is lost", fork(), []int{1, 0, 0, 0, 0, 0}, api.ErrForm},

	{"below 0", fork(), []int{0, 0, -1, 0, 0}, api.ErrOver},
	{"above Cap", fork(), []int{0, 0, 3, 0, 0}, api.ErrOver},
	{"the first below 0", line(2, 3), []int{-1}, api.ErrOver},
	{"the last above", line(3, 3), []int{3, 4}, api.ErrOver},
	{"all above, and nothing is lost", line(5, 3), times(4, 4), api.ErrOver},
	{"all below 0, and nothing is lost", line(5, 3), times(4, -1), api.ErrOver},
	{"above Cap 0", line(2, 0), []int{1}, api.ErrOver},
	{"10001", line(2, 10000), []int{10001}, api.ErrOver},
	{"least int", line(3, 1), []int{math.MinInt, math.MinInt}, api.ErrOver},
	{"greatest int", line(3, 1), []int{math.MaxInt, math.MaxInt}, api.ErrOver},
	{"sums that wrap round to 0", net(3, alike(2, 0, 1, 1)), times(2, math.MinInt), api.ErrOver},
	{"a loop above Cap", net(3, arcs(1, 1, 2)), []int{3}, api.ErrOver},
	{"a loop below 0", net(3, arcs(1, 1, 2)), []int{-1}, api.ErrOver},
	{"over at the last arc ahead of lost at the first", line(4, 5), []int{2, 1, 6}, api.ErrOver},

	{"comes, and does not go on", fork(), []int{1, 0, 0, 0, 0}, api.ErrLost},
	{"goes on, but did not come", fork(), []int{0, 0, 0, 0, 1}, api.ErrLost},
	{"one lost, one more at the next", fork(), []int{2, 1, 1, 0, 2}, api.ErrLost},
	{"lost between S and T", line(12, 9), []int{7, 7, 7, 7, 7, 6, 6, 6, 6, 6, 6}, api.ErrLost},
	{"lost at the first but S", line(12, 9), []int{8, 7, 7, 7, 7, 7, 7, 7, 7, 7, 7}, api.ErrLost},
	{"lost at the last but T", line(12, 9), []int{7, 7, 7, 7, 7, 7, 7, 7, 7, 7, 8}, api.ErrLost},
	{"lost below S", api.Net{N: 3, S: 1, T: 2, Arcs: arcs(0, 1, 1)}, []int{1}, api.ErrLost},
	{"lost above T", api.Net{N: 3, S: 0, T: 1, Arcs: arcs(0, 2, 1)}, []int{1}, api.ErrLost},
	{"a loop does not make up", net(3, arcs(0, 1, 1, 1, 1, 1)), []int{1, 1}, api.ErrLost},
	{"from S back to S, but for one", net(3, arcs(0, 1, 2, 1, 0, 2)), []int{2, 1}, api.ErrLost},
}

// P22, P23, P24: what is wrong with a flow, with nothing beside it.
func TestErrors(t *testing.T) {
	for _, c := range badCases {
		if e := Check(c.n, c.f); e != c.want {
			t.Errorf("%s: Check %d, not %d", c.name, e, c.want)
		}
		if v, e := Value(c.n, c.f); v != 0 || e != c.want {
			t.Errorf("%s: Value %d %d, not %d alone", c.name, v, e, c.want)
		}
		if ways, rounds, e := Split(c.n, c.f); ways != nil || rounds != nil || e != c.want {
			t.Errorf("%s: Split %v %v %d, not %d alone", c.name, ways, rounds, e, c.want)
		}
	}
}

// goodCases: flows, and their Values.
var goodCases = []struct {
	name string
	n    api.Net
	f    []int
	want int
}{
	{"no arcs", net(2, nil), nil, 0},
	{"no arcs, empty", net(12, []api.Arc{}), []int{}, 0},
	{"nothing goes", fork(), times(5, 0), 0},
	{"over both", fork(), []int{3, 2, 2, 1, 3}, 5},
	{"over one", fork(), []int{0, 3, 0, 0, 3}, 3},
	{"Cap 0", line(3, 0), []int{0, 0}, 0},
	{"just Cap", line(3, 7), []int{7, 7}, 7},
	{"as much as can be along a line", line(12, 10000), times(11, 10000), 10000},
	{"as much as can be at all", net(2, alike(60, 0, 1, 10000)), times(60, 10000), 600000},
	{"from the sink", back(line(3, 7)), []int{4, 4}, -4},
	{"from the sink, as much as can be", back(net(2, alike(60, 0, 1, 10000))), times(60, 10000), -600000},
	{"more comes back to S", net(2, arcs(0, 1, 5, 1, 0, 9)), []int{2, 3}, -1},
	{"as much comes back to S", net(2, arcs(0, 1, 5, 1, 0, 9)), []int{5, 5}, 0},
	{"less comes back to S", net(2, arcs(0, 1, 5, 1, 0, 9)), []int{5, 1}, 4},
	{"loops at S and T", net(2, arcs(0, 0, 5, 0, 1, 3, 1, 1, 9)), []int{5, 2, 9}, 2},
	{"a loop between", net(3, arcs(1, 1, 5, 0, 1, 3, 1, 2, 3)), []int{4, 0, 0}, 0},
	{"a round apart", net(5, arcs(0, 4, 3, 1, 2, 6, 2, 3, 6, 3, 1, 6)), []int{3, 6, 6, 6}, 3},
	{"a round through S", net(3, arcs(0, 1, 6, 1, 0, 6)), []int{6, 6}, 0},
	{"a round through T", net(3, arcs(2, 1, 6, 1, 2, 6)), []int{6, 6}, 0},
	{"through T and back", net(4, arcs(0, 3, 2, 3, 1, 5, 1, 2, 5, 2, 3, 5)), []int{2, 5, 5, 5}, 2},
	{"S above T", api.Net{N: 4, S: 3, T: 1, Arcs: arcs(3, 0, 2, 0, 1, 2, 3, 1, 2)}, []int{1, 1, 2}, 3},
	{"the first arc leads away from the way", net(4, arcs(0, 1, 9, 1, 0, 9, 0, 3, 9)), []int{9, 9, 1}, 1},
	{"a way that comes over S again", net(3, arcs(0, 2, 4, 2, 0, 3, 0, 1, 3, 1, 2, 3)), []int{4, 3, 3, 3}, 4},
}

// P22, P23, and P24 of flows that are not below 0.
func TestFlows(t *testing.T) {
	for _, c := range goodCases {
		if e := Check(c.n, c.f); e != api.OK {
			t.Errorf("%s: Check %d", c.name, e)
		}
		if v, e := Value(c.n, c.f); v != c.want || e != api.OK {
			t.Errorf("%s: Value %d %d, not %d", c.name, v, e, c.want)
		}
		if s := wrongSplit(c.n, c.f, c.want); s != "" {
			t.Errorf("%s: Split: %s", c.name, s)
		}
	}
}

// wrongSplit says what is wrong with what Split tells of a flow of such a Value.
func wrongSplit(n api.Net, f []int, value int) string {
	ways, rounds, e := Split(n, f)
	if value < 0 {
		if ways != nil || rounds != nil || e != api.ErrState {
			return "not ErrState alone"
		}
		return ""
	}
	if e != api.OK {
		return "an error"
	}
	if len(ways)+len(rounds) > len(n.Arcs) {
		return "more pieces than arcs"
	}
	sum := 0
	left := slices.Clone(f)
	for _, p := range ways {
		sum += p.Amount
		if s := wrongPiece(n.Arcs, left, p, n.S, n.T); s != "" {
			return "a way: " + s
		}
	}
	if sum != value {
		return "the ways are not the Value"
	}
	for _, p := range rounds {
		if len(p.Arcs) == 0 {
			return "a round of no arcs"
		}
		v := n.Arcs[p.Arcs[0]].From
		if s := wrongPiece(n.Arcs, left, p, v, v); s != "" {
			return "a round: " + s
		}
	}
	if slices.ContainsFunc(left, func(x int) bool { return x != 0 }) {
		return "the pieces are not the flow"
	}
	return ""
}

// wrongPiece says what is wrong with a piece from s to t; it takes it out of what is left.
func wrongPiece(list []api.Arc, left []int, p api.Piece, s, t int) string {
	if p.Amount <= 0 {
		return "an Amount that is not above 0"
	}
	at := s
	for i, k := range p.Arcs {
		if k < 0 || k >= len(list) {
			return "no such arc"
		}
		if slices.Contains(p.Arcs[:i], k) {
			return "an arc twice"
		}
		if list[k].From != at {
			return "an arc from elsewhere"
		}
		at = list[k].To
		left[k] -= p.Amount
	}
	if at != t {
		return "an end elsewhere"
	}
	return ""
}

// P24, where there is no choice, but that of a round's first arc.
func TestSplitWithoutChoice(t *testing.T) {
	cases := []struct {
		name         string
		n            api.Net
		f            []int
		ways, rounds []api.Piece
	}{
		{"nothing goes", fork(), times(5, 0), nil, nil},
		{"one way", fork(), []int{0, 3, 0, 0, 3}, []api.Piece{{Amount: 3, Arcs: []int{1, 4}}}, nil},
		{"a loop", net(3, arcs(0, 1, 5, 1, 1, 5, 1, 2, 5)), []int{0, 2, 0}, nil, []api.Piece{{Amount: 2, Arcs: []int{1}}}},
		{"there and back", net(2, arcs(0, 1, 5, 1, 0, 5)), []int{5, 1}, []api.Piece{{Amount: 4, Arcs: []int{0}}}, []api.Piece{{Amount: 1, Arcs: []int{0, 1}}}},
	}
	for _, c := range cases {
		ways, rounds, e := Split(c.n, c.f)
		for _, p := range rounds {
			slices.Sort(p.Arcs)
		}
		if e != api.OK || !slices.EqualFunc(ways, c.ways, samePiece) || !slices.EqualFunc(rounds, c.rounds, samePiece) {
			t.Errorf("%s: %v %v %d", c.name, ways, rounds, e)
		}
	}
}

func samePiece(p, q api.Piece) bool {
	return p.Amount == q.Amount && slices.Equal(p.Arcs, q.Arcs)
}

// tried: P22 and P23 word by word, of a net that is right and a flow with a number of each arc.
func tried(n api.Net, f []int) (int, api.Errno) {
	for k, a := range n.Arcs {
		if f[k] < 0 || f[k] > a.Cap {
			return 0, api.ErrOver
		}
	}
	value := 0
	for v := range n.N {
		from, to := 0, 0
		for k, a := range n.Arcs {
			if a.From == v {
				from += f[k]
			}
			if a.To == v {
				to += f[k]
			}
		}
		if v == n.S {
			value = from - to
		} else if v != n.T && from != to {
			return 0, api.ErrLost
		}
	}
	return value, api.OK
}

// check holds all three calls against what is tried; it tells the error, or ErrState of a Value below 0.
func check(t *testing.T, n api.Net, f []int) api.Errno {
	t.Helper()
	want, err := tried(n, f)
	if e := Check(n, f); e != err {
		t.Fatalf("%v %v: Check %d, not %d", n, f, e, err)
	}
	if v, e := Value(n, f); v != want || e != err {
		t.Fatalf("%v %v: Value %d %d, not %d %d", n, f, v, e, want, err)
	}
	if err != api.OK {
		if ways, rounds, e := Split(n, f); ways != nil || rounds != nil || e != err {
			t.Fatalf("%v %v: Split %v %v %d, not %d alone", n, f, ways, rounds, e, err)
		}
		return err
	}
	if s := wrongSplit(n, f, want); s != "" {
		t.Fatalf("%v %v: Split: %s", n, f, s)
	}
	if want < 0 {
		return api.ErrState
	}
	return api.OK
}

// P22, P23, P24, of all lists of few arcs with Cap 2, and all numbers from -1 to 3 along each.
func TestAllOfFewArcs(t *testing.T) {
	for _, size := range []struct{ n, most int }{{2, 4}, {3, 3}} {
		checkLonger(t, api.Net{N: size.n, S: size.n - 1, T: 0}, nil, size.most)
	}
}

func checkLonger(t *testing.T, n api.Net, f []int, more int) {
	t.Helper()
	check(t, n, f)
	if more == 0 {
		return
	}
	for ends := range n.N * n.N {
		m := n
		m.Arcs = append(slices.Clone(n.Arcs), api.Arc{From: ends / n.N, To: ends % n.N, Cap: 2})
		for x := -1; x <= 3; x++ {
			checkLonger(t, m, append(slices.Clone(f), x), more-1)
		}
	}
}

// P24, of all flows of at most 2 along each arc of a net in which every node leads to every other one.
func TestAllFlowsOfThree(t *testing.T) {
	n := net(3, arcs(0, 1, 2, 1, 0, 2, 1, 2, 2, 2, 1, 2, 0, 2, 2, 2, 0, 2, 1, 1, 2))
	told := map[api.Errno]int{}
	for i := range 3 * 3 * 3 * 3 * 3 * 3 * 3 {
		f := make([]int, len(n.Arcs))
		for k := range f {
			f[k] = i % 3
			i /= 3
		}
		told[check(t, n, f)]++
	}
	if told[api.OK] < 100 || told[api.ErrState] < 100 || told[api.ErrLost] < 100 {
		t.Error("too few of a kind:", told)
	}
}

// drawn: a net of n nodes with so many arcs, and of each how much goes along it: nothing yet.
func drawn(r *rand.Rand, n, many int) (api.Net, []int) {
	d := api.Net{N: n, S: r.Intn(n)}
	d.T = (d.S + 1 + r.Intn(n-1)) % n
	for range many {
		d.Arcs = append(d.Arcs, api.Arc{From: r.Intn(n), To: r.Intn(n)})
	}
	return d, make([]int, many)
}

// stroll goes arcs at will, from s until it comes to t, and lets so much go along them; if it does not come there it
// lets nothing go.
func stroll(r *rand.Rand, n api.Net, f []int, s, t, amount int) {
	var gone []int
	for at := s; len(gone) < 40; {
		var on []int
		for k, a := range n.Arcs {
			if a.From == at {
				on = append(on, k)
			}
		}
		if len(on) == 0 {
			return
		}
		k := on[r.Intn(len(on))]
		gone = append(gone, k)
		if at = n.Arcs[k].To; at == t {
			break
		}
	}
	if n.Arcs[gone[len(gone)-1]].To != t {
		return
	}
	for _, k := range gone {
		f[k] += amount
	}
}

// drawnFlow: strolls from S to T, fewer from T to S, and some from a node to itself, of at most so much each.
func drawnFlow(r *rand.Rand, nodes, many, most int) (api.Net, []int) {
	n, f := drawn(r, nodes, many)
	for range r.Intn(6) {
		stroll(r, n, f, n.S, n.T, 1+r.Intn(most))
	}
	for range r.Intn(3) {
		stroll(r, n, f, n.T, n.S, 1+r.Intn(most))
	}
	for range r.Intn(6) {
		v := r.Intn(nodes)
		stroll(r, n, f, v, v, 1+r.Intn(most))
	}
	for k, x := range f {
		n.Arcs[k].Cap = min(x+r.Intn(2)*r.Intn(5), api.MaxCap)
	}
	return n, f
}

// P22, P23, P24, up to the greatest nets.
func TestDrawn(t *testing.T) {
	r := rand.New(rand.NewSource(31))
	told := map[api.Errno]int{}
	for range 20000 {
		n, f := drawnFlow(r, 2+r.Intn(api.MaxN-1), r.Intn(api.MaxArcs+1), 1+r.Intn(20))
		told[check(t, n, f)]++
		if len(f) == 0 {
			continue
		}
		// One unit more or less along one arc is a flow no more, or over, or another flow between S and T.
		f[r.Intn(len(f))] += 1 - 2*r.Intn(2)
		told[check(t, n, f)]++
	}
	for _, e := range []api.Errno{api.OK, api.ErrOver, api.ErrLost, api.ErrState} {
		if told[e] < 1000 {
			t.Error("too few of a kind:", e, told)
		}
	}
}

// P24: among few nodes many rounds go through S and T.
func TestDrawnAmongFew(t *testing.T) {
	r := rand.New(rand.NewSource(32))
	told := map[api.Errno]int{}
	for range 20000 {
		n, f := drawnFlow(r, 2+r.Intn(3), 1+r.Intn(9), 1+r.Intn(3))
		told[check(t, n, f)]++
	}
	if told[api.OK] < 5000 || told[api.ErrState] < 1000 || len(told) != 2 {
		t.Error("too few of a kind, or one too many:", told)
	}
}

// P2: the same each time, whatever was asked between.
func TestSameEachTime(t *testing.T) {
	r := rand.New(rand.NewSource(33))
	for range 300 {
		n, f := drawnFlow(r, 6, 25, 9)
		ways, rounds, e := Split(n, f)
		for range 5 {
			w, c, d := Split(n, f)
			if !reflect.DeepEqual(w, ways) || !reflect.DeepEqual(c, rounds) || d != e {
				t.Fatal(n, f, ways, rounds, e, w, c, d)
			}
			Split(drawnFlow(r, 6, 25, 9))
		}
	}
}

// P1.
func TestNothingPanics(t *testing.T) {
	odd := []int{math.MinInt, -10001, -1, 0, 1, 2, 11, 12, 13, 10000, 10001, math.MaxInt}
	for _, n := range odd {
		for _, v := range odd {
			for _, w := range odd {
				callAll(api.Net{N: n, S: v, T: w}, nil)
				callAll(api.Net{N: n, S: v, T: w, Arcs: arcs(v, w, 1)}, []int{1})
				callAll(api.Net{N: n, S: 0, T: 1, Arcs: arcs(v, w, 1, 1, 1, 1)}, []int{1, 1})
				callAll(api.Net{N: n, S: 0, T: 1, Arcs: arcs(0, 1, v, 1, 0, w)}, []int{v, w})
				callAll(api.Net{N: 2, S: 0, T: 1, Arcs: arcs(0, 1, 10000, 1, 0, 10000)}, []int{v, w, n}[:1+(v&1)])
				callAll(api.Net{N: 3, S: 0, T: 2, Arcs: arcs(0, 1, 10000, 1, 2, 10000, 1, 1, 10000)}, []int{v, w, n})
				callAll(api.Net{N: n, S: v, T: w, Arcs: alike(61, v, w, 0)}, times(61, n))
			}
		}
	}
}

func callAll(n api.Net, f []int) {
	Check(n, f)
	Value(n, f)
	Split(n, f)
}

// P2: what is handed in stays as it is, the memory behind a list included.
func TestNothingIsChanged(t *testing.T) {
	r := rand.New(rand.NewSource(34))
	for range 1000 {
		n, f := drawnFlow(r, 2+r.Intn(5), 1+r.Intn(30), 9)
		list := append(slices.Clone(n.Arcs), arcs(7, 7, 7, 8, 8, 8)...)
		numbers := append(slices.Clone(f), 77, 88)
		n.Arcs = list[:len(f)]
		listBefore, numbersBefore := slices.Clone(list), slices.Clone(numbers)
		callAll(n, numbers[:len(f)])
		if !slices.Equal(list, listBefore) || !slices.Equal(numbers, numbersBefore) {
			t.Fatal("changed:", listBefore, list, numbersBefore, numbers)
		}
	}
}

// spoil writes over a list, spare memory included.
func spoil[T any](l []T, by T) {
	l = l[:cap(l)]
	for i := range l {
		l[i] = by
	}
}

// P2: no list of an answer shares memory with another one of it, with what was handed in, or with a later answer.
func TestNothingIsShared(t *testing.T) {
	r := rand.New(rand.NewSource(35))
	looked := 0
	for range 500 {
		n, f := drawnFlow(r, 2+r.Intn(5), 1+r.Intn(30), 9)
		listBefore, before := slices.Clone(n.Arcs), slices.Clone(f)
		ways, rounds, e := Split(n, f)
		wantWays, wantRounds, _ := Split(n, f)
		if e != api.OK {
			continue
		}
		// Each list is looked at after those ahead of it were spoilt.
		for i, p := range ways {
			same(t, p, wantWays[i])
		}
		spoil(ways, api.Piece{Amount: -5})
		for i, p := range rounds {
			same(t, p, wantRounds[i])
		}
		if len(ways) > 1 && len(rounds) > 1 {
			looked++
		}
		spoil(rounds, api.Piece{Amount: -6})
		if !slices.Equal(n.Arcs, listBefore) || !slices.Equal(f, before) {
			t.Fatal("what was handed in has changed:", n, f)
		}
		again, andRounds, _ := Split(n, f)
		if !reflect.DeepEqual(again, wantWays) || !reflect.DeepEqual(andRounds, wantRounds) {
			t.Fatal("a later answer is another one:", n, f)
		}
	}
	if looked < 50 {
		t.Error("too few with several pieces of both kinds:", looked)
	}
}

// same holds a piece against what it should be, and spoils it.
func same(t *testing.T, p, want api.Piece) {
	t.Helper()
	if !samePiece(p, want) {
		t.Fatal("a piece has changed:", p, want)
	}
	spoil(p.Arcs, -7)
}
