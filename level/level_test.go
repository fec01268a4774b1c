package level

import (
	"math"
	"math/rand"
	"slices"
	"testing"

	"weirmaster/api"
	"weirmaster/flow"
)

// arcs by their numbers: From, To and Cap of each.
func arcs(numbers ...int) []api.Arc {
	var list []api.Arc
	for c := range slices.Chunk(numbers, 3) {
		list = append(list, api.Arc{From: c[0], To: c[1], Cap: c[2]})
	}
	return list
}

// alike: n times the same arc.
func alike(n, from, to, most int) []api.Arc {
	return slices.Repeat(arcs(from, to, most), n)
}

// net from 0 to its last node.
func net(n int, list []api.Arc) api.Net {
	return api.Net{N: n, S: 0, T: n - 1, Arcs: list}
}

// back: the same net, from its sink to its source.
func back(n api.Net) api.Net {
	n.S, n.T = n.T, n.S
	return n
}

// line: n nodes, each with an arc to the next one, all of the same Cap.
func line(n, most int) api.Net {
	var list []api.Arc
	for v := 1; v < n; v++ {
		list = append(list, api.Arc{From: v - 1, To: v, Cap: most})
	}
	return net(n, list)
}

// fork: from 0 over 1 and over 2 to 3, and from 1 to 2.
func fork() api.Net {
	return net(4, arcs(0, 1, 4, 0, 2, 3, 1, 3, 2, 1, 2, 1, 2, 3, 3))
}

// bridge: from 0 over 1 and over 2 to 3, so much along each arc, and from 1 to 2 as much as given.
func bridge(most, between int) api.Net {
	return net(4, arcs(0, 1, most, 0, 2, most, 1, 2, between, 1, 3, most, 2, 3, most))
}

// trap: the one shortest way, by 1 and 2 to 7, uses up what the two longer ways need: 0 to 2 over 3 and 4 on one side,
// 1 to 7 over 5 and 6 on the other.
func trap(most int) api.Net {
	var list []api.Arc
	for _, ends := range [][2]int{{0, 1}, {1, 2}, {2, 7}, {0, 3}, {3, 4}, {4, 2}, {1, 5}, {5, 6}, {6, 7}} {
		list = append(list, api.Arc{From: ends[0], To: ends[1], Cap: most})
	}
	return net(8, list)
}

// parting: the shortest way leads by 1 and 2 to 11; when it is full two longer ways share the three arcs by 3 to 2, and
// from there one leads back to 1 and on, one on by 7, both in four steps.
func parting(most int) api.Net {
	var list []api.Arc
	for _, ends := range [][2]int{{0, 1}, {1, 2}, {2, 11}, {1, 5}, {5, 6}, {6, 11}, {2, 7}, {7, 8}, {8, 9}, {9, 11}} {
		list = append(list, api.Arc{From: ends[0], To: ends[1], Cap: most})
	}
	return net(12, append(list, arcs(0, 3, 2*most, 3, 4, 2*most, 4, 2, 2*most)...))
}

// rungs: a line, and from each node of it an arc of Cap 1 to T: one way of each length.
func rungs(n int) api.Net {
	list := alike(1, n-2, n-1, 1)
	for v := range n - 2 {
		list = append(list, arcs(v, v+1, n, v, n-1, 1)...)
	}
	return net(n, list)
}

// turned: all arcs turned round, S and T changed.
func turned(n api.Net) api.Net {
	n = back(n)
	n.Arcs = slices.Clone(n.Arcs)
	for k, a := range n.Arcs {
		n.Arcs[k] = api.Arc{From: a.To, To: a.From, Cap: a.Cap}
	}
	return n
}

// abreast: a line of 12 nodes with five arcs of 10000 from each to the next one, but one of 1 to the last.
func abreast() api.Net {
	list := arcs(10, 11, 1)
	for v := range 10 {
		list = append(list, alike(5, v, v+1, 10000)...)
	}
	return net(12, list)
}

// badNets: what graph.CheckNet does not let pass.
var badNets = []struct {
	name string
	n    api.Net
	want api.Errno
}{
	{"no node", api.Net{}, api.ErrArg},
	{"13 nodes", line(13, 1), api.ErrArg},
	{"nodes below 0", api.Net{N: -1, T: 1}, api.ErrArg},
	{"greatest int of nodes", api.Net{N: math.MaxInt, T: 1}, api.ErrArg},
	{"61 arcs", net(2, alike(61, 0, 1, 1)), api.ErrLarge},
	{"61 arcs, the first to no node", net(2, alike(61, 0, 2, 1)), api.ErrLarge},
	{"From at N", net(2, arcs(2, 0, 1)), api.ErrNode},
	{"From below 0", net(2, arcs(-1, 0, 1)), api.ErrNode},
	{"To at N", net(12, arcs(0, 12, 1)), api.ErrNode},
	{"To below 0", net(2, arcs(0, -1, 1)), api.ErrNode},
	{"Cap 10001", net(2, arcs(0, 1, 10001)), api.ErrArg},
	{"Cap -1", net(2, arcs(0, 1, -1)), api.ErrArg},
	{"Cap -1 at the last arc", net(3, arcs(0, 1, 5, 1, 2, 5, 2, 2, -1)), api.ErrArg},
	{"least int of Cap", net(2, arcs(0, 1, math.MinInt)), api.ErrArg},
	{"S at N", api.Net{N: 2, S: 2, T: 1}, api.ErrNode},
	{"S below 0", api.Net{N: 2, S: -1, T: 1}, api.ErrNode},
	{"T at N", api.Net{N: 12, S: 0, T: 12}, api.ErrNode},
	{"T below 0", api.Net{N: 2, S: 0, T: -1}, api.ErrNode},
	{"S is T", api.Net{N: 2, S: 1, T: 1}, api.ErrForm},
	{"one node", api.Net{N: 1}, api.ErrForm},
	{"a bad Cap ahead of S that is T", api.Net{N: 2, Arcs: arcs(0, 1, -1)}, api.ErrArg},
	{"S and T the same, but no node", api.Net{N: 2, S: 2, T: 2}, api.ErrNode},
}

// P29: a net that is not right, with nothing beside the error.
func TestBadNets(t *testing.T) {
	for _, c := range badNets {
		if f, v, r, e := Of(c.n); f != nil || v != 0 || r != 0 || e != c.want {
			t.Errorf("%s: %v %d %d %d, not %d alone", c.name, f, v, r, e, c.want)
		}
	}
}

// P29: nets of which the rounds are the same, however the ways are chosen.
func TestByHand(t *testing.T) {
	cases := []struct {
		name         string
		n            api.Net
		want, rounds int
	}{
		{"one arc", net(2, arcs(0, 1, 7)), 7, 1},
		{"an arc of 4, behind it one of 3", net(3, arcs(0, 1, 4, 1, 2, 3)), 3, 1},
		{"an arc of 3, behind it one of 4", net(3, arcs(0, 1, 3, 1, 2, 4)), 3, 1},
		{"no arcs", net(2, nil), 0, 0},
		{"no arcs, empty", net(12, []api.Arc{}), 0, 0},
		{"one arc of Cap 0", net(2, arcs(0, 1, 0)), 0, 0},
		{"the other way alone", net(2, arcs(1, 0, 7)), 0, 0},
		{"there and back", net(2, arcs(0, 1, 7, 1, 0, 5)), 7, 1},
		{"two alike, and one of another Cap", net(2, arcs(0, 1, 7, 0, 1, 7, 0, 1, 2)), 16, 1},
		{"fork", fork(), 5, 1},
		{"fork, from its sink", back(fork()), 0, 0},
		{"fork, of which more comes to 1", net(4, arcs(0, 1, 5, 0, 2, 2, 1, 3, 2, 1, 2, 1, 2, 3, 3)), 5, 2},
		{"bridge", bridge(5, 5), 10, 1},
		{"bridge of as much as can be", bridge(10000, 10000), 20000, 1},
		{"all must go over the bridge", net(4, arcs(0, 1, 9, 1, 2, 4, 2, 3, 9)), 4, 1},
		{"an arc, then two ways at one time", net(5, arcs(0, 1, 2, 1, 2, 1, 1, 3, 1, 2, 4, 1, 3, 4, 1)), 2, 1},
		{"two ways at one time, then an arc", net(5, arcs(0, 1, 1, 0, 2, 1, 1, 3, 1, 2, 3, 1, 3, 4, 2)), 2, 1},
		{"two steps and three", net(4, arcs(0, 1, 1, 1, 3, 1, 0, 2, 1, 2, 1, 1, 1, 3, 1)), 2, 2},
		{"trap", trap(1), 2, 2},
		{"greatest trap", trap(10000), 20000, 2},
		{"turned trap", turned(trap(3)), 6, 2},
		{"parting", parting(1), 3, 2},
		{"greatest parting", parting(5000), 15000, 2},
		{"turned parting", turned(parting(2)), 6, 2},
		{"a longest line", line(12, 10000), 10000, 1},
		{"a longest line, from its sink", back(line(12, 10000)), 0, 0},
		{"a line that is broken", net(4, arcs(0, 1, 9, 1, 2, 0, 2, 3, 9)), 0, 0},
		{"as much as can be at all", net(2, alike(60, 0, 1, 10000)), 600000, 1},
		{"half of all arcs at each end", net(3, append(alike(30, 0, 1, 10000), alike(30, 1, 2, 10000)...)), 300000, 1},
		{"five abreast, and one", abreast(), 1, 1},
		{"one, and five abreast", turned(abreast()), 1, 1},
		{"loops", net(3, arcs(0, 0, 5, 0, 1, 3, 1, 1, 9, 1, 2, 2, 2, 2, 4)), 2, 1},
		{"loops alone", net(2, arcs(0, 0, 5, 1, 1, 5)), 0, 0},
		{"arcs to S and from T", net(3, arcs(1, 0, 8, 2, 1, 8, 0, 1, 3, 1, 2, 5, 2, 0, 9)), 3, 1},
		{"S above T", api.Net{N: 4, S: 3, T: 1, Arcs: arcs(3, 0, 2, 0, 1, 4, 3, 1, 5, 3, 2, 9)}, 7, 2},
		{"S and T between", api.Net{N: 5, S: 2, T: 3, Arcs: arcs(2, 0, 4, 0, 1, 3, 1, 4, 2, 4, 3, 9, 2, 3, 1)}, 3, 2},
		{"nodes behind T", net(4, arcs(0, 3, 2, 3, 1, 5, 1, 2, 5, 2, 3, 5)), 2, 1},
		{"a round that can't be come to", net(5, arcs(0, 4, 3, 1, 2, 6, 2, 3, 6, 3, 1, 6)), 3, 1},
		{"what leads nowhere", net(4, arcs(0, 1, 9, 0, 2, 9, 2, 3, 4)), 4, 1},
	}
	for _, c := range cases {
		// The hand-made number is held against the sides as well.
		if s := leastSide(c.n); s != c.want {
			t.Errorf("%s: it should be %d", c.name, s)
		}
		if r := check(t, c.n); r != c.rounds {
			t.Errorf("%s: %d rounds, not %d", c.name, r, c.rounds)
		}
		c.n.Arcs = slices.Clone(c.n.Arcs)
		slices.Reverse(c.n.Arcs)
		if r := check(t, c.n); r != c.rounds {
			t.Errorf("%s, its arcs from the last one on: %d rounds, not %d", c.name, r, c.rounds)
		}
	}
}

// P29: there may be N - 1 rounds, and no more.
func TestMostRounds(t *testing.T) {
	for n := 2; n <= api.MaxN; n++ {
		for _, c := range []api.Net{rungs(n), turned(rungs(n))} {
			if s := leastSide(c); s != n-1 {
				t.Errorf("%d nodes: it should be %d", n, s)
			}
			if r := check(t, c); r != n-1 {
				t.Errorf("%d nodes: %d rounds, not %d", n, r, n-1)
			}
		}
	}
}

// check holds Of against the sides, and its rounds against the bounds of their number; it tells how many they are.
func check(t *testing.T, n api.Net) int {
	t.Helper()
	want := leastSide(n)
	f, v, rounds, e := Of(n)
	if e != api.OK || v != want {
		t.Fatalf("%v: %v %d %d %d, not %d", n, f, v, rounds, e, want)
	}
	if v, e := flow.Value(n, f); v != want || e != api.OK {
		t.Fatalf("%v: %v is a flow of %d (error %d), not %d", n, f, v, e, want)
	}
	if want == 0 && rounds != 0 {
		t.Fatalf("%v: %d rounds for nothing", n, rounds)
	}
	// T is farther in each round, at most N - 1, and at first as far as the arcs tell.
	if want > 0 && (rounds < 1 || rounds > n.N-howFar(n, nothing)[n.T]) {
		t.Fatalf("%v: %d rounds", n, rounds)
	}
	return rounds
}

// leastSide: of all sides with S and without T the least sum of what the arcs that leave it take.
func leastSide(n api.Net) int {
	least := math.MaxInt
	for side := range 1 << n.N {
		if side>>n.S&1 == 0 || side>>n.T&1 == 1 {
			continue
		}
		sum := 0
		for _, a := range n.Arcs {
			if side>>a.From&1 == 1 && side>>a.To&1 == 0 {
				sum += a.Cap
			}
		}
		least = min(least, sum)
	}
	return least
}

// small: what goes along each of few arcs.
type small [12]int

// nothing goes along any arc, also of the longest list.
var nothing = make([]int, api.MaxArcs)

// told: what Of may tell.
type told struct {
	flow   small
	rounds int
}

// away: farther than any node can be.
const away = 99

// howFar: by what is left, of each node from S.
func howFar(n api.Net, f []int) [api.MaxN]int {
	var far [api.MaxN]int
	for v := range far {
		far[v] = away
	}
	far[n.S] = 0
	for before := far; ; before = far {
		for k, a := range n.Arcs {
			if f[k] < a.Cap {
				far[a.To] = min(far[a.To], far[a.From]+1)
			}
			if f[k] > 0 {
				far[a.From] = min(far[a.From], far[a.To]+1)
			}
		}
		if far == before {
			return far
		}
	}
}

// mayTell: all that P29 lets Of tell of a net of few arcs that take little.
func mayTell(n api.Net) map[told]bool {
	all := map[told]bool{}
	begun := map[small]bool{{}: true}
	for rounds := 0; len(begun) > 0; rounds++ {
		full := map[small]bool{}
		for f := range begun {
			far := howFar(n, f[:])
			if far[n.T] == away {
				all[told{f, rounds}] = true
			} else {
				fill(n, f, far, full, map[small]bool{})
			}
		}
		begun = full
	}
	return all
}

// fill finds all flows that are FULL for these distances, and come of f by ways of 1 each; it leaves out what was seen.
func fill(n api.Net, f small, far [api.MaxN]int, full, seen map[small]bool) {
	if seen[f] {
		return
	}
	seen[f] = true
	more := oneMore(n, f, far, n.S)
	if len(more) == 0 {
		full[f] = true
	}
	for _, g := range more {
		fill(n, g, far, full, seen)
	}
}

// oneMore: what can come of f, if 1 more goes from v to T by steps that each lead just one farther.
func oneMore(n api.Net, f small, far [api.MaxN]int, v int) []small {
	if v == n.T {
		return []small{f}
	}
	var list []small
	for k, a := range n.Arcs {
		if a.From == v && far[a.To] == far[v]+1 && f[k] < a.Cap {
			g := f
			g[k]++
			list = append(list, oneMore(n, g, far, a.To)...)
		}
		if a.To == v && far[a.From] == far[v]+1 && f[k] > 0 {
			g := f
			g[k]--
			list = append(list, oneMore(n, g, far, a.From)...)
		}
	}
	return list
}

// checkMay holds Of against all that it may tell; it tells how many rounds there were.
func checkMay(t *testing.T, n api.Net) int {
	t.Helper()
	rounds := check(t, n)
	f, _, _, _ := Of(n)
	var g small
	copy(g[:], f)
	if may := mayTell(n); !may[told{g, rounds}] {
		t.Fatalf("%v: %v in %d rounds is none of %v", n, f, rounds, may)
	}
	return rounds
}

// P29, of all lists of few arcs.
func TestAllOfFewArcs(t *testing.T) {
	sizes := []struct{ n, arcs, most, several int }{{2, 3, 2, 0}, {3, 3, 2, 40}, {3, 4, 1, 40}, {4, 3, 1, 10}}
	for _, size := range sizes {
		several := checkLonger(t, api.Net{N: size.n, S: size.n - 1, T: 0}, size.arcs, size.most)
		if several < size.several {
			t.Error("too few nets that take several rounds:", size, several)
		}
	}
}

// checkLonger checks a net and all that have so many more arcs; it tells how many of them took several rounds.
func checkLonger(t *testing.T, n api.Net, more, most int) int {
	t.Helper()
	several := 0
	if checkMay(t, n) > 1 {
		several++
	}
	if more == 0 {
		return several
	}
	for ends := range n.N * n.N {
		for x := range most + 1 {
			m := n
			m.Arcs = append(slices.Clone(n.Arcs), api.Arc{From: ends / n.N, To: ends % n.N, Cap: x})
			several += checkLonger(t, m, more-1, most)
		}
	}
	return several
}

// drawn: a net of n nodes with so many arcs of at most so much each.
func drawn(r *rand.Rand, n, many, most int) api.Net {
	d := api.Net{N: n, S: r.Intn(n)}
	d.T = (d.S + 1 + r.Intn(n-1)) % n
	for range many {
		d.Arcs = append(d.Arcs, api.Arc{From: r.Intn(n), To: r.Intn(n), Cap: r.Intn(most + 1)})
	}
	return d
}

// P29: of drawn nets of few arcs all that it may tell.
func TestMayOfDrawn(t *testing.T) {
	r := rand.New(rand.NewSource(61))
	several, many := 0, 0
	for range 30000 {
		rounds := checkMay(t, drawn(r, 4+r.Intn(3), 6+r.Intn(7), 2))
		if rounds > 1 {
			several++
		}
		if rounds > 2 {
			many++
		}
	}
	if several < 1000 || many < 20 {
		t.Error("too few nets that take several rounds:", several, many)
	}
}

// P29, up to the greatest nets and Caps.
func TestDrawn(t *testing.T) {
	r := rand.New(rand.NewSource(62))
	for _, most := range []int{1, 3, 20, api.MaxCap} {
		several := 0
		for range 1000 {
			if check(t, drawn(r, 2+r.Intn(api.MaxN-1), r.Intn(api.MaxArcs+1), most)) > 1 {
				several++
			}
		}
		if several < 100 {
			t.Error("too few nets that take several rounds:", most, several)
		}
	}
}

// narrow: a drawn net whose nodes stand in rows of so many between S and T, with arcs from each row to the next one,
// and a few elsewhere: many ways, most of them in each other's way.
func narrow(r *rand.Rand, rows, wide, many, most int) api.Net {
	n := net(rows*wide+2, nil)
	row := func(v int) int { return (v + wide - 1) / wide }
	for len(n.Arcs) < many {
		a := api.Arc{From: r.Intn(n.N), To: r.Intn(n.N), Cap: 1 + r.Intn(most)}
		if row(a.To) == row(a.From)+1 || r.Intn(30) == 0 {
			n.Arcs = append(n.Arcs, a)
		}
	}
	return n
}

// P29, where what goes one way must make room for another.
func TestNarrow(t *testing.T) {
	r := rand.New(rand.NewSource(63))
	for _, most := range []int{1, 2} {
		several := 0
		for range 3000 {
			if checkMay(t, narrow(r, 3, 2, 12, most)) > 1 {
				several++
			}
		}
		if several < 150 {
			t.Error("too few nets that take several rounds:", most, several)
		}
	}
	for _, most := range []int{1, 3, api.MaxCap} {
		several := 0
		for range 1000 {
			if check(t, narrow(r, 3, 3, 24, most)) > 1 {
				several++
			}
		}
		if several < 50 {
			t.Error("too few nets that take several rounds:", most, several)
		}
	}
}

// P2: the same each time, whatever was asked between.
func TestSameEachTime(t *testing.T) {
	r := rand.New(rand.NewSource(64))
	for range 300 {
		n := drawn(r, 6, 25, 9)
		f, v, rounds, e := Of(n)
		for range 5 {
			if f2, v2, rounds2, e2 := Of(n); !slices.Equal(f, f2) || v != v2 || rounds != rounds2 || e != e2 {
				t.Fatal(n, f, v, rounds, e, f2, v2, rounds2, e2)
			}
			Of(drawn(r, 6, 25, 9))
		}
	}
}

// P1.
func TestNothingPanics(t *testing.T) {
	odd := []int{math.MinInt, -10001, -1, 0, 1, 2, 11, 12, 13, 10000, 10001, math.MaxInt}
	for _, n := range odd {
		for _, v := range odd {
			for _, w := range odd {
				Of(api.Net{N: n, S: v, T: w})
				Of(api.Net{N: n, S: v, T: w, Arcs: arcs(v, w, 1)})
				Of(api.Net{N: n, S: 0, T: 1, Arcs: arcs(v, w, 1, 1, 1, 1)})
				Of(api.Net{N: n, S: 0, T: 1, Arcs: arcs(0, 1, v, 1, 0, w)})
				Of(api.Net{N: n, S: v, T: w, Arcs: alike(61, v, w, 0)})
			}
		}
	}
}

// P2: what is handed in stays as it is, the memory behind a list included.
func TestNothingIsChanged(t *testing.T) {
	r := rand.New(rand.NewSource(65))
	for range 500 {
		many := r.Intn(31)
		n := drawn(r, 2+r.Intn(5), many, 9)
		list := append(slices.Clone(n.Arcs), arcs(7, 7, 7, 8, 8, 8)...)
		n.Arcs = list[:many]
		before := slices.Clone(list)
		Of(n)
		if !slices.Equal(list, before) {
			t.Fatal("changed:", before, list)
		}
	}
}

// spoil writes over a list, spare memory included.
func spoil(l []int) {
	l = l[:cap(l)]
	for i := range l {
		l[i] = -7
	}
}

// P2: an answer shares no memory with an earlier or a later one.
func TestNothingIsShared(t *testing.T) {
	r := rand.New(rand.NewSource(66))
	for range 500 {
		n := drawn(r, 2+r.Intn(5), r.Intn(31), 9)
		first, _, _, _ := Of(n)
		want := slices.Clone(first)
		second, _, _, _ := Of(n)
		spoil(second)
		if !slices.Equal(first, want) {
			t.Fatal("an earlier answer has changed:", first, want)
		}
		if again, _, _, _ := Of(n); !slices.Equal(again, want) {
			t.Fatal("a later answer is another one:", again, want)
		}
	}
}
