package cut

import (
	"math"
	"math/rand"
	"slices"
	"testing"

	"weirmaster/api"
)

// arcs by their numbers: From, To and Cap of each.
func arcs(numbers ...int) []api.Arc {
	var list []api.Arc
	for c := range slices.Chunk(numbers, 3) {
		list = append(list, api.Arc{From: c[0], To: c[1], Cap: c[2]})
	}
	return list
}

// alike: n times the same arc.
func alike(n, from, to, most int) []api.Arc {
	return slices.Repeat(arcs(from, to, most), n)
}

// net from 0 to its last node.
func net(n int, list []api.Arc) api.Net {
	return api.Net{N: n, S: 0, T: n - 1, Arcs: list}
}

// back: the same net, from its sink to its source.
func back(n api.Net) api.Net {
	n.S, n.T = n.T, n.S
	return n
}

// line: n nodes, each with an arc to the next one, all of the same Cap.
func line(n, most int) api.Net {
	var list []api.Arc
	for v := 1; v < n; v++ {
		list = append(list, api.Arc{From: v - 1, To: v, Cap: most})
	}
	return net(n, list)
}

// fork: from 0 over 1 and over 2 to 3, and from 1 to 2.
func fork() api.Net {
	return net(4, arcs(0, 1, 4, 0, 2, 3, 1, 3, 2, 1, 2, 1, 2, 3, 3))
}

// badNets: what graph.CheckNet does not let pass.
var badNets = []struct {
	name string
	n    api.Net
	want api.Errno
}{
	{"no node", api.Net{}, api.ErrArg},
	{"13 nodes", line(13, 1), api.ErrArg},
	{"nodes below 0", api.Net{N: -1, T: 1}, api.ErrArg},
	{"greatest int of nodes", api.Net{N: math.MaxInt, T: 1}, api.ErrArg},
	{"61 arcs", net(2, alike(61, 0, 1, 1)), api.ErrLarge},
	{"61 arcs, the first to no node", net(2, alike(61, 0, 2, 1)), api.ErrLarge},
	{"From at N", net(2, arcs(2, 0, 1)), api.ErrNode},
	{"From below 0", net(2, arcs(-1, 0, 1)), api.ErrNode},
	{"To at N", net(12, arcs(0, 12, 1)), api.ErrNode},
	{"To below 0", net(2, arcs(0, -1, 1)), api.ErrNode},
	{"Cap 10001", net(2, arcs(0, 1, 10001)), api.ErrArg},
	{"Cap -1", net(2, arcs(0, 1, -1)), api.ErrArg},
	{"Cap -1 at the last arc", net(3, arcs(0, 1, 5, 1, 2, 5, 2, 2, -1)), api.ErrArg},
	{"least int of Cap", net(2, arcs(0, 1, math.MinInt)), api.ErrArg},
	{"no node at one arc, a bad Cap at a later one", net(2, arcs(0, 2, 1, 0, 1, -1)), api.ErrNode},
	{"a bad Cap at one arc, no node at a later one", net(2, arcs(0, 1, -1, 0, 2, 1)), api.ErrArg},
	{"S at N", api.Net{N: 2, S: 2, T: 1}, api.ErrNode},
	{"S below 0", api.Net{N: 2, S: -1, T: 1}, api.ErrNode},
	{"T at N", api.Net{N: 12, S: 0, T: 12}, api.ErrNode},
	{"T below 0", api.Net{N: 2, S: 0, T: -1}, api.ErrNode},
	{"S is T", api.Net{N: 2, S: 1, T: 1}, api.ErrForm},
	{"one node", api.Net{N: 1}, api.ErrForm},
	{"a bad Cap ahead of S that is T", api.Net{N: 2, Arcs: arcs(0, 1, -1)}, api.ErrArg},
	{"S and T the same, but no node", api.Net{N: 2, S: 2, T: 2}, api.ErrNode},
}

// P27, P28: a net that is not right, with nothing beside the error.
func TestBadNets(t *testing.T) {
	for _, c := range badNets {
		// What is wrong with the side comes behind what is wrong with the net.
		for _, side := range []uint16{0, 1, 2, 3, 1 << 15, math.MaxUint16} {
			if v, e := Cap(c.n, side); v != 0 || e != c.want {
				t.Errorf("%s: Cap of %b %d %d, not %d alone", c.name, side, v, e, c.want)
			}
		}
		if s, v, e := Least(c.n); s != 0 || v != 0 || e != c.want {
			t.Errorf("%s: Least %b %d %d, not %d alone", c.name, s, v, e, c.want)
		}
		if s, v, e := Greatest(c.n); s != 0 || v != 0 || e != c.want {
			t.Errorf("%s: Greatest %b %d %d, not %d alone", c.name, s, v, e, c.want)
		}
	}
}

// P27, by hand.
func TestCapByHand(t *testing.T) {
	wide := net(12, arcs(0, 11, 7, 0, 5, 2, 10, 11, 3))
	cases := []struct {
		name string
		n    api.Net
		side uint16
		want int
		e    api.Errno
	}{
		{"S alone", fork(), 0b0001, 7, api.OK},
		{"S and 1", fork(), 0b0011, 6, api.OK},
		{"S and 2: what leads into the side does not count", fork(), 0b0101, 7, api.OK},
		{"all but T", fork(), 0b0111, 5, api.OK},
		{"no node", fork(), 0b0000, 0, api.ErrForm},
		{"S is not there", fork(), 0b0110, 0, api.ErrForm},
		{"T is there", fork(), 0b1001, 0, api.ErrForm},
		{"all nodes", fork(), 0b1111, 0, api.ErrForm},
		{"T instead of S", fork(), 0b1000, 0, api.ErrForm},
		{"a node at N", fork(), 0b10001, 0, api.ErrForm},
		{"bit 15", fork(), 1<<15 | 1, 0, api.ErrForm},
		{"all bits", fork(), math.MaxUint16, 0, api.ErrForm},
		{"12 nodes, all but T", wide, 0b011111111111, 10, api.OK},
		{"12 nodes, S alone", wide, 1, 9, api.OK},
		{"12 nodes, and bit 12", wide, 1<<12 | 1, 0, api.ErrForm},
		{"12 nodes, and T", wide, 1<<11 | 1, 0, api.ErrForm},
		{"from the last node to the first", back(wide), 1 << 11, 0, api.OK},
		{"from the last node to the first, with S that was", back(wide), 1<<11 | 1, 0, api.ErrForm},
		{"no arcs", net(2, nil), 1, 0, api.OK},
		{"no arcs, empty", net(2, []api.Arc{}), 1, 0, api.OK},
		{"loops do not leave", net(2, arcs(0, 0, 5, 1, 1, 6, 0, 1, 2)), 1, 2, api.OK},
		{"arcs within and without", net(6, arcs(0, 1, 8, 2, 5, 9, 3, 4, 2, 4, 3, 1)), 0b011011, 0, api.OK},
		{"alike", net(2, arcs(0, 1, 5, 0, 1, 5, 1, 0, 5)), 1, 10, api.OK},
		{"as much as can be at all", net(2, alike(60, 0, 1, 10000)), 1, 600000, api.OK},
	}
	for _, c := range cases {
		if v, e := Cap(c.n, c.side); v != c.want || e != c.e {
			t.Errorf("%s: %d %d, not %d %d", c.name, v, e, c.want, c.e)
		}
	}
}

// P28, by hand.
func TestByHand(t *testing.T) {
	cases := []struct {
		name            string
		n               api.Net
		least, greatest uint16
		want            int
	}{
		{"behind an arc of 4 one of 3", net(3, arcs(0, 1, 4, 1, 2, 3)), 0b011, 0b011, 3},
		{"behind an arc of 3 one of 4", net(3, arcs(0, 1, 3, 1, 2, 4)), 0b001, 0b001, 3},
		{"both the same", net(3, arcs(0, 1, 3, 1, 2, 3)), 0b001, 0b011, 3},
		{"a wide arc between two that are the same", net(4, arcs(0, 1, 3, 1, 2, 5, 2, 3, 3)), 0b0001, 0b0111, 3},
		{"fork", fork(), 0b0111, 0b0111, 5},
		{"fork, from its sink", back(fork()), 0b1000, 0b1110, 0},
		{"no arcs", net(2, nil), 1, 1, 0},
		{"no arcs, 12 nodes", net(12, []api.Arc{}), 1, 1<<11 - 1, 0},
		{"no arcs, S above T", api.Net{N: 12, S: 11, T: 4}, 1 << 11, 1<<12 - 1 - 1<<4, 0},
		{"one arc", net(2, arcs(0, 1, 7)), 1, 1, 7},
		{"an arc of Cap 0", net(3, arcs(0, 1, 0, 1, 2, 9)), 0b001, 0b001, 0},
		{"an arc of Cap 0 at T", net(3, arcs(0, 1, 9, 1, 2, 0)), 0b011, 0b011, 0},
		{"what S comes to, and no more", net(4, arcs(0, 1, 9)), 0b0011, 0b0111, 0},
		{"what comes to T", net(4, arcs(1, 3, 9)), 0b0001, 0b0101, 0},
		{"what comes to S is in no one's way", net(4, arcs(1, 0, 9)), 0b0001, 0b0111, 0},
		{"what T leads to", net(4, arcs(3, 1, 9)), 0b0001, 0b0111, 0},
		{"a line", line(12, 10000), 1, 1<<11 - 1, 10000},
		{"two come together", net(4, arcs(0, 1, 1, 0, 2, 2, 1, 2, 1, 1, 3, 1, 2, 3, 1)), 0b0101, 0b0111, 2},
		{"two sides that are not one in the other", net(4, arcs(0, 1, 2, 0, 2, 2, 1, 3, 2, 2, 3, 2)), 0b0001, 0b0111, 4},
		{"as much as can be at all", net(2, alike(60, 0, 1, 10000)), 1, 1, 600000},
	}
	for _, c := range cases {
		check(t, c.n)
		if s, v, e := Least(c.n); s != c.least || v != c.want || e != api.OK {
			t.Errorf("%s: Least %b %d %d, not %b %d", c.name, s, v, e, c.least, c.want)
		}
		if s, v, e := Greatest(c.n); s != c.greatest || v != c.want || e != api.OK {
			t.Errorf("%s: Greatest %b %d %d, not %b %d", c.name, s, v, e, c.greatest, c.want)
		}
	}
}

// sums: of each side with S and without T what the arcs that leave it take.
func sums(n api.Net) map[uint16]int {
	of := map[uint16]int{}
	for side := range uint16(1) << n.N {
		if side>>n.S%2 == 0 || side>>n.T%2 == 1 {
			continue
		}
		of[side] = 0
		for _, a := range n.Arcs {
			if side>>a.From%2 == 1 && side>>a.To%2 == 0 {
				of[side] += a.Cap
			}
		}
	}
	return of
}

// check holds Least and Greatest against all sides, as P28 says it; it tells of how many sides the sum is the least.
func check(t *testing.T, n api.Net) int {
	t.Helper()
	least, in, out, many := math.MaxInt, uint16(0), uint16(0), 0
	for side, sum := range sums(n) {
		if sum < least {
			least, in, out, many = sum, side, side, 0
		}
		if sum == least {
			in, out, many = in&side, out|side, many+1
		}
	}
	if s, v, e := Least(n); s != in || v != least || e != api.OK {
		t.Fatalf("%v: Least %b %d %d, not %b %d", n, s, v, e, in, least)
	}
	if s, v, e := Greatest(n); s != out || v != least || e != api.OK {
		t.Fatalf("%v: Greatest %b %d %d, not %b %d", n, s, v, e, out, least)
	}
	return many
}

// P27: of all numbers that side can be.
func TestCapOfAllNumbers(t *testing.T) {
	r := rand.New(rand.NewSource(51))
	for range 20 {
		n := drawn(r, 2+r.Intn(api.MaxN-1), r.Intn(api.MaxArcs+1), api.MaxCap)
		of := sums(n)
		for side := range math.MaxUint16 + 1 {
			want, right := of[uint16(side)]
			v, e := Cap(n, uint16(side))
			if right && (v != want || e != api.OK) {
				t.Fatalf("%v: Cap of %b %d %d, not %d", n, side, v, e, want)
			}
			if !right && (v != 0 || e != api.ErrForm) {
				t.Fatalf("%v: Cap of %b %d %d, not ErrForm alone", n, side, v, e)
			}
		}
	}
}

// P28, of all lists of few arcs.
func TestAllOfFewArcs(t *testing.T) {
	for _, size := range []struct{ n, arcs, most int }{{2, 3, 2}, {3, 3, 2}, {3, 4, 1}, {4, 3, 1}} {
		if several := checkLonger(t, api.Net{N: size.n, S: size.n - 1, T: 0}, size.arcs, size.most); size.n > 2 && several < 100 {
			t.Error("too few nets of which several sides are the least:", size, several)
		}
	}
}

// checkLonger checks a net and all that have so many more arcs; it tells of how many of them several sides are the
// least.
func checkLonger(t *testing.T, n api.Net, more, most int) int {
	t.Helper()
	several := min(check(t, n)-1, 1)
	if more == 0 {
		return several
	}
	for ends := range n.N * n.N {
		for x := range most + 1 {
			m := n
			m.Arcs = append(slices.Clone(n.Arcs), api.Arc{From: ends / n.N, To: ends % n.N, Cap: x})
			several += checkLonger(t, m, more-1, most)
		}
	}
	return several
}

// drawn: a net of n nodes with so many arcs of at most so much each.
func drawn(r *rand.Rand, n, many, most int) api.Net {
	d := api.Net{N: n, S: r.Intn(n)}
	d.T = (d.S + 1 + r.Intn(n-1)) % n
	for range many {
		d.Arcs = append(d.Arcs, api.Arc{From: r.Intn(n), To: r.Intn(n), Cap: r.Intn(most + 1)})
	}
	return d
}

// P28, up to the greatest nets and Caps.
func TestDrawn(t *testing.T) {
	r := rand.New(rand.NewSource(52))
	for _, most := range []int{1, 3, 20, api.MaxCap} {
		several, inside := 0, 0
		for range 500 {
			n := drawn(r, 2+r.Intn(api.MaxN-1), r.Intn(api.MaxArcs+1), most)
			if check(t, n) > 1 {
				several++
			}
			if s, v, _ := Least(n); v > 0 && s != 1<<n.S {
				inside++
			}
		}
		if several < 50 || inside < 50 {
			t.Error("too few of a kind:", most, several, inside)
		}
	}
}

// narrow: a drawn net whose nodes stand in three rows of three between S and T, with arcs of the same Cap from each row
// to the next one, and a few elsewhere: many sides of the same sum, and much that must make room.
func narrow(r *rand.Rand, most int) api.Net {
	n := net(11, nil)
	row := func(v int) int { return (v + 2) / 3 }
	for len(n.Arcs) < 24 {
		a := api.Arc{From: r.Intn(n.N), To: r.Intn(n.N), Cap: most}
		if row(a.To) == row(a.From)+1 || r.Intn(30) == 0 {
			n.Arcs = append(n.Arcs, a)
		}
	}
	return n
}

// P28, where many sides have the same sum.
func TestNarrow(t *testing.T) {
	r := rand.New(rand.NewSource(53))
	for _, most := range []int{1, api.MaxCap} {
		many := 0
		for range 500 {
			if check(t, narrow(r, most)) > 2 {
				many++
			}
		}
		if many < 100 {
			t.Error("too few nets of which many sides are the least:", most, many)
		}
	}
}

// P2: the same each time, whatever was asked between.
func TestSameEachTime(t *testing.T) {
	type told struct {
		cap                   int
		capE                  api.Errno
		least, greatest       uint16
		leastCap, greatestCap int
		leastE, greatestE     api.Errno
	}
	ask := func(n api.Net, side uint16) (a told) {
		a.cap, a.capE = Cap(n, side)
		a.least, a.leastCap, a.leastE = Least(n)
		a.greatest, a.greatestCap, a.greatestE = Greatest(n)
		return a
	}
	r := rand.New(rand.NewSource(54))
	for range 300 {
		n, side := drawn(r, 6, 25, 9), uint16(r.Intn(64))
		first := ask(n, side)
		for range 5 {
			if again := ask(n, side); again != first {
				t.Fatal(n, side, first, again)
			}
			ask(drawn(r, 6, 25, 9), uint16(r.Intn(64)))
		}
	}
}

// P1.
func TestNothingPanics(t *testing.T) {
	odd := []int{math.MinInt, -10001, -1, 0, 1, 2, 11, 12, 13, 10000, 10001, math.MaxInt}
	for _, n := range odd {
		for _, v := range odd {
			for _, w := range odd {
				callAll(api.Net{N: n, S: v, T: w})
				callAll(api.Net{N: n, S: v, T: w, Arcs: arcs(v, w, 1)})
				callAll(api.Net{N: n, S: 0, T: 1, Arcs: arcs(v, w, 1, 1, 1, 1)})
				callAll(api.Net{N: n, S: 0, T: 1, Arcs: arcs(0, 1, v, 1, 0, w)})
				callAll(api.Net{N: n, S: v, T: w, Arcs: alike(61, v, w, 0)})
			}
		}
	}
}

func callAll(n api.Net) {
	for _, side := range []uint16{0, 1, 2, 3, 1 << 11, 1 << 12, 1 << 15, math.MaxUint16} {
		Cap(n, side)
	}
	Least(n)
	Greatest(n)
}

// P2: what is handed in stays as it is, the memory behind a list included.
func TestNothingIsChanged(t *testing.T) {
	r := rand.New(rand.NewSource(55))
	for range 500 {
		many := r.Intn(31)
		n := drawn(r, 2+r.Intn(5), many, 9)
		list := append(slices.Clone(n.Arcs), arcs(7, 7, 7, 8, 8, 8)...)
		n.Arcs = list[:many]
		before := slices.Clone(list)
		callAll(n)
		if !slices.Equal(list, before) {
			t.Fatal("changed:", before, list)
		}
	}
}
