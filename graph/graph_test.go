package graph

import (
	"math"
	"reflect"
	"slices"
	"testing"

	"weirmaster/api"
)

// arcs by their numbers: From, To and Cap of each.
func arcs(numbers ...int) []api.Arc {
	var list []api.Arc
	for c := range slices.Chunk(numbers, 3) {
		list = append(list, api.Arc{From: c[0], To: c[1], Cap: c[2]})
	}
	return list
}

// sample has a loop, two arcs that are alike, one below 0 and a node at which nothing stands.
func sample() api.Graph {
	return api.Graph{N: 4, Arcs: arcs(0, 1, 5, 1, 1, -7, 0, 1, 5, 2, 0, 0)}
}

// alike: n times the same arc.
func alike(n int, a api.Arc) []api.Arc {
	return slices.Repeat([]api.Arc{a}, n)
}

// checkCases: what Check and CheckLong answer.
var checkCases = []struct {
	name        string
	g           api.Graph
	check, long api.Errno
}{
	{"one node", api.Graph{N: 1}, api.OK, api.OK},
	{"empty list", api.Graph{N: 1, Arcs: []api.Arc{}}, api.OK, api.OK},
	{"most nodes", api.Graph{N: 12, Arcs: arcs(11, 0, 1, 0, 11, 1)}, api.OK, api.OK},
	{"no node", api.Graph{}, api.ErrArg, api.ErrArg},
	{"nodes below 0", api.Graph{N: -1}, api.ErrArg, api.ErrArg},
	{"13 nodes", api.Graph{N: 13}, api.ErrArg, api.ErrArg},
	{"least int of nodes", api.Graph{N: math.MinInt}, api.ErrArg, api.ErrArg},
	{"greatest int of nodes", api.Graph{N: math.MaxInt}, api.ErrArg, api.ErrArg},
	{"60 arcs", api.Graph{N: 1, Arcs: make([]api.Arc, 60)}, api.OK, api.OK},
	{"61 arcs", api.Graph{N: 1, Arcs: make([]api.Arc, 61)}, api.ErrLarge, api.ErrLarge},
	{"loop", api.Graph{N: 1, Arcs: arcs(0, 0, 1)}, api.OK, api.OK},
	{"From at N", api.Graph{N: 2, Arcs: arcs(2, 0, 1)}, api.ErrNode, api.ErrNode},
	{"From below 0", api.Graph{N: 2, Arcs: arcs(-1, 0, 1)}, api.ErrNode, api.ErrNode},
	{"To at N", api.Graph{N: 2, Arcs: arcs(0, 2, 1)}, api.ErrNode, api.ErrNode},
	{"To below 0", api.Graph{N: 2, Arcs: arcs(0, -1, 1)}, api.ErrNode, api.ErrNode},
	{"least int as From", api.Graph{N: 2, Arcs: arcs(math.MinInt, 0, 1)}, api.ErrNode, api.ErrNode},
	{"greatest int as To", api.Graph{N: 2, Arcs: arcs(0, math.MaxInt, 1)}, api.ErrNode, api.ErrNode},
	{"Cap 0", api.Graph{N: 2, Arcs: arcs(0, 1, 0)}, api.OK, api.OK},
	{"Cap 10000", api.Graph{N: 2, Arcs: arcs(0, 1, 10000)}, api.OK, api.OK},
	{"Cap 10001", api.Graph{N: 2, Arcs: arcs(0, 1, 10001)}, api.ErrArg, api.ErrArg},
	{"Cap -1", api.Graph{N: 2, Arcs: arcs(0, 1, -1)}, api.ErrArg, api.OK},
	{"Cap -10000", api.Graph{N: 2, Arcs: arcs(0, 1, -10000)}, api.ErrArg, api.OK},
	{"Cap -10001", api.Graph{N: 2, Arcs: arcs(0, 1, -10001)}, api.ErrArg, api.ErrArg},
	{"least int as Cap", api.Graph{N: 2, Arcs: arcs(0, 1, math.MinInt)}, api.ErrArg, api.ErrArg},
	{"greatest int as Cap", api.Graph{N: 2, Arcs: arcs(0, 1, math.MaxInt)}, api.ErrArg, api.ErrArg},
	{"N ahead of too many", api.Graph{N: 0, Arcs: make([]api.Arc, 61)}, api.ErrArg, api.ErrArg},
	{"too many ahead of nodes", api.Graph{N: 1, Arcs: alike(61, api.Arc{From: 1})}, api.ErrLarge, api.ErrLarge},
	{"too many ahead of Cap", api.Graph{N: 1, Arcs: alike(61, api.Arc{Cap: 10001})}, api.ErrLarge, api.ErrLarge},
	{"node ahead of Cap", api.Graph{N: 2, Arcs: arcs(0, 2, 10001)}, api.ErrNode, api.ErrNode},
	{"the first arc's Cap", api.Graph{N: 2, Arcs: arcs(0, 1, 10001, 0, 2, 1)}, api.ErrArg, api.ErrArg},
	{"the first arc's node", api.Graph{N: 2, Arcs: arcs(0, 2, 1, 0, 1, 10001)}, api.ErrNode, api.ErrNode},
	{"below 0 ahead of a node", api.Graph{N: 2, Arcs: arcs(0, 1, -1, 0, 2, 1)}, api.ErrArg, api.ErrNode},
	{"the last of 60", api.Graph{N: 1, Arcs: append(make([]api.Arc, 59), api.Arc{To: 1})}, api.ErrNode, api.ErrNode},
}

// P3.
func TestCheck(t *testing.T) {
	for _, c := range checkCases {
		if e := Check(c.g); e != c.check {
			t.Errorf("%s: Check %d, not %d", c.name, e, c.check)
		}
		if e := CheckLong(c.g); e != c.long {
			t.Errorf("%s: CheckLong %d, not %d", c.name, e, c.long)
		}
	}
}

// P4: the error of the graph is told first, whatever the ends are.
func TestCheckNetTellsCheck(t *testing.T) {
	for _, c := range checkCases {
		if c.check == api.OK {
			continue
		}
		for _, ends := range [][2]int{{0, 1}, {0, 0}, {-1, 99}} {
			n := api.Net{N: c.g.N, S: ends[0], T: ends[1], Arcs: c.g.Arcs}
			if e := CheckNet(n); e != c.check {
				t.Errorf("%s, ends %v: %d, not %d", c.name, ends, e, c.check)
			}
		}
	}
}

// P4.
func TestCheckNetEnds(t *testing.T) {
	cases := []struct {
		n, s, t int
		want    api.Errno
	}{
		{2, 0, 1, api.OK},
		{2, 1, 0, api.OK},
		{12, 11, 0, api.OK},
		{12, 0, 11, api.OK},
		{3, 3, 0, api.ErrNode},
		{3, 0, 3, api.ErrNode},
		{3, -1, 0, api.ErrNode},
		{3, 0, -1, api.ErrNode},
		{3, math.MinInt, 0, api.ErrNode},
		{3, 0, math.MaxInt, api.ErrNode},
		{3, 3, 3, api.ErrNode},
		{3, -1, -1, api.ErrNode},
		{1, 0, 0, api.ErrForm},
		{3, 2, 2, api.ErrForm},
		{1, 0, 1, api.ErrNode},
	}
	for _, c := range cases {
		for _, list := range [][]api.Arc{nil, arcs(0, 0, 10000)} {
			if e := CheckNet(api.Net{N: c.n, S: c.s, T: c.t, Arcs: list}); e != c.want {
				t.Errorf("%+v: %d", c, e)
			}
		}
	}
}

// P5.
func TestTurn(t *testing.T) {
	h, e := Turn(sample())
	want := arcs(1, 0, 5, 1, 1, -7, 1, 0, 5, 0, 2, 0)
	if e != api.OK || h.N != 4 || !slices.Equal(h.Arcs, want) {
		t.Error(h, e)
	}
	back, e := Turn(h)
	if e != api.OK || !reflect.DeepEqual(back, sample()) {
		t.Error("turned twice:", back, e)
	}
	if h, e := Turn(api.Graph{N: 7}); e != api.OK || h.N != 7 || len(h.Arcs) != 0 {
		t.Error("no arcs:", h, e)
	}
}

// P5.
func TestDegrees(t *testing.T) {
	out, in, e := Degrees(sample())
	if e != api.OK || !slices.Equal(out, []int{2, 1, 1, 0}) || !slices.Equal(in, []int{1, 3, 0, 0}) {
		t.Error(out, in, e)
	}
	out, in, e = Degrees(api.Graph{N: 2})
	if e != api.OK || !slices.Equal(out, []int{0, 0}) || !slices.Equal(in, []int{0, 0}) {
		t.Error("no arcs:", out, in, e)
	}
	out, in, e = Degrees(api.Graph{N: 12, Arcs: alike(60, api.Arc{From: 11, To: 11, Cap: -10000})})
	if e != api.OK || len(out) != 12 || len(in) != 12 || out[11] != 60 || in[11] != 60 {
		t.Error("all at one:", out, in, e)
	}
}

// P5.
func TestWithout(t *testing.T) {
	g := sample()
	for k := range g.Arcs {
		h, e := Without(g, k)
		want := slices.Concat(g.Arcs[:k], g.Arcs[k+1:])
		if e != api.OK || h.N != g.N || !slices.Equal(h.Arcs, want) {
			t.Error(k, h, e)
		}
	}
	if h, e := Without(api.Graph{N: 1, Arcs: arcs(0, 0, 1)}, 0); e != api.OK || h.N != 1 || len(h.Arcs) != 0 {
		t.Error("the only one:", h, e)
	}
	for _, k := range []int{-1, 4, math.MinInt, math.MaxInt} {
		h, e := Without(g, k)
		isZero(t, "Without", api.ErrNone, e, h.N == 0 && len(h.Arcs) == 0)
	}
	if _, e := Without(api.Graph{N: 1}, 0); e != api.ErrNone {
		t.Error("of none:", e)
	}
}

func isZero(t *testing.T, name string, want, e api.Errno, zero bool) {
	t.Helper()
	if e != want {
		t.Errorf("%s: %d, not %d", name, e, want)
	}
	if !zero {
		t.Errorf("%s: something is told beside error %d", name, e)
	}
}

// P5, and what P2 says of errors: CheckLong's is told ahead of ErrNone, with nothing beside it.
func TestCheckLongIsTold(t *testing.T) {
	for _, c := range checkCases {
		if c.long == api.OK {
			continue
		}
		h, e := Turn(c.g)
		isZero(t, c.name+": Turn", c.long, e, h.N == 0 && len(h.Arcs) == 0)
		out, in, e := Degrees(c.g)
		isZero(t, c.name+": Degrees", c.long, e, len(out) == 0 && len(in) == 0)
		for _, k := range []int{0, -1, 99} {
			h, e = Without(c.g, k)
			isZero(t, c.name+": Without", c.long, e, h.N == 0 && len(h.Arcs) == 0)
		}
	}
}

// P1.
func TestNothingPanics(t *testing.T) {
	odd := []int{math.MinInt, -10001, -1, 0, 1, 2, 12, 13, 10001, math.MaxInt}
	for _, n := range odd {
		for _, v := range odd {
			for _, w := range odd {
				callAll(n, v, w, nil)
				callAll(n, v, w, arcs(v, w, 1))
				callAll(n, v, w, arcs(0, 0, v, 0, 0, w))
				callAll(n, v, w, alike(61, api.Arc{From: v, To: w}))
			}
		}
	}
}

func callAll(n, v, w int, list []api.Arc) {
	g := api.Graph{N: n, Arcs: list}
	Check(g)
	CheckLong(g)
	CheckNet(api.Net{N: n, S: v, T: w, Arcs: list})
	Turn(g)
	Degrees(g)
	Without(g, v)
	Without(g, w)
}

// roomy is sample with spare memory behind its list, which a careless append would write to.
func roomy() (api.Graph, []api.Arc) {
	g := sample()
	whole := slices.Concat(g.Arcs, alike(4, api.Arc{From: 3, To: 3, Cap: 99}))
	return api.Graph{N: g.N, Arcs: whole[:len(g.Arcs)]}, whole
}

// P2: what is handed in stays as it is, and so does it when all memory of the answer is written over.
func TestMemoryIsNotShared(t *testing.T) {
	g, whole := roomy()
	before := slices.Clone(whole)
	same := func(name string) {
		t.Helper()
		if !slices.Equal(whole, before) {
			t.Errorf("%s: what was handed in has changed", name)
			copy(whole, before)
		}
	}
	Check(g)
	CheckLong(g)
	CheckNet(api.Net{N: g.N, T: 1, Arcs: g.Arcs})
	same("checks")
	h, _ := Turn(g)
	same("Turn")
	fill(h.Arcs, api.Arc{From: -5})
	same("Turn's answer")
	for k := -1; k <= len(g.Arcs); k++ {
		h, _ = Without(g, k)
		same("Without")
		fill(h.Arcs, api.Arc{From: -5})
		same("Without's answer")
	}
	Degrees(g)
	same("Degrees")
}

func fill[T any](l []T, v T) {
	l = l[:cap(l)]
	for i := range l {
		l[i] = v
	}
}

// P2: the two lists of one answer, spare memory included.
func TestDegreesListsAreApart(t *testing.T) {
	out, in, _ := Degrees(sample())
	want := slices.Clone(in)
	fill(out, -5)
	if !slices.Equal(in, want) {
		t.Error("writing to the first list changed the second:", in)
	}
	out, in, _ = Degrees(sample())
	want = slices.Clone(out)
	fill(in, -5)
	if !slices.Equal(out, want) {
		t.Error("writing to the second list changed the first:", out)
	}
}

// P2: nothing is kept: an answer that was written over, or a list that was, does not come back.
func TestNothingIsKept(t *testing.T) {
	g := sample()
	first, _ := Turn(g)
	fill(first.Arcs, api.Arc{})
	short, _ := Without(g, 1)
	fill(short.Arcs, api.Arc{})
	out, in, _ := Degrees(g)
	fill(out, -5)
	fill(in, -5)
	TestTurn(t)
	TestWithout(t)
	TestDegrees(t)
	turned, _ := Turn(g)
	fill(g.Arcs, api.Arc{From: 3, To: 3})
	if want := (api.Arc{From: 1, To: 0, Cap: 5}); turned.Arcs[0] != want {
		t.Error("the answer changed with what was handed in:", turned)
	}
}
