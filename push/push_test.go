package push

import (
	"math"
	"math/rand"
	"slices"
	"testing"

	"weirmaster/api"
	"weirmaster/flow"
)

// arcs by their numbers: From, To and Cap of each.
func arcs(numbers ...int) []api.Arc {
	var list []api.Arc
	for c := range slices.Chunk(numbers, 3) {
		list = append(list, api.Arc{From: c[0], To: c[1], Cap: c[2]})
	}
	return list
}

// alike: n times the same arc.
func alike(n, from, to, most int) []api.Arc {
	return slices.Repeat(arcs(from, to, most), n)
}

// net from 0 to its last node.
func net(n int, list []api.Arc) api.Net {
	return api.Net{N: n, S: 0, T: n - 1, Arcs: list}
}

// line: n nodes, each with an arc to the next one, all of the same Cap.
func line(n, most int) api.Net {
	var list []api.Arc
	for v := 1; v < n; v++ {
		list = append(list, api.Arc{From: v - 1, To: v, Cap: most})
	}
	return net(n, list)
}

// times: n times the same number.
func times(n, x int) []int {
	return slices.Repeat([]int{x}, n)
}

// list of some numbers.
func list(numbers ...int) []int {
	return numbers
}

// fork: from 0 over 1 and over 2 to 3, and from 1 to 2.
func fork() api.Net {
	return net(4, arcs(0, 1, 4, 0, 2, 3, 1, 3, 2, 1, 2, 1, 2, 3, 3))
}

// begun: a net, what goes along each arc, and how high each node stands.
func begun(n api.Net, f, h []int) api.Push {
	return api.Push{Net: n, Flow: f, Height: h}
}

// same: two of a kind; no list is as good as one with nothing in it.
func same(p, q api.Push) bool {
	return p.Net.N == q.Net.N && p.Net.S == q.Net.S && p.Net.T == q.Net.T && slices.Equal(p.Net.Arcs, q.Net.Arcs) &&
		slices.Equal(p.Flow, q.Flow) && slices.Equal(p.Height, q.Height)
}

// none: the zero value, without lists.
func none(p api.Push) bool {
	return same(p, api.Push{}) && p.Net.Arcs == nil && p.Flow == nil && p.Height == nil
}

// badNets: what graph.CheckNet does not let pass.
var badNets = []struct {
	name string
	n    api.Net
	want api.Errno
}{
	{"no node", api.Net{}, api.ErrArg},
	{"13 nodes", line(13, 1), api.ErrArg},
	{"nodes below 0", api.Net{N: -1, T: 1}, api.ErrArg},
	{"greatest int of nodes", api.Net{N: math.MaxInt, T: 1}, api.ErrArg},
	{"61 arcs", net(2, alike(61, 0, 1, 1)), api.ErrLarge},
	{"61 arcs, the first to no node", net(2, alike(61, 0, 2, 1)), api.ErrLarge},
	{"From at N", net(2, arcs(2, 0, 1)), api.ErrNode},
	{"From below 0", net(2, arcs(-1, 0, 1)), api.ErrNode},
	{"To at N", net(12, arcs(0, 12, 1)), api.ErrNode},
	{"To below 0", net(2, arcs(0, -1, 1)), api.ErrNode},
	{"Cap 10001", net(2, arcs(0, 1, 10001)), api.ErrArg},
	{"Cap -1", net(2, arcs(0, 1, -1)), api.ErrArg},
	{"Cap -1 at the last arc", net(3, arcs(0, 1, 5, 1, 2, 5, 2, 2, -1)), api.ErrArg},
	{"least int of Cap", net(2, arcs(0, 1, math.MinInt)), api.ErrArg},
	{"S at N", api.Net{N: 2, S: 2, T: 1}, api.ErrNode},
	{"S below 0", api.Net{N: 2, S: -1, T: 1}, api.ErrNode},
	{"T at N", api.Net{N: 12, S: 0, T: 12}, api.ErrNode},
	{"T below 0", api.Net{N: 2, S: 0, T: -1}, api.ErrNode},
	{"S is T", api.Net{N: 2, S: 1, T: 1}, api.ErrForm},
	{"one node", api.Net{N: 1}, api.ErrForm},
	{"a bad Cap ahead of S that is T", api.Net{N: 2, Arcs: arcs(0, 1, -1)}, api.ErrArg},
	{"S and T the same, but no node", api.Net{N: 2, S: 2, T: 2}, api.ErrNode},
}

// P30 to P34: a net that is not right, with nothing beside the error.
func TestBadNets(t *testing.T) {
	for _, c := range badNets {
		if p, e := New(c.n); !none(p) || e != c.want {
			t.Errorf("%s: New %v %d, not %d alone", c.name, p, e, c.want)
		}
		// What is wrong with the numbers comes behind what is wrong with the net.
		for _, f := range [][]int{nil, times(len(c.n.Arcs), 0), times(len(c.n.Arcs), 99999), times(70, -1)} {
			for _, h := range [][]int{nil, {c.n.N, 0}, times(13, -1)} {
				checkBad(t, c.name, begun(c.n, f, h), c.want)
			}
		}
	}
}

// checkBad: all calls tell what is wrong, and nothing beside it.
func checkBad(t *testing.T, name string, p api.Push, want api.Errno) {
	t.Helper()
	if e := Check(p); e != want {
		t.Fatalf("%s: Check %d, not %d", name, e, want)
	}
	if l, e := Busy(p); l != nil || e != want {
		t.Fatalf("%s: Busy %v %d, not %d alone", name, l, e, want)
	}
	// What is wrong with the arc or the node comes behind it.
	for _, k := range []int{math.MinInt, -1, 0, 1, 2, 3, 99} {
		for _, back := range []bool{false, true} {
			if q, e := Send(p, k, back); !none(q) || e != want {
				t.Fatalf("%s: Send by %d %t %v %d, not %d alone", name, k, back, q, e, want)
			}
		}
		if q, e := Lift(p, k); !none(q) || e != want {
			t.Fatalf("%s: Lift of %d %v %d, not %d alone", name, k, q, e, want)
		}
	}
}

// state: a net, what goes along each arc, how high each node stands, and what Check should tell.
type state struct {
	name string
	n    api.Net
	f, h []int
	want api.Errno
}

// checkStates holds all calls against what Check should tell.
func checkStates(t *testing.T, cases []state) {
	t.Helper()
	for _, c := range cases {
		p := begun(c.n, c.f, c.h)
		// The error told by hand is held against the words as well.
		if e := wantCheck(p); e != c.want {
			t.Errorf("%s: it should be %d", c.name, e)
		}
		if c.want == api.OK {
			checkAll(t, p)
		} else {
			checkBad(t, c.name, p, c.want)
		}
	}
}

// one: from 0 to 1, of three nodes.
func one(most int) api.Net {
	return net(3, arcs(0, 1, most))
}

// pair: between 1 and 2, neither of which is S or T.
func pair(there, back int) api.Net {
	return net(4, arcs(1, 2, there, 2, 1, back))
}

// P30: too few numbers or heights, or too many.
func TestForm(t *testing.T) {
	checkStates(t, []state{
		{"no flow", fork(), nil, list(4, 0, 0, 0), api.ErrForm},
		{"empty flow", fork(), []int{}, list(4, 0, 0, 0), api.ErrForm},
		{"one of flow too few", fork(), list(4, 3, 0, 0), list(4, 0, 0, 0), api.ErrForm},
		{"one of flow too many", fork(), list(4, 3, 0, 0, 0, 0), list(4, 0, 0, 0), api.ErrForm},
		{"no height", fork(), list(4, 3, 0, 0, 0), nil, api.ErrForm},
		{"empty height", fork(), list(4, 3, 0, 0, 0), []int{}, api.ErrForm},
		{"one height too few", fork(), list(4, 3, 0, 0, 0), list(4, 0, 0), api.ErrForm},
		{"one height too many", fork(), list(4, 3, 0, 0, 0), list(4, 0, 0, 0, 0), api.ErrForm},
		{"as many heights as arcs, and the other way", fork(), list(4, 3, 0, 0), list(4, 0, 0, 0, 0), api.ErrForm},
		{"flow of no arcs", net(2, nil), list(0), list(2, 0), api.ErrForm},
		{"nothing at all", net(2, nil), nil, nil, api.ErrForm},
		{"too few heights ahead of too much", fork(), list(5, -1, 9, 9, 9), list(4, 0, 0), api.ErrForm},
	})
}

// P30: more along an arc than it takes, or less than nothing.
func TestOver(t *testing.T) {
	checkStates(t, []state{
		{"below 0", fork(), list(4, 3, -1, 0, 0), list(4, 0, 0, 0), api.ErrOver},
		{"above Cap", fork(), list(5, 3, 0, 0, 0), list(4, 0, 0, 0), api.ErrOver},
		{"the last above", fork(), list(4, 3, 0, 0, 4), list(4, 0, 0, 0), api.ErrOver},
		{"the last below 0", fork(), list(4, 3, 0, 0, -1), list(4, 0, 0, 0), api.ErrOver},
		{"above Cap 0", one(0), list(1), list(3, 0, 0), api.ErrOver},
		{"10001", one(10000), list(10001), list(3, 0, 0), api.ErrOver},
		{"a loop above Cap", net(3, arcs(1, 1, 2)), list(3), list(3, 0, 0), api.ErrOver},
		{"a loop below 0", net(3, arcs(1, 1, 2)), list(-1), list(3, 0, 0), api.ErrOver},
		{"least int", one(1), list(math.MinInt), list(3, 0, 0), api.ErrOver},
		{"greatest int", one(1), list(math.MaxInt), list(3, 0, 0), api.ErrOver},
		{"over at the last arc ahead of lost", line(4, 5), list(2, 3, 6), list(4, 0, 0, 0), api.ErrOver},
		{"over ahead of a bad height", one(4), list(5), list(3, -1, 9), api.ErrOver},
	})
}

// P30: more from a node than came to it.
func TestLost(t *testing.T) {
	checkStates(t, []state{
		{"goes on, but did not come", fork(), list(0, 0, 0, 0, 1), list(4, 0, 0, 0), api.ErrLost},
		{"more goes on than came", net(4, arcs(0, 1, 4, 1, 2, 5)), list(4, 5), list(4, 0, 0, 0), api.ErrLost},
		{"T gives", net(3, arcs(2, 1, 1)), list(1), list(3, 0, 0), api.ErrLost},
		{"T gives what came to it, and 1", net(3, arcs(0, 2, 3, 2, 1, 9)), list(3, 4), list(3, 0, 0), api.ErrLost},
		{"T gives to S", net(2, arcs(1, 0, 1)), list(1), list(2, 0), api.ErrLost},
		{"a loop does not make up", net(3, arcs(1, 1, 1, 1, 2, 1)), list(1, 1), list(3, 0, 0), api.ErrLost},
		{"the last node but one", net(12, arcs(10, 11, 1)), list(1), append(list(12), times(11, 0)...), api.ErrLost},
		{"lost ahead of a bad height", net(3, arcs(2, 1, 1)), list(1), list(3, -1, 0), api.ErrLost},
		{"lost ahead of too steep", net(3, arcs(0, 1, 5, 2, 1, 1)), list(0, 1), list(3, 0, 0), api.ErrLost},
	})
}

// P30: heights out of their bounds.
func TestHeights(t *testing.T) {
	checkStates(t, []state{
		{"height below 0", one(4), list(4), list(3, -1, 0), api.ErrArg},
		{"height 2N + 1", one(0), list(0), list(3, 7, 0), api.ErrArg},
		{"height 25 of 12 nodes", net(12, nil), nil, append(list(12, 25), times(10, 0)...), api.ErrArg},
		{"greatest int of height", one(4), list(4), list(3, math.MaxInt, 0), api.ErrArg},
		{"least int of height", one(4), list(4), list(3, math.MinInt, 0), api.ErrArg},
		{"S lower than N", one(4), list(4), list(2, 0, 0), api.ErrArg},
		{"S higher than N", one(4), list(4), list(4, 0, 0), api.ErrArg},
		{"S at 0", one(4), list(4), list(0, 0, 0), api.ErrArg},
		{"T at 1", one(4), list(4), list(3, 0, 1), api.ErrArg},
		{"T below 0", one(4), list(4), list(3, 0, -1), api.ErrArg},
		{"T at N, S at 0", one(4), list(4), list(0, 0, 3), api.ErrArg},
		{"a bad height ahead of too steep", one(4), list(0), list(3, 0, 1), api.ErrArg},
	})
}

// P30: arcs, and ways back, that lead too far down.
func TestSteep(t *testing.T) {
	checkStates(t, []state{
		{"not all has left S, 1 high", one(4), list(3), list(3, 1, 0), api.ErrState},
		{"nothing has left S", one(4), list(0), list(3, 0, 0), api.ErrState},
		{"something goes along, and To is higher than N + 1", one(4), list(4), list(3, 5, 0), api.ErrState},
		{"so too if it takes something yet", one(4), list(1), list(3, 5, 0), api.ErrState},
		{"so too of To at 2N", one(4), list(4), list(3, 6, 0), api.ErrState},
		{"takes something yet, From 2 higher", pair(5, 0), list(0, 0), list(4, 6, 4, 0), api.ErrState},
		{"From as much higher as can be", pair(1, 0), list(0, 0), list(4, 8, 0, 0), api.ErrState},
		{"a round, From 2 higher", pair(5, 5), list(3, 3), list(4, 2, 0, 0), api.ErrState},
		{"a round, To 2 higher", pair(5, 5), list(3, 3), list(4, 0, 2, 0), api.ErrState},
		{"a full round, From 2 higher", pair(5, 5), list(5, 5), list(4, 2, 0, 0), api.ErrState},
		{"a full round, To 2 higher", pair(5, 5), list(5, 5), list(4, 0, 2, 0), api.ErrState},
		{"to T", net(3, arcs(1, 2, 1)), list(0), list(3, 2, 0), api.ErrState},
		{"from S to T", net(2, arcs(0, 1, 2)), list(1), list(2, 0), api.ErrState},
		{"the last arc", net(3, append(alike(59, 1, 2, 0), arcs(1, 2, 1)...)), times(60, 0), list(3, 2, 0), api.ErrState},
	})
}

// P30: what is right, up to the edges.
func TestRight(t *testing.T) {
	checkStates(t, []state{
		{"not all has left S, 2 high", one(4), list(3), list(3, 2, 0), api.OK},
		{"nothing has left S, 2 high", one(4), list(0), list(3, 2, 0), api.OK},
		{"nothing goes along, and To is as high as can be", one(4), list(0), list(3, 6, 0), api.OK},
		{"all has left S", one(4), list(4), list(3, 0, 0), api.OK},
		{"something goes along, and To is N + 1 high", one(4), list(4), list(3, 4, 0), api.OK},
		{"From 1 higher", pair(5, 0), list(0, 0), list(4, 6, 5, 0), api.OK},
		{"nothing goes along, and To is much higher", pair(5, 0), list(0, 0), list(4, 0, 8, 0), api.OK},
		{"Cap 0, From higher", pair(0, 0), list(0, 0), list(4, 8, 0, 0), api.OK},
		{"Cap 0, To higher", pair(0, 0), list(0, 0), list(4, 0, 8, 0), api.OK},
		{"a round, From 1 higher", pair(5, 5), list(3, 3), list(4, 1, 0, 0), api.OK},
		{"a round, To 1 higher", pair(5, 5), list(3, 3), list(4, 0, 1, 0), api.OK},
		{"a full round", pair(5, 5), list(5, 5), list(4, 8, 7, 0), api.OK},
		{"less than 0 waits at S, and more at T", net(2, arcs(0, 1, 2)), list(2), list(2, 0), api.OK},
		{"loops", net(3, arcs(0, 0, 5, 1, 1, 5, 1, 1, 5, 2, 2, 5)), list(2, 0, 5, 3), list(3, 6, 0), api.OK},
		{"no arcs", net(4, nil), nil, list(4, 8, 0, 0), api.OK},
		{"S and T between", api.Net{N: 4, S: 2, T: 1, Arcs: arcs(2, 3, 9)}, list(9), list(8, 0, 4, 5), api.OK},
		{"as much as can be at all", net(2, alike(60, 0, 1, 10000)), times(60, 10000), list(2, 0), api.OK},
	})
}

// P31.
func TestNew(t *testing.T) {
	cases := []struct {
		name string
		n    api.Net
		f, h []int
	}{
		{"no arcs", net(2, nil), nil, list(2, 0)},
		{"no arcs, empty", net(3, []api.Arc{}), nil, list(3, 0, 0)},
		{"one arc", net(2, arcs(0, 1, 7)), list(7), list(2, 0)},
		{"Cap 0", net(2, arcs(0, 1, 0)), list(0), list(2, 0)},
		{"the other way", net(2, arcs(1, 0, 7)), list(0), list(2, 0)},
		{"there and back", net(2, arcs(0, 1, 7, 1, 0, 5)), list(7, 0), list(2, 0)},
		{"several alike", net(2, arcs(0, 1, 7, 0, 1, 7, 0, 1, 2)), list(7, 7, 2), list(2, 0)},
		{"fork", fork(), list(4, 3, 0, 0, 0), list(4, 0, 0, 0)},
		{"loops", net(3, arcs(0, 0, 5, 0, 1, 3, 1, 1, 9, 2, 2, 4)), list(0, 3, 0, 0), list(3, 0, 0)},
		{"a loop of S alone", net(2, arcs(0, 0, 5)), list(0), list(2, 0)},
		{"S above T", api.Net{N: 4, S: 3, T: 1, Arcs: arcs(3, 0, 2, 0, 1, 4, 3, 1, 5)}, list(2, 0, 5), list(0, 0, 0, 4)},
		{"the longest line", line(12, 10000), append(list(10000), times(10, 0)...), append(list(12), times(11, 0)...)},
		{"as much as can be at all", net(2, alike(60, 0, 1, 10000)), times(60, 10000), list(2, 0)},
	}
	for _, c := range cases {
		want := begun(c.n, c.f, c.h)
		if p, e := New(c.n); e != api.OK || !same(p, want) {
			t.Errorf("%s: %v %d, not %v", c.name, p, e, want)
		}
		checkAll(t, want)
		toEnd(t, rand.New(rand.NewSource(71)), c.n)
	}
}

// P32 to P34, from New on.
func TestFork(t *testing.T) {
	p, _ := New(fork())
	checkBusy(t, p, 1, 2)
	p = lift(t, p, 1, 1)
	p = send(t, p, 2, false, 2)
	p = send(t, p, 3, false, 1)
	// Nothing can go on from 1, so that it must stand above S.
	p = lift(t, p, 1, 5)
	checkBusy(t, p, 1, 2)
	p = send(t, p, 0, true, 3)
	checkBusy(t, p, 2)
	p = lift(t, p, 2, 1)
	p = send(t, p, 4, false, 3)
	p = lift(t, p, 2, 5)
	checkBusy(t, p, 2)
	p = send(t, p, 1, true, 2)
	checkBusy(t, p)
	if v, e := flow.Value(p.Net, p.Flow); v != 5 || e != api.OK {
		t.Error(p, v, e)
	}
}

// send holds Send against how much goes along the arc then; it tells what Send told.
func send(t *testing.T, p api.Push, k int, back bool, along int) api.Push {
	t.Helper()
	checkAll(t, p)
	want := copied(p)
	want.Flow[k] = along
	q, e := Send(p, k, back)
	if e != api.OK || !same(q, want) {
		t.Fatalf("%v: Send by %d %t %v %d, not %v", p, k, back, q, e, want)
	}
	return q
}

// lift holds Lift against how high the node stands then; it tells what Lift told.
func lift(t *testing.T, p api.Push, at, height int) api.Push {
	t.Helper()
	checkAll(t, p)
	want := copied(p)
	want.Height[at] = height
	q, e := Lift(p, at)
	if e != api.OK || !same(q, want) {
		t.Fatalf("%v: Lift of %d %v %d, not %v", p, at, q, e, want)
	}
	return q
}

func checkBusy(t *testing.T, p api.Push, want ...int) {
	t.Helper()
	checkAll(t, p)
	if l, e := Busy(p); e != api.OK || !slices.Equal(l, want) {
		t.Fatalf("%v: Busy %v %d, not %v", p, l, e, want)
	}
}

// tee: 4 come from 0 to 1, and go on by arc 1 to 2 and by arc 2 to 3, which is T.
func tee(most int) api.Net {
	return net(4, arcs(0, 1, 4, 1, 2, most, 1, 3, most))
}

// P32, along an arc.
func TestSend(t *testing.T) {
	for _, c := range []struct {
		name  string
		p     api.Push
		k     int
		along int
	}{
		{"as much as it takes", begun(tee(3), list(4, 0, 0), list(4, 1, 0, 0)), 1, 3},
		{"as much as waits", begun(tee(5), list(4, 0, 0), list(4, 1, 0, 0)), 1, 4},
		{"both are the same", begun(tee(4), list(4, 0, 0), list(4, 1, 0, 0)), 1, 4},
		{"to T", begun(tee(3), list(4, 0, 0), list(4, 1, 0, 0)), 2, 3},
		{"as much as still waits", begun(tee(3), list(4, 0, 3), list(4, 1, 0, 0)), 1, 1},
		{"as much as it still takes", begun(tee(3), list(4, 1, 0), list(4, 1, 0, 0)), 1, 3},
		{"to what goes along it, as much as waits", begun(tee(9), list(4, 2, 1), list(4, 1, 0, 0)), 1, 3},
		{"from higher than S", begun(tee(3), list(4, 0, 3), list(4, 5, 4, 0)), 1, 1},
		{"to S", begun(net(3, arcs(0, 1, 4, 1, 0, 3)), list(4, 0), list(3, 4, 0)), 1, 3},
		{"to where something waits", begun(net(4, arcs(0, 1, 4, 0, 2, 4, 1, 2, 9)), list(4, 4, 0), list(4, 1, 0, 0)), 2, 4},
		{"one of two alike", begun(net(4, arcs(0, 1, 4, 1, 2, 3, 1, 2, 3)), list(4, 3, 0), list(4, 1, 0, 0)), 2, 1},
		{"against what comes", begun(net(4, arcs(0, 2, 4, 2, 1, 4, 1, 2, 3)), list(4, 4, 0), list(4, 2, 1, 0)), 2, 3},
		{"as much as can be", begun(line(3, 10000), list(10000, 0), list(3, 1, 0)), 1, 10000},
	} {
		t.Run(c.name, func(t *testing.T) { send(t, c.p, c.k, false, c.along) })
	}
}

// P32, back along an arc.
func TestSendBack(t *testing.T) {
	for _, c := range []struct {
		name  string
		p     api.Push
		k     int
		along int
	}{
		{"all, to S", begun(net(3, arcs(0, 1, 4)), list(4), list(3, 4, 0)), 0, 0},
		{"all of what it does not take all of", begun(net(3, arcs(0, 1, 4)), list(3), list(3, 4, 0)), 0, 0},
		{"what waits, to S", begun(tee(3), list(4, 0, 3), list(4, 5, 4, 0)), 0, 3},
		{"what goes along it", begun(net(4, arcs(0, 1, 4, 0, 1, 3)), list(4, 2), list(4, 5, 0, 0)), 1, 0},
		{"so too of the other one", begun(net(4, arcs(0, 1, 4, 0, 1, 3)), list(4, 2), list(4, 5, 0, 0)), 0, 0},
		{"all, to a node", begun(net(4, arcs(0, 2, 9, 2, 1, 9)), list(9, 9), list(4, 2, 1, 0)), 1, 0},
		{"what waits, to a node", begun(net(4, arcs(0, 2, 9, 2, 1, 5, 1, 3, 2)), list(9, 5, 2), list(4, 2, 1, 0)), 1, 2},
		{"to T", begun(reach(9), list(4, 3), list(3, 1, 0)), 1, 0},
		{"against what goes on", begun(net(4, arcs(0, 2, 4, 2, 1, 4, 1, 2, 3)), list(4, 4, 2), list(4, 2, 1, 0)), 1, 2},
		{"as much as can be", begun(net(3, arcs(0, 1, 10000)), list(10000), list(3, 4, 0)), 0, 0},
	} {
		t.Run(c.name, func(t *testing.T) { send(t, c.p, c.k, true, c.along) })
	}
}

// both: from 0 to 1 and to 2, and from 1 to 2.
func both(most int) api.Net {
	return net(4, arcs(0, 1, 4, 0, 2, 4, 1, 2, most))
}

// reach: from 0 to 2, which is T, and from there to 1.
func reach(most int) api.Net {
	return net(3, arcs(0, 2, 4, 2, 1, most))
}

// P32: what can't be sent, with nothing beside the error.
func TestNoSend(t *testing.T) {
	ready := begun(tee(3), list(4, 0, 0), list(4, 1, 0, 0))
	for _, c := range []struct {
		name string
		p    api.Push
		k    int
		back bool
		want api.Errno
	}{
		{"no arc -1", ready, -1, false, api.ErrNone},
		{"no arc -1, back", ready, -1, true, api.ErrNone},
		{"no arc 3", ready, 3, false, api.ErrNone},
		{"no arc 3, back", ready, 3, true, api.ErrNone},
		{"least int", ready, math.MinInt, false, api.ErrNone},
		{"greatest int", ready, math.MaxInt, true, api.ErrNone},
		{"no arcs", begun(net(2, nil), nil, list(2, 0)), 0, false, api.ErrNone},
		{"no arcs, back", begun(net(2, nil), nil, list(2, 0)), 0, true, api.ErrNone},

		{"nothing waits", begun(tee(5), list(4, 2, 2), list(4, 1, 0, 0)), 1, false, api.ErrState},
		{"nothing waits, but at To", begun(both(9), list(4, 4, 4), list(4, 1, 0, 0)), 2, false, api.ErrState},
		{"from S", begun(net(3, arcs(0, 1, 4)), list(1), list(3, 2, 0)), 0, false, api.ErrState},
		{"from T, where something waits", begun(reach(9), list(4, 0), list(3, 0, 0)), 1, false, api.ErrState},
		{"as high", begun(tee(3), list(4, 0, 0), list(4, 1, 1, 0)), 1, false, api.ErrState},
		{"both at 0", begun(tee(3), list(4, 0, 0), list(4, 0, 0, 0)), 1, false, api.ErrState},
		{"1 lower", begun(tee(3), list(4, 0, 0), list(4, 1, 2, 0)), 1, false, api.ErrState},
		{"it is full", begun(both(3), list(4, 4, 3), list(4, 1, 0, 0)), 2, false, api.ErrState},
		{"it is full, and leads far down", begun(both(3), list(4, 4, 3), list(4, 3, 0, 0)), 2, false, api.ErrState},
		{"Cap 0", begun(both(0), list(4, 4, 0), list(4, 1, 0, 0)), 2, false, api.ErrState},
		{"a loop", begun(net(3, arcs(0, 1, 4, 1, 1, 3)), list(4, 0), list(3, 1, 0)), 1, false, api.ErrState},

		{"back, nothing waits", begun(net(4, arcs(0, 1, 4, 1, 3, 4)), list(4, 4), list(4, 5, 0, 0)), 0, true, api.ErrState},
		{"back, nothing waits, but at From", begun(line(4, 9), list(9, 2, 2), list(4, 0, 1, 0)), 1, true, api.ErrState},
		{"back from S", begun(net(3, arcs(0, 1, 4, 1, 0, 3)), list(4, 3), list(3, 2, 0)), 1, true, api.ErrState},
		{"back from T, where something waits", begun(reach(9), list(4, 0), list(3, 0, 0)), 0, true, api.ErrState},
		{"back, as high", begun(tee(3), list(4, 2, 0), list(4, 1, 1, 0)), 1, true, api.ErrState},
		{"back, 1 lower", begun(tee(3), list(4, 2, 0), list(4, 1, 0, 0)), 1, true, api.ErrState},
		{"back to S from as high", begun(tee(3), list(4, 0, 3), list(4, 4, 4, 0)), 0, true, api.ErrState},
		{"back, nothing goes along it", begun(both(9), list(4, 4, 0), list(4, 0, 1, 0)), 2, true, api.ErrState},
		{"back, and it leads far down", begun(both(9), list(4, 4, 0), list(4, 0, 5, 0)), 2, true, api.ErrState},
		{"back, Cap 0", begun(both(0), list(4, 4, 0), list(4, 0, 1, 0)), 2, true, api.ErrState},
		{"back, a loop", begun(net(3, arcs(0, 1, 4, 1, 1, 3)), list(4, 3), list(3, 1, 0)), 1, true, api.ErrState},
	} {
		if e := Check(c.p); e != api.OK {
			t.Errorf("%s: Check %d", c.name, e)
		}
		if q, e := Send(c.p, c.k, c.back); !none(q) || e != c.want {
			t.Errorf("%s: %v %d, not %d alone", c.name, q, e, c.want)
		}
		checkAll(t, c.p)
	}
}

// P33.
func TestLift(t *testing.T) {
	over := net(5, arcs(0, 2, 4, 2, 1, 4, 1, 3, 4))
	for _, c := range []struct {
		name string
		p    api.Push
		at   int
		want int
	}{
		{"above 0", begun(tee(3), list(4, 0, 0), list(4, 0, 0, 0)), 1, 1},
		{"above the lowest of several", begun(both(9), list(4, 4, 0), list(4, 0, 2, 0)), 1, 3},
		{"the lowest is the last", begun(net(4, arcs(0, 1, 4, 1, 2, 4, 1, 3, 4)), list(4, 0, 0), list(4, 0, 2, 0)), 1, 1},
		{"the lowest is the first", begun(net(4, arcs(1, 3, 4, 1, 2, 4, 0, 1, 4)), list(0, 0, 4), list(4, 0, 2, 0)), 1, 1},
		{"a full arc does not count", begun(both(3), list(4, 4, 3), list(4, 0, 0, 0)), 1, 5},
		{"an arc of Cap 0 does not count", begun(both(0), list(4, 4, 0), list(4, 0, 0, 0)), 1, 5},
		{"an arc of which 1 is left counts", begun(both(3), list(4, 4, 2), list(4, 0, 0, 0)), 1, 1},
		{"back, where 1 goes", begun(net(4, arcs(0, 1, 4, 0, 2, 4, 2, 1, 1)), list(4, 4, 1), list(4, 0, 1, 0)), 1, 2},
		{"not back, where nothing goes", begun(net(4, arcs(0, 1, 4, 2, 1, 9)), list(4, 0), list(4, 0, 0, 0)), 1, 5},
		{"back to a lower one than on", begun(over, list(4, 4, 0), list(5, 0, 1, 3, 0)), 1, 2},
		{"on to a lower one than back", begun(over, list(4, 4, 0), list(5, 0, 3, 1, 0)), 1, 2},
		{"back to S alone", begun(net(3, arcs(0, 1, 4)), list(4), list(3, 0, 0)), 1, 4},
		{"from where it stood", begun(net(3, arcs(0, 1, 4)), list(1), list(3, 2, 0)), 1, 4},
		{"by 1", begun(net(3, arcs(0, 1, 4)), list(4), list(3, 3, 0)), 1, 4},
		{"above T, back", begun(reach(9), list(4, 3), list(3, 0, 0)), 1, 1},
		{"on to S", begun(net(3, arcs(0, 1, 4, 1, 0, 3)), list(4, 0), list(3, 0, 0)), 1, 4},
		{"a loop leads to itself", begun(net(3, arcs(0, 1, 4, 1, 1, 3)), list(4, 0), list(3, 0, 0)), 1, 1},
		{"a full loop too", begun(net(3, arcs(0, 1, 4, 1, 1, 3)), list(4, 3), list(3, 1, 0)), 1, 2},
		{"a loop of Cap 0 does not", begun(net(3, arcs(0, 1, 4, 1, 1, 0)), list(4, 0), list(3, 0, 0)), 1, 4},
		{"a loop of another one", begun(net(4, arcs(0, 1, 4, 2, 2, 3)), list(4, 0), list(4, 0, 0, 0)), 1, 5},
	} {
		t.Run(c.name, func(t *testing.T) { lift(t, c.p, c.at, c.want) })
	}
}

// P33: what can't be lifted, with nothing beside the error.
func TestNoLift(t *testing.T) {
	p, _ := New(tee(3))
	for _, c := range []struct {
		name string
		p    api.Push
		at   int
		want api.Errno
	}{
		{"no node -1", p, -1, api.ErrNode},
		{"no node 4", p, 4, api.ErrNode},
		{"least int", p, math.MinInt, api.ErrNode},
		{"greatest int", p, math.MaxInt, api.ErrNode},
		{"S", p, 0, api.ErrState},
		{"nothing waits", p, 2, api.ErrState},
		{"T", p, 3, api.ErrState},
		{"T, where something waits", begun(tee(3), list(4, 0, 3), list(4, 0, 0, 0)), 3, api.ErrState},
		{"what came went on", begun(tee(3), list(4, 1, 3), list(4, 0, 0, 0)), 1, api.ErrState},
		{"1 higher than one", begun(tee(3), list(4, 0, 0), list(4, 1, 0, 0)), 1, api.ErrState},
		{"1 higher than T", begun(tee(3), list(4, 3, 0), list(4, 1, 2, 0)), 1, api.ErrState},
		{"1 higher than S", begun(net(3, arcs(0, 1, 4)), list(4), list(3, 4, 0)), 1, api.ErrState},
		{"1 higher than S, with a loop", begun(net(3, arcs(0, 1, 4, 1, 1, 3)), list(4, 0), list(3, 4, 0)), 1, api.ErrState},
	} {
		if e := Check(c.p); e != api.OK {
			t.Errorf("%s: Check %d", c.name, e)
		}
		if q, e := Lift(c.p, c.at); !none(q) || e != c.want {
			t.Errorf("%s: %v %d, not %d alone", c.name, q, e, c.want)
		}
		checkAll(t, c.p)
	}
}

// P32, P33: as high as a node can come, at the end of the longest line, from where it goes all the way back.
func TestHighest(t *testing.T) {
	n := line(12, 1)
	n.Arcs[10].Cap = 0
	p := begun(n, append(times(10, 1), 0), list(12, 13, 14, 15, 16, 17, 18, 19, 20, 21, 0, 0))
	p = lift(t, p, 10, 22)
	for at := 10; at > 0; at-- {
		checkBusy(t, p, at)
		p = send(t, p, at-1, true, 0)
	}
	checkBusy(t, p)
}

// P34.
func TestBusy(t *testing.T) {
	between := api.Net{N: 4, S: 2, T: 1, Arcs: arcs(2, 3, 9, 2, 1, 3, 2, 0, 1)}
	five := net(6, arcs(0, 4, 2, 0, 2, 3, 0, 3, 1, 0, 1, 7, 0, 5, 8, 1, 5, 7))
	for _, c := range []struct {
		name string
		p    api.Push
		want []int
	}{
		{"no arcs", begun(net(4, nil), nil, list(4, 8, 0, 0)), nil},
		{"rising", begun(five, list(2, 3, 1, 7, 8, 0), list(6, 0, 0, 0, 0, 0)), list(1, 2, 3, 4)},
		{"one of which all has gone on", begun(five, list(2, 3, 1, 7, 8, 7), list(6, 0, 0, 0, 0, 0)), list(2, 3, 4)},
		{"one to which nothing came", begun(five, list(2, 0, 1, 7, 8, 7), list(6, 0, 5, 0, 0, 0)), list(3, 4)},
		{"loops do not count", begun(net(3, arcs(0, 1, 1, 1, 1, 5)), list(0, 5), list(3, 2, 0)), nil},
		{"S and T between", begun(between, list(9, 3, 1), list(0, 0, 4, 0)), list(0, 3)},
	} {
		t.Run(c.name, func(t *testing.T) { checkBusy(t, c.p, c.want...) })
	}
}

// wantCheck: P30 for a net that is right, word by word: of all errors that there are the one that is told first.
func wantCheck(p api.Push) api.Errno {
	n, f, h := p.Net, p.Flow, p.Height
	if len(f) != len(n.Arcs) || len(h) != n.N {
		return api.ErrForm
	}
	over, lost, arg, state := false, false, false, false
	for v, up := range h {
		lost = lost || v != n.S && waitsAt(p, v) < 0
		arg = arg || up < 0 || up > 2*n.N || v == n.S && up != n.N || v == n.T && up != 0
	}
	for k, a := range n.Arcs {
		over = over || f[k] < 0 || f[k] > a.Cap
		state = state || f[k] < a.Cap && h[a.From]-h[a.To] > 1 || f[k] > 0 && h[a.To]-h[a.From] > 1
	}
	switch {
	case over:
		return api.ErrOver
	case lost:
		return api.ErrLost
	case arg:
		return api.ErrArg
	case state:
		return api.ErrState
	}
	return api.OK
}

// waitsAt is how much waits at a node.
func waitsAt(p api.Push, v int) int {
	sum := 0
	for k, a := range p.Net.Arcs {
		if a.To == v {
			sum += p.Flow[k]
		}
		if a.From == v {
			sum -= p.Flow[k]
		}
	}
	return sum
}

// wantNew: P31, of a net that is right.
func wantNew(n api.Net) api.Push {
	p := begun(n, nil, times(n.N, 0))
	p.Height[n.S] = n.N
	for _, a := range n.Arcs {
		switch {
		case a.From != n.S, a.To == n.S:
			p.Flow = append(p.Flow, 0)
		default:
			p.Flow = append(p.Flow, a.Cap)
		}
	}
	return p
}

// wantBusy: P34, of what P30 lets pass.
func wantBusy(p api.Push) []int {
	var busy []int
	for v := range p.Net.N {
		if v != p.Net.S && v != p.Net.T && waitsAt(p, v) > 0 {
			busy = append(busy, v)
		}
	}
	return busy
}

// wantSend: P32, of what P30 lets pass.
func wantSend(p api.Push, k int, back bool) (api.Push, api.Errno) {
	if k < 0 || k >= len(p.Flow) {
		return api.Push{}, api.ErrNone
	}
	from, to, can := p.Net.Arcs[k].From, p.Net.Arcs[k].To, p.Net.Arcs[k].Cap-p.Flow[k]
	if back {
		from, to, can = to, from, p.Flow[k]
	}
	can = min(can, waitsAt(p, from))
	if !slices.Contains(wantBusy(p), from) || p.Height[from]-p.Height[to] != 1 || can == 0 {
		return api.Push{}, api.ErrState
	}
	q := copied(p)
	if back {
		q.Flow[k] = p.Flow[k] - can
	} else {
		q.Flow[k] = p.Flow[k] + can
	}
	return q, api.OK
}

// wantLift: P33, of what P30 lets pass.
func wantLift(p api.Push, at int) (api.Push, api.Errno) {
	if at < 0 || at >= p.Net.N {
		return api.Push{}, api.ErrNode
	}
	var heights []int
	for k, a := range p.Net.Arcs {
		if a.From == at && p.Flow[k] < a.Cap {
			heights = append(heights, p.Height[a.To])
		}
		if a.To == at && p.Flow[k] > 0 {
			heights = append(heights, p.Height[a.From])
		}
	}
	if !slices.Contains(wantBusy(p), at) || len(heights) == 0 {
		return api.Push{}, api.ErrState
	}
	up := slices.Min(heights) + 1
	if up <= p.Height[at] || up > 2*p.Net.N {
		return api.Push{}, api.ErrState
	}
	q := copied(p)
	q.Height[at] = up
	return q, api.OK
}

// copied: the same, with lists of its own.
func copied(p api.Push) api.Push {
	p.Net.Arcs = append([]api.Arc{}, p.Net.Arcs...)
	p.Flow = append([]int{}, p.Flow...)
	p.Height = append([]int{}, p.Height...)
	return p
}

// checkAll holds all calls for a net that is right against the words; it tells how many Sends and Lifts were let.
func checkAll(t *testing.T, p api.Push) (sends, lifts int) {
	t.Helper()
	if want := wantCheck(p); want != api.OK {
		checkBad(t, "not right", p, want)
		return 0, 0
	}
	if e := Check(p); e != api.OK {
		t.Fatalf("%v: Check %d", p, e)
	}
	if l, e := Busy(p); e != api.OK || !slices.Equal(l, wantBusy(p)) {
		t.Fatalf("%v: Busy %v %d, not %v", p, l, e, wantBusy(p))
	}
	for k := -1; k <= len(p.Flow); k++ {
		sends += checkSend(t, p, k, false) + checkSend(t, p, k, true)
	}
	for at := -1; at <= p.Net.N; at++ {
		lifts += checkLift(t, p, at)
	}
	return sends, lifts
}

// checkSend holds a Send against the words; it tells 1 if it was let.
func checkSend(t *testing.T, p api.Push, k int, back bool) int {
	t.Helper()
	want, e := wantSend(p, k, back)
	return checkTold(t, p, want, e, func(p api.Push) (api.Push, api.Errno) { return Send(p, k, back) })
}

// checkLift holds a Lift against the words; it tells 1 if it was let.
func checkLift(t *testing.T, p api.Push, at int) int {
	t.Helper()
	want, e := wantLift(p, at)
	return checkTold(t, p, want, e, func(p api.Push) (api.Push, api.Errno) { return Lift(p, at) })
}

func checkTold(t *testing.T, p, want api.Push, wantError api.Errno, call func(api.Push) (api.Push, api.Errno)) int {
	t.Helper()
	q, e := call(p)
	if e != wantError || !same(q, want) || e != api.OK && !none(q) {
		t.Fatalf("%v: %v %d, not %v %d", p, q, e, want, wantError)
	}
	if e != api.OK {
		return 0
	}
	// Each that is let changes something.
	if same(p, q) {
		t.Fatalf("%v has changed with what came of it", p)
	}
	// What was right is so still.
	if e := Check(q); e != api.OK {
		t.Fatalf("%v: of it came %v, which is %d", p, q, e)
	}
	return 1
}

// tally: how much of each kind was checked.
type tally struct{ right, wrong, sends, lifts int }

func (c *tally) check(t *testing.T, p api.Push) {
	t.Helper()
	if wantCheck(p) == api.OK {
		c.right++
	} else {
		c.wrong++
	}
	sends, lifts := checkAll(t, p)
	c.sends += sends
	c.lifts += lifts
}

// P30 to P34, of all lists of few arcs, all that goes along them, and all heights.
func TestAllOfFewArcs(t *testing.T) {
	for _, size := range []struct{ n, arcs, most, right, sends, lifts int }{
		{2, 2, 2, 100, 0, 0}, {3, 2, 1, 1000, 40, 100}, {4, 1, 2, 1000, 0, 10},
	} {
		var c tally
		longer(api.Net{N: size.n, S: size.n - 1, T: 0}, size.arcs, size.most, func(n api.Net) {
			numbers(lows(n, -1), highs(n, 1), func(f []int) {
				heights(n, 1, func(h []int) { c.check(t, begun(n, f, h)) })
			})
		})
		if c.right < size.right || c.wrong < c.right || c.sends < size.sends || c.lifts < size.lifts {
			t.Error("too few of a kind:", size, c)
		}
	}
}

// P30 to P34, of all longer lists, but only with numbers and heights within their bounds.
func TestAllWithinBounds(t *testing.T) {
	for _, size := range []struct{ n, arcs, most int }{{3, 2, 3}, {3, 3, 1}, {4, 2, 1}} {
		var c tally
		longer(api.Net{N: size.n, S: 0, T: size.n - 1}, size.arcs, size.most, func(n api.Net) {
			numbers(lows(n, 0), highs(n, 0), func(f []int) {
				heights(n, 0, func(h []int) { c.check(t, begun(n, f, h)) })
			})
		})
		if c.right < 10000 || c.wrong < 10000 || c.sends < 500 || c.lifts < 1000 {
			t.Error("too few of a kind:", size, c)
		}
	}
}

// longer calls do with a net, and with all that have up to so many more arcs.
func longer(n api.Net, more, most int, do func(api.Net)) {
	do(n)
	if more == 0 {
		return
	}
	for ends := range n.N * n.N {
		for x := range most + 1 {
			m := n
			m.Arcs = append(slices.Clone(n.Arcs), api.Arc{From: ends / n.N, To: ends % n.N, Cap: x})
			longer(m, more-1, most, do)
		}
	}
}

// lows: what goes along each arc at the least; with -1 so much less than may.
func lows(n api.Net, less int) []int {
	return times(len(n.Arcs), less)
}

// highs: what goes along each arc at most; with 1 so much more than may.
func highs(n api.Net, more int) []int {
	var l []int
	for _, a := range n.Arcs {
		l = append(l, a.Cap+more)
	}
	return l
}

// heights calls do with all heights, S's and T's, and those of the other nodes, at most so far beyond their bounds.
func heights(n api.Net, beyond int, do func([]int)) {
	from, to := times(n.N, -beyond), times(n.N, 2*n.N+beyond)
	from[n.S], to[n.S] = n.N-beyond, n.N+beyond
	to[n.T] = beyond
	numbers(from, to, do)
}

// numbers calls do with all lists of numbers between two of them.
func numbers(from, to []int, do func([]int)) {
	l := slices.Clone(from)
	for {
		do(l)
		i := 0
		for ; i < len(l) && l[i] == to[i]; i++ {
			l[i] = from[i]
		}
		if i == len(l) {
			return
		}
		l[i]++
	}
}

// drawn: a net of n nodes with so many arcs of at most so much each.
func drawn(r *rand.Rand, n, many, most int) api.Net {
	d := api.Net{N: n, S: r.Intn(n)}
	d.T = (d.S + 1 + r.Intn(n-1)) % n
	for range many {
		d.Arcs = append(d.Arcs, api.Arc{From: r.Intn(n), To: r.Intn(n), Cap: r.Intn(most + 1)})
	}
	return d
}

// narrow: a drawn net whose nodes stand in rows of so many between S and T, with arcs from each row to the next one,
// and a few elsewhere.
func narrow(r *rand.Rand, rows, wide, many, most int) api.Net {
	n := net(rows*wide+2, nil)
	row := func(v int) int { return (v + wide - 1) / wide }
	for len(n.Arcs) < many {
		a := api.Arc{From: r.Intn(n.N), To: r.Intn(n.N), Cap: 1 + r.Intn(most)}
		if row(a.To) == row(a.From)+1 || r.Intn(30) == 0 {
			n.Arcs = append(n.Arcs, a)
		}
	}
	return n
}

// onward takes one step at will: by a Send that is let, or, if none is from a BUSY node, by a Lift of it; it tells
// whether there was a BUSY node.
func onward(t *testing.T, r *rand.Rand, p api.Push) (api.Push, bool) {
	t.Helper()
	busy := wantBusy(p)
	if len(busy) == 0 {
		return p, false
	}
	at := busy[r.Intn(len(busy))]
	var let []api.Push
	for k, a := range p.Net.Arcs {
		if a.From == at && checkSend(t, p, k, false) == 1 {
			q, _ := Send(p, k, false)
			let = append(let, q)
		}
		if a.To == at && checkSend(t, p, k, true) == 1 {
			q, _ := Send(p, k, true)
			let = append(let, q)
		}
	}
	// From a BUSY node something can go, if it does not have to be lifted before.
	if checkLift(t, p, at) == 1 {
		q, _ := Lift(p, at)
		let = append(let, q)
	}
	if len(let) == 0 {
		t.Fatalf("%v: nothing goes on from %d", p, at)
	}
	return let[r.Intn(len(let))], true
}

// P31 to P34: what is begun by New, and goes on until no node is BUSY, is a flow, and as much as can be. toEnd tells
// all that there was between, each of which it holds against the words as far as it goes on.
func toEnd(t *testing.T, r *rand.Rand, n api.Net) []api.Push {
	t.Helper()
	p, e := New(n)
	if e != api.OK || !same(p, wantNew(n)) {
		t.Fatalf("%v: New %v %d, not %v", n, p, e, wantNew(n))
	}
	all := []api.Push{p}
	for {
		q, more := onward(t, r, p)
		if !more {
			break
		}
		if len(all) > 10000 {
			t.Fatal(n, "without end")
		}
		p = q
		all = append(all, p)
	}
	want := leastSide(n)
	if v, e := flow.Value(n, p.Flow); v != want || e != api.OK {
		t.Fatalf("%v: %v is a flow of %d (error %d), not %d", n, p.Flow, v, e, want)
	}
	return all
}

// leastSide: of all sides with S and without T the least sum of what the arcs that leave it take.
func leastSide(n api.Net) int {
	least := math.MaxInt
	for side := range 1 << n.N {
		if side>>n.S&1 == 0 || side>>n.T&1 == 1 {
			continue
		}
		sum := 0
		for _, a := range n.Arcs {
			if side>>a.From&1 == 1 && side>>a.To&1 == 0 {
				sum += a.Cap
			}
		}
		least = min(least, sum)
	}
	return least
}

// P30 to P34, up to the greatest nets and Caps.
func TestDrawn(t *testing.T) {
	r := rand.New(rand.NewSource(72))
	for _, most := range []int{1, 3, 20, api.MaxCap} {
		var c tally
		for range 150 {
			all := toEnd(t, r, drawn(r, 2+r.Intn(api.MaxN-1), r.Intn(api.MaxArcs+1), most))
			for range 4 {
				c.check(t, all[r.Intn(len(all))])
			}
			c.check(t, all[len(all)-1])
		}
		if c.wrong > 0 || c.sends < 200 || c.lifts < 200 {
			t.Error("too few of a kind:", most, c)
		}
	}
}

// P30 to P34, where what went must come back.
func TestNarrow(t *testing.T) {
	r := rand.New(rand.NewSource(73))
	for _, most := range []int{1, 3, api.MaxCap} {
		var c tally
		for range 100 {
			all := toEnd(t, r, narrow(r, 3, 3, 24, most))
			for range 4 {
				c.check(t, all[r.Intn(len(all))])
			}
		}
		if c.wrong > 0 || c.sends < 200 || c.lifts < 200 {
			t.Error("too few of a kind:", most, c)
		}
	}
}

// shaken: some of the numbers changed at will, most of them by 1.
func shaken(r *rand.Rand, p api.Push) api.Push {
	p = copied(p)
	for range 1 + r.Intn(3) {
		by := r.Intn(3) - 1
		if r.Intn(4) == 0 {
			by = r.Intn(20) - 10
		}
		if r.Intn(2) == 0 || len(p.Flow) == 0 {
			p.Height[r.Intn(len(p.Height))] += by
		} else {
			p.Flow[r.Intn(len(p.Flow))] += by
		}
	}
	return p
}

// P30 to P34, also of what can't come of New, and of what is wrong.
func TestShaken(t *testing.T) {
	r := rand.New(rand.NewSource(74))
	for _, most := range []int{2, 9, api.MaxCap} {
		var c tally
		for range 150 {
			all := toEnd(t, r, drawn(r, 3+r.Intn(api.MaxN-2), r.Intn(31), most))
			p := all[r.Intn(len(all))]
			for range 20 {
				q := shaken(r, p)
				c.check(t, q)
				if wantCheck(q) == api.OK {
					p = q
				}
			}
		}
		if c.right < 300 || c.wrong < 300 || c.sends < 200 || c.lifts < 200 {
			t.Error("too few of a kind:", most, c)
		}
	}
}

// some: what there was on the way to the end in a drawn net.
func some(t *testing.T, r *rand.Rand) api.Push {
	t.Helper()
	all := toEnd(t, r, drawn(r, 3+r.Intn(5), 10+r.Intn(21), 9))
	return all[r.Intn(len(all))]
}

// answers: all that is told of one, by the calls that tell one of the same kind.
func answers(p api.Push) []api.Push {
	first, _ := New(p.Net)
	told := []api.Push{first}
	for k := range p.Flow {
		for _, back := range []bool{false, true} {
			if q, e := Send(p, k, back); e == api.OK {
				told = append(told, q)
			}
		}
	}
	for v := range p.Height {
		if q, e := Lift(p, v); e == api.OK {
			told = append(told, q)
		}
	}
	return told
}

// P2: the same each time, whatever was asked between.
func TestSameEachTime(t *testing.T) {
	r := rand.New(rand.NewSource(75))
	for range 100 {
		p := some(t, r)
		first := answers(p)
		busy, _ := Busy(p)
		for range 3 {
			answers(some(t, r))
			if again := answers(p); !slices.EqualFunc(first, again, same) {
				t.Fatal(p, first, again)
			}
			if l, e := Busy(p); e != api.OK || !slices.Equal(l, busy) {
				t.Fatal(p, l, e, busy)
			}
		}
	}
}

// P1.
func TestNothingPanics(t *testing.T) {
	odd := []int{math.MinInt, -10001, -1, 0, 1, 2, 11, 12, 13, 10000, 10001, math.MaxInt}
	for _, n := range odd {
		for _, v := range odd {
			for _, w := range odd {
				callAll(begun(api.Net{N: n, S: v, T: w}, nil, nil), v, w)
				callAll(begun(api.Net{N: n, S: v, T: w, Arcs: arcs(v, w, 1)}, list(1), list(n, 0)), v, w)
				callAll(begun(api.Net{N: n, S: 0, T: 1, Arcs: arcs(v, w, 1, 1, 1, 1)}, list(1, 1), list(2, 0)), v, w)
				callAll(begun(api.Net{N: n, S: 0, T: 1, Arcs: arcs(0, 1, v, 1, 0, w)}, list(v, w), list(n, 0)), n, n)
				callAll(begun(net(2, arcs(0, 1, 10000, 1, 0, 10000)), list(v, w), list(n, 0)), n, n)
				callAll(begun(net(3, arcs(0, 1, 10000, 1, 2, 10000)), list(10000, 0), list(v, w, n)), v, w)
				callAll(begun(net(3, arcs(0, 1, 10000, 1, 2, 10000)), list(v, w), list(3, n, 0)), w, v)
				callAll(begun(net(3, arcs(0, 1, 10000, 1, 1, 10000)), list(v, w), list(3, n, 0)), w, v)
				callAll(begun(net(3, arcs(0, 1, 2, 1, 2, 1)), list(2, 0), list(3, 1, 0)), v, w)
				callAll(begun(api.Net{N: n, S: v, T: w, Arcs: alike(61, v, w, 0)}, times(61, n), times(13, n)), v, w)
			}
		}
	}
}

func callAll(p api.Push, k, at int) {
	Check(p)
	New(p.Net)
	Send(p, k, false)
	Send(p, k, true)
	Lift(p, at)
	Busy(p)
}

// roomy: the same, with memory behind its lists.
func roomy(p api.Push) api.Push {
	p.Net.Arcs = append(slices.Clone(p.Net.Arcs), arcs(7, 7, 7, 8, 8, 8)...)[:len(p.Net.Arcs)]
	p.Flow = append(slices.Clone(p.Flow), 77, 88)[:len(p.Flow)]
	p.Height = append(slices.Clone(p.Height), 77, 88)[:len(p.Height)]
	return p
}

// whole: the same, with two more in each list, of the memory behind it.
func whole(p api.Push) api.Push {
	p.Net.Arcs = p.Net.Arcs[:len(p.Net.Arcs)+2]
	p.Flow = p.Flow[:len(p.Flow)+2]
	p.Height = p.Height[:len(p.Height)+2]
	return p
}

// P2: what is handed in stays as it is, the memory behind a list included.
func TestNothingIsChanged(t *testing.T) {
	r := rand.New(rand.NewSource(76))
	for range 300 {
		p := roomy(some(t, r))
		before := copied(whole(p))
		answers(p)
		Busy(p)
		// And one that is not right.
		bad := p
		bad.Height = p.Height[:len(p.Height)-1]
		callAll(bad, 0, 0)
		callAll(whole(p), 0, 0)
		if !same(whole(p), before) {
			t.Fatal("changed:", before, whole(p))
		}
	}
}

// spoil writes over a list, spare memory included.
func spoil(l []int) {
	l = l[:cap(l)]
	for i := range l {
		l[i] = -7
	}
}

func spoilArcs(l []api.Arc) {
	l = l[:cap(l)]
	for i := range l {
		l[i] = api.Arc{From: -7, To: -7, Cap: -7}
	}
}

// P2: an answer shares no memory with what was handed in, or with another answer, and its lists share none.
func TestNothingIsShared(t *testing.T) {
	r := rand.New(rand.NewSource(77))
	for range 300 {
		p := roomy(some(t, r))
		before := copied(whole(p))
		told := answers(p)
		want := make([]api.Push, len(told))
		for i, q := range told {
			want[i] = copied(q)
		}
		for i, q := range told {
			if !same(q, want[i]) {
				t.Fatal("an answer has changed with another one:", q, want[i])
			}
			spoil(q.Flow)
			if !slices.Equal(q.Height, want[i].Height) || !slices.Equal(q.Net.Arcs, want[i].Net.Arcs) {
				t.Fatal("lists of one answer are shared:", q, want[i])
			}
			copy(q.Flow, want[i].Flow)
			spoil(q.Height)
			spoilArcs(q.Net.Arcs)
			if !slices.Equal(q.Flow, want[i].Flow) {
				t.Fatal("lists of one answer are shared:", q, want[i])
			}
			spoil(q.Flow)
		}
		if !same(whole(p), before) {
			t.Fatal("what was handed in has changed with an answer:", whole(p), before)
		}
		told = answers(p)
		busy, _ := Busy(p)
		spoil(busy)
		if l, _ := Busy(p); !slices.Equal(l, wantBusy(p)) {
			t.Fatal("a later answer is another one:", p, l)
		}
		busy, _ = Busy(p)
		wanted := wantBusy(p)
		spoil(p.Flow)
		spoil(p.Height)
		spoilArcs(p.Net.Arcs)
		if !slices.EqualFunc(told, want, same) || !slices.Equal(busy, wanted) {
			t.Fatal("an answer has changed with what was handed in:", told, want, busy, wanted)
		}
	}
}
