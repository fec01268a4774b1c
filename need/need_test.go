package need

import (
	"math"
	"math/rand"
	"slices"
	"testing"

	"weirmaster/api"
)

// needs by their numbers: From, To, Low and Cap of each.
func needs(numbers ...int) []api.Need {
	var list []api.Need
	for c := range slices.Chunk(numbers, 4) {
		list = append(list, api.Need{From: c[0], To: c[1], Low: c[2], Cap: c[3]})
	}
	return list
}

// alike: n times the same arc.
func alike(n, from, to, low, most int) []api.Need {
	return slices.Repeat(needs(from, to, low, most), n)
}

// ring: an arc from each of n nodes to the next one, and from the last one to the first.
func ring(n, low, most int) []api.Need {
	var list []api.Need
	for v := range n {
		list = append(list, api.Need{From: v, To: (v + 1) % n, Low: low, Cap: most})
	}
	return list
}

// times: n times the same number.
func times(n, x int) []int {
	return slices.Repeat([]int{x}, n)
}

// badCases: what Check does not let pass.
var badCases = []struct {
	name string
	n    int
	l    []api.Need
	want api.Errno
}{
	{"no node", 0, nil, api.ErrArg},
	{"nodes below 0", -1, nil, api.ErrArg},
	{"11 nodes", 11, nil, api.ErrArg},
	{"12 nodes", 12, ring(3, 0, 1), api.ErrArg},
	{"least int of nodes", math.MinInt, nil, api.ErrArg},
	{"greatest int of nodes", math.MaxInt, nil, api.ErrArg},
	{"11 nodes ahead of 31 arcs", 11, alike(31, 0, 1, 0, 1), api.ErrArg},
	{"no node ahead of an arc to no node", 0, needs(0, 0, 0, 1), api.ErrArg},

	{"31 arcs", 2, alike(31, 0, 1, 0, 1), api.ErrLarge},
	{"31 arcs, from no node", 2, alike(31, 2, 1, 0, 1), api.ErrLarge},
	{"31 arcs, of a bad Low", 2, alike(31, 0, 1, -1, 1), api.ErrLarge},
	{"60 arcs", 10, alike(60, 0, 1, 0, 1), api.ErrLarge},

	{"From at n", 2, needs(2, 0, 0, 1), api.ErrNode},
	{"From below 0", 2, needs(-1, 0, 0, 1), api.ErrNode},
	{"To at n", 10, needs(0, 10, 0, 1), api.ErrNode},
	{"To above n", 10, needs(0, 11, 0, 1), api.ErrNode},
	{"To below 0", 2, needs(0, -1, 0, 1), api.ErrNode},
	{"a loop at n", 1, needs(1, 1, 0, 1), api.ErrNode},
	{"least int of From", 2, needs(math.MinInt, 0, 0, 1), api.ErrNode},
	{"greatest int of To", 2, needs(0, math.MaxInt, 0, 1), api.ErrNode},
	{"no node at the last of 30 arcs", 2, append(alike(29, 0, 1, 0, 1), needs(0, 2, 0, 1)...), api.ErrNode},

	{"Low below 0", 2, needs(0, 1, -1, 5), api.ErrArg},
	{"least int of Low", 2, needs(0, 1, math.MinInt, 5), api.ErrArg},
	{"Low above Cap", 2, needs(0, 1, 6, 5), api.ErrArg},
	{"Low above a Cap of 0", 2, needs(0, 1, 1, 0), api.ErrArg},
	{"greatest int of Low", 2, needs(0, 1, math.MaxInt, 5), api.ErrArg},
	{"Cap 334", 2, needs(0, 1, 0, 334), api.ErrArg},
	{"Low and Cap 334", 2, needs(0, 1, 334, 334), api.ErrArg},
	{"Cap 10000", 2, needs(0, 1, 0, 10000), api.ErrArg},
	{"greatest int of Cap", 2, needs(0, 1, 0, math.MaxInt), api.ErrArg},
	{"Cap below 0", 2, needs(0, 1, 0, -1), api.ErrArg},
	{"Low and Cap below 0", 2, needs(0, 1, -1, -1), api.ErrArg},
	{"least int of Cap", 2, needs(0, 1, 0, math.MinInt), api.ErrArg},
	{"a loop that takes less than it must", 1, needs(0, 0, 2, 1), api.ErrArg},
	{"a bad Low at the last of 30 arcs", 2, append(alike(29, 0, 1, 0, 1), needs(0, 1, 2, 1)...), api.ErrArg},

	{"no node and a bad Low at one arc", 2, needs(0, 2, -1, 1), api.ErrNode},
	{"no node at one arc, a bad Cap at a later one", 2, needs(0, 2, 0, 1, 0, 1, 0, 334), api.ErrNode},
	{"a bad Cap at one arc, no node at a later one", 2, needs(0, 1, 0, 334, 0, 2, 0, 1), api.ErrArg},
	{"a bad Low ahead of there being no round", 2, needs(0, 1, 2, 2, 1, 0, 0, 1, 1, 0, 3, 2), api.ErrArg},
}

// P35, P36, P37: what is not right, with nothing beside the error.
func TestErrors(t *testing.T) {
	for _, c := range badCases {
		if e := Check(c.n, c.l); e != c.want {
			t.Errorf("%s: Check %d, not %d", c.name, e, c.want)
		}
		if f, e := Round(c.n, c.l); f != nil || e != c.want {
			t.Errorf("%s: Round %v %d, not %d alone", c.name, f, e, c.want)
		}
		if s, e := Fault(c.n, c.l); s != 0 || e != c.want {
			t.Errorf("%s: Fault %b %d, not %d alone", c.name, s, e, c.want)
		}
	}
}

// P36, by hand: where there is one round alone.
func TestRoundByHand(t *testing.T) {
	cases := []struct {
		name string
		n    int
		l    []api.Need
		want []int
	}{
		{"no arcs", 1, nil, nil},
		{"no arcs, empty", 10, []api.Need{}, nil},
		{"an arc that takes nothing", 2, needs(0, 1, 0, 0), []int{0}},
		{"an arc that leads nowhere", 2, needs(0, 1, 0, 333), []int{0}},
		{"a line that leads nowhere", 3, needs(0, 1, 0, 5, 1, 2, 0, 5), []int{0, 0}},
		{"a loop that must take all", 1, needs(0, 0, 333, 333), []int{333}},
		{"a loop, and an arc that leads nowhere", 2, needs(1, 1, 4, 4, 0, 1, 0, 9), []int{4, 0}},
		{"30 loops", 1, alike(30, 0, 0, 333, 333), times(30, 333)},
		{"there and back", 2, needs(0, 1, 2, 5, 1, 0, 0, 2), []int{2, 2}},
		{"there and back by two", 2, needs(0, 1, 5, 5, 1, 0, 0, 2, 1, 0, 0, 3), []int{5, 2, 3}},
		{"two there, one back", 2, needs(0, 1, 1, 9, 0, 1, 2, 9, 1, 0, 0, 3), []int{1, 2, 3}},
		{"a ring that must take all", 10, ring(10, 333, 333), times(10, 333)},
		{"a ring, and one arc of it that must take more", 3, needs(0, 1, 2, 5, 1, 2, 0, 9, 2, 0, 4, 4), []int{4, 4, 4}},
		{"over one node, not the other", 4, needs(0, 1, 0, 9, 0, 2, 0, 9, 1, 3, 0, 0, 2, 3, 0, 7, 3, 0, 7, 8), []int{0, 7, 0, 7, 7}},
		{"two rounds at one node", 3, needs(0, 1, 3, 3, 1, 0, 0, 9, 0, 2, 0, 9, 2, 0, 4, 4), []int{3, 3, 4, 4}},
		{"two rounds that do not meet", 4, needs(3, 1, 5, 5, 0, 2, 0, 2, 1, 3, 0, 6, 2, 0, 2, 9), []int{5, 2, 5, 2}},
		{"30 arcs, 15 there and 15 back", 2, append(alike(15, 0, 1, 333, 333), alike(15, 1, 0, 0, 333)...), times(30, 333)},
	}
	for _, c := range cases {
		if e := Check(c.n, c.l); e != api.OK {
			t.Errorf("%s: Check %d", c.name, e)
		}
		if f, e := Round(c.n, c.l); !slices.Equal(f, c.want) || e != api.OK {
			t.Errorf("%s: Round %v %d, not %v", c.name, f, e, c.want)
		}
		if s, e := Fault(c.n, c.l); s != 0 || e != api.ErrNone {
			t.Errorf("%s: Fault %b %d, not ErrNone alone", c.name, s, e)
		}
	}
}

// P37, by hand: where there is one set alone that will do.
func TestFaultByHand(t *testing.T) {
	cases := []struct {
		name string
		n    int
		l    []api.Need
		want uint16
	}{
		{"2 there, 1 back", 2, needs(0, 1, 2, 2, 1, 0, 0, 1), 0b10},
		{"2 back, 1 there", 2, needs(1, 0, 2, 2, 0, 1, 0, 1), 0b01},
		{"nothing back", 2, needs(0, 1, 1, 1), 0b10},
		{"nothing back, as much as can be", 2, alike(30, 0, 1, 333, 333), 0b10},
		{"back to the first node", 2, needs(1, 0, 333, 333), 0b01},
		{"two that must, one that can", 2, needs(0, 1, 3, 9, 0, 1, 4, 9, 1, 0, 0, 6), 0b10},
		{"a loop is no way out", 2, needs(0, 1, 1, 1, 1, 1, 5, 9), 0b10},
		{"at the last of 10", 10, append(ring(9, 0, 9), needs(8, 9, 4, 4, 9, 0, 0, 3)...), 1 << 9},
		{"all but the first of 10", 10, append(ring(10, 0, 9)[:9], needs(0, 1, 4, 4, 9, 0, 0, 3)...), 1<<10 - 2},
		{"a ring that is narrow at one arc", 3, needs(0, 1, 2, 5, 1, 2, 0, 1, 2, 0, 1, 3), 0b010},
		{"a ring that is narrow further on", 3, needs(0, 1, 2, 5, 1, 2, 0, 9, 2, 0, 0, 1), 0b110},
		{"a ring that is narrow at the last arc ahead", 3, needs(0, 1, 0, 1, 1, 2, 0, 9, 2, 0, 2, 3), 0b001},
		{"what must come to 1 and 2 can't leave both", 4,
			needs(0, 1, 2, 2, 0, 2, 2, 2, 1, 2, 0, 9, 2, 1, 0, 9, 1, 3, 0, 1, 2, 3, 0, 2, 3, 0, 0, 9), 0b0110},
	}
	for _, c := range cases {
		if e := Check(c.n, c.l); e != api.OK {
			t.Errorf("%s: Check %d", c.name, e)
		}
		if f, e := Round(c.n, c.l); f != nil || e != api.ErrNone {
			t.Errorf("%s: Round %v %d, not ErrNone alone", c.name, f, e)
		}
		if s, e := Fault(c.n, c.l); s != c.want || e != api.OK {
			t.Errorf("%s: Fault %b %d, not %b", c.name, s, e, c.want)
		}
		for set := range uint16(1) << c.n {
			if isFault(c.n, c.l, set) != (set == c.want) {
				t.Errorf("%s: not the one set alone: %b", c.name, set)
			}
		}
	}
}

// P35, by hand: what is just right yet.
func TestCheckLetsPass(t *testing.T) {
	for n := 1; n <= 10; n++ {
		for _, l := range [][]api.Need{nil, {}, ring(n, 0, 0), ring(n, 0, 333), ring(n, 333, 333), alike(30, n-1, 0, 1, 1)} {
			if e := Check(n, l); e != api.OK {
				t.Error(n, l, e)
			}
		}
	}
}

// wantCheck: P35 written out a second time.
func wantCheck(n int, l []api.Need) api.Errno {
	switch {
	case n <= 0 || n >= 11:
		return api.ErrArg
	case len(l) >= 31:
		return api.ErrLarge
	}
	for _, a := range l {
		fromIsThere, toIsThere := 0 <= a.From && a.From < n, 0 <= a.To && a.To < n
		if !(fromIsThere && toIsThere) {
			return api.ErrNode
		}
		if !(0 <= a.Low && a.Low <= a.Cap && a.Cap <= 333) {
			return api.ErrArg
		}
	}
	return api.OK
}

// odd numbers, at the bounds and beyond them.
var odd = []int{math.MinInt, -334, -1, 0, 1, 2, 9, 10, 11, 332, 333, 334, 10000, math.MaxInt}

// P35, of one arc of all odd numbers.
func TestCheckOfOddNumbers(t *testing.T) {
	right := 0
	for _, n := range odd {
		for _, from := range odd {
			for _, to := range odd {
				for _, low := range odd {
					for _, most := range odd {
						l := needs(from, to, low, most)
						if checkCheck(t, n, l) == api.OK {
							right++
						}
					}
				}
			}
		}
	}
	if right < 500 {
		t.Error("too few that are right:", right)
	}
}

// P35, of drawn lists of right and odd arcs.
func TestCheckOfDrawnNumbers(t *testing.T) {
	r := rand.New(rand.NewSource(81))
	told := map[api.Errno]int{}
	for range 20000 {
		n := 1 + r.Intn(10)
		l := drawn(r, n, r.Intn(32), 333)
		for k := range l {
			if r.Intn(30) == 0 {
				*part(&l[k], r.Intn(4)) = odd[r.Intn(len(odd))]
			}
		}
		told[checkCheck(t, n, l)]++
	}
	for _, e := range []api.Errno{api.OK, api.ErrLarge, api.ErrNode, api.ErrArg} {
		if told[e] < 500 {
			t.Error("too few of an error:", e, told)
		}
	}
}

// part of an arc, by its number.
func part(a *api.Need, k int) *int {
	return []*int{&a.From, &a.To, &a.Low, &a.Cap}[k]
}

func checkCheck(t *testing.T, n int, l []api.Need) api.Errno {
	t.Helper()
	want := wantCheck(n, l)
	if e := Check(n, l); e != want {
		t.Fatal("Check:", n, l, e, "not", want)
	}
	return want
}

// isRound tells whether along each arc goes from Low to Cap, and as much comes to each node as goes.
func isRound(n int, l []api.Need, f []int) bool {
	if len(f) != len(l) {
		return false
	}
	for k, a := range l {
		if f[k] < a.Low || f[k] > a.Cap {
			return false
		}
	}
	for v := range n {
		comes, goes := 0, 0
		for k, a := range l {
			if a.To == v {
				comes += f[k]
			}
			if a.From == v {
				goes += f[k]
			}
		}
		if comes != goes {
			return false
		}
	}
	return true
}

// isFault tells whether set is of nodes that are there, and more must come to them than can go from them.
func isFault(n int, l []api.Need, set uint16) bool {
	must, can := 0, 0
	for _, a := range l {
		from, to := set>>a.From%2 == 1, set>>a.To%2 == 1
		if to && !from {
			must += a.Low
		}
		if from && !to {
			can += a.Cap
		}
	}
	return int(set) < 1<<n && must > can
}

// check holds Round and Fault of what is right against P36 and P37; it tells whether there is a round. No list has both
// a round and a fault: what must come to a set must go from it. So what each of the two calls tells shows that the other
// one is right to tell ErrNone.
func check(t *testing.T, n int, l []api.Need) bool {
	t.Helper()
	checkCheck(t, n, l)
	f, e := Round(n, l)
	set, e2 := Fault(n, l)
	if e == api.OK {
		if !isRound(n, l, f) {
			t.Fatal("Round is none:", n, l, f)
		}
		if set != 0 || e2 != api.ErrNone {
			t.Fatal("Fault, and there is a round:", n, l, set, e2)
		}
		return true
	}
	if f != nil || e != api.ErrNone {
		t.Fatal("Round not ErrNone alone:", n, l, f, e)
	}
	if e2 != api.OK || !isFault(n, l, set) {
		t.Fatal("Fault is none:", n, l, set, e2)
	}
	return false
}

// P36, P37, of all lists of few arcs: all that can go along the arcs is tried, and all sets of nodes.
func TestAllOfFewArcs(t *testing.T) {
	for _, size := range []struct{ n, arcs, most int }{{1, 3, 3}, {2, 3, 3}, {3, 3, 2}, {4, 3, 1}, {2, 4, 1}} {
		has, hasNot := checkLonger(t, size.n, nil, size.arcs, size.most)
		if has < 100 || size.n > 1 && hasNot < 100 {
			t.Error("too few with a round, or too few without one:", size, has, hasNot)
		}
	}
}

// checkLonger checks a list and all that have so many more arcs of at most so much; it tells how many have a round, and
// how many have none.
func checkLonger(t *testing.T, n int, l []api.Need, more, most int) (has, hasNot int) {
	t.Helper()
	there := anyRound(n, l, nil)
	if there == anyFault(n, l) {
		t.Fatal("a round and a fault, or neither of them:", n, l)
	}
	if check(t, n, l) != there {
		t.Fatal("Round, and there is none, or none, and there is one:", n, l)
	}
	if there {
		has++
	} else {
		hasNot++
	}
	if more == 0 {
		return has, hasNot
	}
	for ends := range n * n {
		for low := range most + 1 {
			for x := low; x <= most; x++ {
				longer := append(slices.Clone(l), api.Need{From: ends / n, To: ends % n, Low: low, Cap: x})
				h, not := checkLonger(t, n, longer, more-1, most)
				has, hasNot = has+h, hasNot+not
			}
		}
	}
	return has, hasNot
}

// anyRound tells whether there is a round that begins with f.
func anyRound(n int, l []api.Need, f []int) bool {
	if len(f) == len(l) {
		return isRound(n, l, f)
	}
	a := l[len(f)]
	for x := a.Low; x <= a.Cap; x++ {
		if anyRound(n, l, append(slices.Clone(f), x)) {
			return true
		}
	}
	return false
}

func anyFault(n int, l []api.Need) bool {
	for set := range uint16(1) << n {
		if isFault(n, l, set) {
			return true
		}
	}
	return false
}

// drawn: so many arcs between n nodes, of at most so much each.
func drawn(r *rand.Rand, n, many, most int) []api.Need {
	var l []api.Need
	for range many {
		a := api.Need{From: r.Intn(n), To: r.Intn(n), Cap: r.Intn(most + 1)}
		a.Low = r.Intn(a.Cap+1) * r.Intn(2)
		l = append(l, a)
	}
	return l
}

// planted: so many arcs between n nodes along which rounds go, each arc with at most so much less at the least, and so
// much more at the most.
func planted(r *rand.Rand, n, many, most, slack int) []api.Need {
	var l []api.Need
	for len(l) < many {
		amount, first := r.Intn(most+1), r.Intn(n)
		at := first
		for range r.Intn(min(n, many-len(l))) {
			to := r.Intn(n)
			l = append(l, api.Need{From: at, To: to, Low: amount, Cap: amount})
			at = to
		}
		l = append(l, api.Need{From: at, To: first, Low: amount, Cap: amount})
	}
	for k := range l {
		l[k].Low = max(0, l[k].Low-r.Intn(slack+1))
		l[k].Cap = min(333, l[k].Cap+r.Intn(slack+1))
	}
	r.Shuffle(many, func(i, j int) { l[i], l[j] = l[j], l[i] })
	return l
}

// P36, P37, of drawn lists up to the greatest ones, most of which have no round.
func TestDrawn(t *testing.T) {
	r := rand.New(rand.NewSource(82))
	for _, most := range []int{1, 3, 20, 333} {
		has, hasNot := 0, 0
		for range 3000 {
			n := 1 + r.Intn(10)
			if check(t, n, drawn(r, n, r.Intn(31), most)) {
				has++
			} else {
				hasNot++
			}
		}
		if has < 100 || hasNot < 500 {
			t.Error("too few with a round, or too few without one:", most, has, hasNot)
		}
	}
}

// P36, P37, of lists that have a round, and of those that have one no more by a little.
func TestPlanted(t *testing.T) {
	r := rand.New(rand.NewSource(83))
	for _, most := range []int{1, 20, 333} {
		for _, slack := range []int{0, 1, 50} {
			hasNot := 0
			for range 1000 {
				n := 2 + r.Intn(9)
				l := planted(r, n, 1+r.Intn(30), most, slack)
				if !check(t, n, l) {
					t.Fatal("there is a round:", n, l)
				}
				if !check(t, n, tighter(r, l)) {
					hasNot++
				}
			}
			if hasNot < 50 {
				t.Error("too few without a round:", most, slack, hasNot)
			}
		}
	}
}

// tighter: the same list, but at some arcs what they take begins higher, or ends lower.
func tighter(r *rand.Rand, l []api.Need) []api.Need {
	l = slices.Clone(l)
	for range 1 + r.Intn(3) {
		a := &l[r.Intn(len(l))]
		if r.Intn(2) == 0 {
			a.Low += r.Intn(a.Cap - a.Low + 1)
		} else {
			a.Cap -= r.Intn(a.Cap - a.Low + 1)
		}
		if r.Intn(3) == 0 {
			*a = api.Need{From: a.From, To: a.To, Low: min(333, a.Cap+1), Cap: min(333, a.Cap+1)}
		}
	}
	return l
}

// P36, P37: at the greatest sums that there are.
func TestGreatestSums(t *testing.T) {
	r := rand.New(rand.NewSource(84))
	has := 0
	for range 2000 {
		n := 2 + r.Intn(9)
		var l []api.Need
		for range 30 {
			l = append(l, api.Need{From: r.Intn(n), To: r.Intn(n), Low: 333 * r.Intn(2), Cap: 333})
			if r.Intn(3) > 0 {
				l[len(l)-1].To = 0
			}
		}
		if check(t, n, l) {
			has++
		}
	}
	if has < 20 {
		t.Error("too few with a round:", has)
	}
}

// either: a drawn list, or a planted one, of nodes of which it tells how many there are.
func either(r *rand.Rand) (int, []api.Need) {
	n, many := 2+r.Intn(9), r.Intn(31)
	if r.Intn(2) == 0 {
		return n, drawn(r, n, many, 9)
	}
	return n, planted(r, n, many, 9, 4)
}

// P2: the same each time, whatever was asked between.
func TestSameEachTime(t *testing.T) {
	r := rand.New(rand.NewSource(85))
	for range 500 {
		n, l := either(r)
		e := Check(n, l)
		f, e2 := Round(n, l)
		s, e3 := Fault(n, l)
		for range 5 {
			callAll(either(r))
			if again := Check(n, l); again != e {
				t.Fatal("Check:", n, l, e, again)
			}
			if g, again := Round(n, l); !slices.Equal(f, g) || again != e2 {
				t.Fatal("Round:", n, l, f, e2, g, again)
			}
			if s2, again := Fault(n, l); s2 != s || again != e3 {
				t.Fatal("Fault:", n, l, s, e3, s2, again)
			}
		}
	}
}

func callAll(n int, l []api.Need) {
	Check(n, l)
	Round(n, l)
	Fault(n, l)
}

// P1.
func TestNothingPanics(t *testing.T) {
	for _, n := range odd {
		callAll(n, alike(31, n, n, n, n))
		for _, v := range odd {
			for _, w := range odd {
				callAll(n, nil)
				callAll(n, ring(3, v, w))
				callAll(n, needs(v, w, 0, 1))
				callAll(n, needs(0, 1, v, w, 1, 0, w, v))
				callAll(2, needs(0, 1, v, w, 1, 0, n, w))
				callAll(2, needs(0, 1, 2, 3, v, w, n, n))
				callAll(n, alike(30, v&7, w&7, 333, 333))
			}
		}
	}
}

// P2: what is handed in stays as it is, the memory behind a list included.
func TestNothingIsChanged(t *testing.T) {
	r := rand.New(rand.NewSource(86))
	for range 2000 {
		n, l := either(r)
		list := append(slices.Clone(l), needs(7, 7, 7, 7, 8, 8, 8, 8)...)
		before := slices.Clone(list)
		callAll(n, list[:len(l)])
		// And a list that is not right.
		callAll(7, list[:len(l)+1])
		if !slices.Equal(list, before) {
			t.Fatal("changed:", before, list)
		}
	}
}

// P2: an answer shares no memory with a later one, spare memory included.
func TestNothingIsShared(t *testing.T) {
	r := rand.New(rand.NewSource(87))
	for range 1000 {
		n, l := either(r)
		f, _ := Round(n, l)
		want := slices.Clone(f)
		second, _ := Round(n, l)
		callAll(either(r))
		if !slices.Equal(f, want) {
			t.Fatal("an earlier answer has changed:", want, f)
		}
		spoil(f)
		if third, _ := Round(n, l); !slices.Equal(second, want) || !slices.Equal(third, want) {
			t.Fatal("another answer has changed with it:", want, second, third)
		}
	}
}

// spoil writes over a list, spare memory included.
func spoil(l []int) {
	l = l[:cap(l)]
	for i := range l {
		l[i] = -7
	}
}
