// Package graph: nodes and arcs: see doc/01-graph.md.
package graph

import "weirmaster/api"

// Check: P3.
func Check(g api.Graph) api.Errno {
	return checkCaps(g, 0)
}

// CheckLong: P3.
func CheckLong(g api.Graph) api.Errno {
	return checkCaps(g, -api.MaxCap)
}

// CheckNet: P4.
func CheckNet(n api.Net) api.Errno {
	if e := Check(api.Graph{N: n.N, Arcs: n.Arcs}); e != api.OK {
		return e
	}
	if !isNode(n.N, n.S) || !isNode(n.N, n.T) {
		return api.ErrNode
	}
	if n.S == n.T {
		return api.ErrForm
	}
	return api.OK
}

// Turn: P5.
func Turn(g api.Graph) (api.Graph, api.Errno) {
	if e := CheckLong(g); e != api.OK {
		return api.Graph{}, e
	}
	arcs := make([]api.Arc, len(g.Arcs))
	for i, a := range g.Arcs {
		arcs[i] = api.Arc{From: a.To, To: a.From, Cap: a.Cap}
	}
	return api.Graph{N: g.N, Arcs: arcs}, api.OK
}

// Degrees: P5.
func Degrees(g api.Graph) ([]int, []int, api.Errno) {
	if e := CheckLong(g); e != api.OK {
		return nil, nil, e
	}
	out := make([]int, g.N)
	in := make([]int, g.N)
	for _, a := range g.Arcs {
		out[a.From]++
		in[a.To]++
	}
	return out, in, api.OK
}

// Without: P5.
func Without(g api.Graph, k int) (api.Graph, api.Errno) {
	if e := CheckLong(g); e != api.OK {
		return api.Graph{}, e
	}
	if k < 0 || k >= len(g.Arcs) {
		return api.Graph{}, api.ErrNone
	}
	// Appending to g.Arcs[:k] would write into the caller's memory.
	arcs := make([]api.Arc, len(g.Arcs)-1)
	copy(arcs, g.Arcs[:k])
	copy(arcs[k:], g.Arcs[k+1:])
	return api.Graph{N: g.N, Arcs: arcs}, api.OK
}

func checkCaps(g api.Graph, least int) api.Errno {
	if g.N < 1 || g.N > api.MaxN {
		return api.ErrArg
	}
	if len(g.Arcs) > api.MaxArcs {
		return api.ErrLarge
	}
	for _, a := range g.Arcs {
		if e := checkArc(g.N, a, least); e != api.OK {
			return e
		}
	}
	return api.OK
}

func checkArc(n int, a api.Arc, least int) api.Errno {
	if !isNode(n, a.From) || !isNode(n, a.To) {
		return api.ErrNode
	}
	if a.Cap < least || a.Cap > api.MaxCap {
		return api.ErrArg
	}
	return api.OK
}

func isNode(n, v int) bool {
	return v >= 0 && v < n
}
