package typing

import "mortise/api"

// Some: the value of the type that picks lead to.
func Some(s api.Schema, t int, picks []int) ([]api.Node, api.Errno) {
	if f := checkType(s, t); f.Err != api.OK {
		return nil, f.Err
	}
	var v []api.Node
	pending := []int{t}
	for len(pending) > 0 {
		last := len(pending) - 1
		of := s.Types[pending[last]]
		n := picked(of, pickAt(picks, len(v)))
		// Each type that is still to come has one node at least: too many are seen ahead of being made.
		if len(v)+len(pending)+n.Kids > api.MaxCount {
			return nil, api.ErrMany
		}
		v = append(v, n)
		pending = pushKids(pending[:last], of, n)
	}
	return v, api.OK
}

// pickAt: the pick of the node at a place; 0, if all are taken.
func pickAt(picks []int, at int) uint64 {
	if at >= len(picks) {
		return 0
	}
	return uint64(picks[at])
}

// picked: the node of a type that a pick leads to.
func picked(t api.Type, p uint64) api.Node {
	n := api.Node{Kind: nodeKinds[t.Kind]}
	switch t.Kind {
	case api.KindUint:
		n.N = p & greatest(t)
	case api.KindVarint:
		n.N = p
	case api.KindBool:
		n.N = p % 2
	case api.KindVector:
		n.Kids = t.N
	case api.KindList:
		n.Kids = int(p % uint64(t.N+1))
	case api.KindOption:
		n.Kids = int(p % 2)
	case api.KindUnion:
		n.N, n.Kids = uint64(t.Parts[p%uint64(len(t.Parts))].Tag), 1
	case api.KindStruct:
		n.Kids = len(t.Parts)
	}
	return n
}
