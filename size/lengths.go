package size

import (
	"math/bits"
	"slices"

	"mortise/api"
	"mortise/le"
)

// Length: of a value's encoding, if it is one of the type.
func Length(s api.Schema, t int, v []api.Node) (int, api.Errno) {
	lengths, e := Lengths(s, t, v)
	if e != api.OK {
		return 0, e
	}
	return lengths[0], api.OK
}

// Lengths: of each of its nodes.
func Lengths(s api.Schema, t int, v []api.Node) ([]int, api.Errno) {
	extents, e := Of(s)
	if e != api.OK {
		return nil, e
	}
	if t < 0 || t >= len(s.Types) {
		return nil, api.ErrPlace
	}
	w := walk{types: s.Types, extents: extents, nodes: v}
	if _, ok := w.next(t); !ok || len(w.lengths) < len(v) {
		return nil, api.ErrNode
	}
	return w.lengths, api.OK
}

// walk: goes through a value's nodes in their order. The types hold them: it calls itself no deeper than MaxDepth.
type walk struct {
	types   []api.Type
	extents []api.Extent
	nodes   []api.Node
	lengths []int // one for each node that it has come to
}

// next: the length of the value that comes next; false, if none of that type does.
func (w *walk) next(number int) (int, bool) {
	at := len(w.lengths)
	if at == len(w.nodes) || !fits(w.nodes[at], w.types[number]) {
		return 0, false
	}
	n, t := w.nodes[at], w.types[number]
	w.lengths = append(w.lengths, 0)
	length := ownBytes(n, t)
	for k := range n.Kids {
		kid := kidType(n, t, k)
		kidLength, ok := w.next(kid)
		if !ok {
			return 0, false
		}
		length = le.Plus(length, w.offsetOf(kid, t), kidLength)
	}
	w.lengths[at] = length
	return length, true
}

// offsetOf: the bytes of the offset that a type has as a part of another one.
func (w *walk) offsetOf(kid int, of api.Type) int {
	if of.Kind == api.KindOption || of.Kind == api.KindUnion || w.extents[kid].Fixed {
		return 0
	}
	return offset
}

// fits: is it a right node that fits the type? (Chapters 4 and 11. A type that types.Check has taken has no number above those that a right node may have.)
func fits(n api.Node, t api.Type) bool {
	switch t.Kind {
	case api.KindUint:
		return n.Kind == api.NodeUint && n.Kids == 0 && le.Fits(n.N, t.N)
	case api.KindBool:
		return n.Kind == api.NodeBool && n.Kids == 0 && n.N <= 1
	case api.KindVarint:
		return n.Kind == api.NodeUint && n.Kids == 0
	case api.KindVector:
		return n == api.Node{Kind: api.NodeSeq, Kids: t.N}
	case api.KindList:
		return n.Kind == api.NodeSeq && n.N == 0 && 0 <= n.Kids && n.Kids <= t.N
	case api.KindOption:
		return n.Kind == api.NodeOption && n.N == 0 && (n.Kids == 0 || n.Kids == 1)
	case api.KindUnion:
		return n.Kind == api.NodeUnion && n.Kids == 1 && armOf(t, n.N) >= 0
	case api.KindStruct:
		return n == api.Node{Kind: api.NodeStruct, Kids: len(t.Parts)}
	}
	return false
}

// armOf: the number of a union's arm with that tag, or -1.
func armOf(t api.Type, tag uint64) int {
	return slices.IndexFunc(t.Parts, func(p api.Part) bool { return uint64(p.Tag) == tag })
}

// kidType: the type of the kid number k of a node that fits.
func kidType(n api.Node, t api.Type, k int) int {
	switch t.Kind {
	case api.KindUnion:
		return t.Parts[armOf(t, n.N)].Type
	case api.KindStruct:
		return t.Parts[k].Type
	}
	return t.Elem
}

// ownBytes: how many bytes a node that fits has beside its kids and their offsets.
func ownBytes(n api.Node, t api.Type) int {
	switch t.Kind {
	case api.KindUint:
		return t.N
	case api.KindBool:
		return 1
	case api.KindVarint:
		// 0 has no bits, but a group of its own.
		return max(1, (bits.Len64(n.N)+6)/7)
	case api.KindOption, api.KindUnion:
		return mark
	}
	return 0
}
