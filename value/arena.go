package value

import "mortise/api"

// spot: a parent's number, and the number of a kid of it.
type spot struct {
	parent, k int
}

// Arena: nodes that are made in any order.
type Arena struct {
	nodes []api.Node // each one's Kids: up to where its kids are there without a gap
	spots []spot     // of each node; the first one's means nothing
	// Only kids behind a gap stand in the map: it is empty while kids come in order, and a kid of a great number costs no room for those ahead.
	gapped map[spot]struct{}
}

// NewArena: empty.
func NewArena() *Arena { return &Arena{} }

// Add: a node, as a parent's kid number k (the first node has none: parent -1); its number.
func (a *Arena) Add(parent, k int, kind int, n uint64) (int, api.Errno) {
	at := spot{parent, k}
	if b, ok := boundsOf(kind); !ok || n > b.mostN {
		return 0, api.ErrNode
	}
	if e := a.refuse(at); e != api.OK {
		return 0, e
	}
	a.nodes = append(a.nodes, api.Node{Kind: kind, N: n})
	a.spots = append(a.spots, at)
	if len(a.nodes) > 1 {
		a.adopt(at)
	}
	return len(a.nodes) - 1, api.OK
}

// refuse: why no node may be added at a spot.
func (a *Arena) refuse(at spot) api.Errno {
	if len(a.nodes) == 0 {
		if at.parent != -1 {
			return api.ErrPlace
		}
		return api.OK
	}
	if at.parent < 0 || at.parent >= len(a.nodes) || at.k < 0 {
		return api.ErrPlace
	}
	parent := a.nodes[at.parent]
	if b, _ := boundsOf(parent.Kind); at.k >= b.mostKids {
		return api.ErrNode
	}
	if _, there := a.gapped[at]; there || at.k < parent.Kids {
		return api.ErrNode
	}
	return api.OK
}

// adopt counts a kid with its parent, and those that it closes the gap to.
func (a *Arena) adopt(at spot) {
	parent := &a.nodes[at.parent]
	if at.k > parent.Kids {
		if a.gapped == nil {
			a.gapped = map[spot]struct{}{}
		}
		a.gapped[at] = struct{}{}
		return
	}
	parent.Kids++
	for {
		next := spot{at.parent, parent.Kids}
		if _, there := a.gapped[next]; !there {
			return
		}
		delete(a.gapped, next)
		parent.Kids++
	}
}

// Count: how many nodes.
func (a *Arena) Count() int { return len(a.nodes) }

// Value: the whole, if every node has all kids up to its last one.
func (a *Arena) Value() ([]api.Node, api.Errno) {
	if !a.whole() {
		return nil, api.ErrNode
	}
	kids := a.kids()
	v := make([]api.Node, 0, len(a.nodes))
	open := []int{0}
	for len(open) > 0 {
		number := open[len(open)-1]
		open = open[:len(open)-1]
		v = append(v, a.nodes[number])
		for k := a.nodes[number].Kids - 1; k >= 0; k-- {
			open = append(open, kids[number][k])
		}
	}
	return v, api.OK
}

// whole tells whether there is a node, none behind a gap, and none lacks kids.
func (a *Arena) whole() bool {
	for _, n := range a.nodes {
		if !right(n) {
			return false
		}
	}
	return len(a.nodes) > 0 && len(a.gapped) == 0
}

// kids: of each node the numbers of its kids, in order. None of them is behind a gap.
func (a *Arena) kids() [][]int {
	room := make([]int, len(a.nodes)-1)
	kids := make([][]int, len(a.nodes))
	for number, n := range a.nodes {
		kids[number], room = room[:n.Kids], room[n.Kids:]
	}
	for number, at := range a.spots {
		if number > 0 {
			kids[at.parent][at.k] = number
		}
	}
	return kids
}
