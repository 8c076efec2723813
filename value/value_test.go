package value_test

import (
	"math"
	"slices"
	"testing"

	"mortise/api"
	"mortise/value"
)

func u(n uint64) api.Node                 { return api.Node{Kind: api.NodeUint, N: n} }
func b(n uint64) api.Node                 { return api.Node{Kind: api.NodeBool, N: n} }
func s(kids int) api.Node                 { return api.Node{Kind: api.NodeSeq, Kids: kids} }
func st(kids int) api.Node                { return api.Node{Kind: api.NodeStruct, Kids: kids} }
func o(kids int) api.Node                 { return api.Node{Kind: api.NodeOption, Kids: kids} }
func c(n uint64) api.Node                 { return api.Node{Kind: api.NodeUnion, N: n, Kids: 1} }
func list(l ...api.Node) []api.Node       { return l }
func fault(e api.Errno, at int) api.Fault { return api.Fault{Err: e, At: at} }

// chapter is the value of the chapter's examples.
func chapter() []api.Node { return list(s(3), st(2), u(1), o(0), u(2), o(1), u(3)) }

// many: as many of one node.
func many(count int, n api.Node) []api.Node { return slices.Repeat([]api.Node{n}, count) }

// nested: nodes of one kid each around a last one.
func nested(count int, around, last api.Node) []api.Node {
	return append(many(count, around), last)
}

// isRight: the chapter's words, kind by kind.
func isRight(n api.Node) bool {
	switch {
	case n.Kind == api.NodeUint:
		return n.Kids == 0
	case n.Kind == api.NodeBool:
		return (n.N == 0 || n.N == 1) && n.Kids == 0
	case n.Kind == api.NodeSeq:
		return n.N == 0 && 0 <= n.Kids && n.Kids <= 1048576
	case n.Kind == api.NodeStruct:
		return n.N == 0 && 1 <= n.Kids && n.Kids <= 64
	case n.Kind == api.NodeOption:
		return n.N == 0 && (n.Kids == 0 || n.Kids == 1)
	case n.Kind == api.NodeUnion:
		return n.N <= 255 && n.Kids == 1
	}
	return false
}

// valueEnd: where the value that begins at a place ends, by recursion; below 0: there is none.
func valueEnd(v []api.Node, at int) int {
	if at >= len(v) || !isRight(v[at]) {
		return -1
	}
	end := at + 1
	for range v[at].Kids {
		if end = valueEnd(v, end); end < 0 {
			return -1
		}
	}
	return end
}

// firstFault: Check's answer by the words of P4.2.
func firstFault(v []api.Node) api.Fault {
	end := valueEnd(v, 0)
	if end == len(v) {
		return api.Fault{}
	}
	for at, n := range v {
		if !isRight(n) || end >= 0 && at >= end {
			return fault(api.ErrNode, at)
		}
	}
	return fault(api.ErrNode, len(v))
}

// eachList calls do with all lists of up to most nodes out of a stock.
func eachList(stock []api.Node, most int, do func(v []api.Node)) {
	var grow func(v []api.Node)
	grow = func(v []api.Node) {
		do(v)
		if len(v) == most {
			return
		}
		for _, n := range stock {
			grow(append(slices.Clip(v), n))
		}
	}
	grow(nil)
}

// stock: nodes at the edges of their kinds, right and wrong ones.
func stock() []api.Node {
	return []api.Node{
		u(7), {Kind: api.NodeUint, Kids: 1}, b(1), b(2), {Kind: api.NodeBool, Kids: 1},
		s(0), s(1), s(2), s(-1), {Kind: api.NodeSeq, N: 1},
		st(0), st(1), st(2), {Kind: api.NodeStruct, N: 1, Kids: 1},
		o(0), o(1), o(2), {Kind: api.NodeOption, N: 1},
		c(5), c(256), {Kind: api.NodeUnion, N: 5}, {}, {Kind: 7},
	}
}

// smallValues: all values of up to most nodes out of right ones.
func smallValues(most int) [][]api.Node {
	var all [][]api.Node
	eachList([]api.Node{u(0), u(10), b(0), b(1), s(0), s(1), s(2), s(3), st(1), st(2), o(0), o(1), c(0), c(255)}, most, func(v []api.Node) {
		if valueEnd(v, 0) == len(v) && len(v) > 0 {
			all = append(all, slices.Clone(v))
		}
	})
	return all
}

// P4.2: the chapter's examples.
func TestCheckExamples(t *testing.T) {
	for i, x := range []struct {
		v    []api.Node
		want api.Fault
	}{
		{nil, fault(api.ErrNode, 0)},
		{[]api.Node{}, fault(api.ErrNode, 0)},
		{list(u(7)), fault(api.OK, 0)},
		{list(u(7), u(7)), fault(api.ErrNode, 1)},
		{list(s(2), u(7)), fault(api.ErrNode, 2)},
		{list(s(2), u(7), b(2)), fault(api.ErrNode, 2)},
		{list(api.Node{Kind: api.NodeUint, N: 7, Kids: 1}, u(7)), fault(api.ErrNode, 0)},
		{list(st(0)), fault(api.ErrNode, 0)},
		{list(c(256), u(7)), fault(api.ErrNode, 0)},
		{list(o(2), u(7), u(7)), fault(api.ErrNode, 0)},
		{chapter(), fault(api.OK, 0)},
		{chapter()[:6], fault(api.ErrNode, 6)},
		{append(chapter(), u(1)), fault(api.ErrNode, 7)},
		{append(chapter(), api.Node{}), fault(api.ErrNode, 7)},
	} {
		if is := value.Check(x.v); is != x.want {
			t.Errorf("P4.2: Check number %d of %v = %v, want %v", i, x.v, is, x.want)
		}
	}
}

// P4.2: every kind, and kinds that are none, with N and Kids at each bound and one beyond it. The kids that a right node asks for are there.
func TestCheckBounds(t *testing.T) {
	kinds := []int{math.MinInt, -1, 0, api.NodeUint, api.NodeBool, api.NodeSeq, api.NodeStruct, api.NodeOption, api.NodeUnion, api.NodeUnion + 1, 1 << 32, 1<<32 + 1, math.MaxInt}
	ns := []uint64{0, 1, 2, 255, 256, 1 << 32, 1<<63 + 1, math.MaxUint64}
	kids := []int{math.MinInt, -1, 0, 1, 2, 63, 64, 65, 1<<20 - 1, 1 << 20, 1<<20 + 1, 1 << 32, math.MaxInt}
	under := many(1<<20+1, u(9))
	for _, kind := range kinds {
		for _, n := range ns {
			for _, k := range kids {
				node := api.Node{Kind: kind, N: n, Kids: k}
				if isRight(node) {
					if is := value.Check(append(list(node), under[:k]...)); is != fault(api.OK, 0) {
						t.Errorf("P4.2: Check of %+v and its kids = %v", node, is)
					}
					continue
				}
				if is := value.Check(append(list(node), under[:min(max(k, 0), 66)]...)); is != fault(api.ErrNode, 0) {
					t.Errorf("P4.2: Check of %+v, which is not right, and its kids = %v", node, is)
				}
				if is := value.Check(list(s(2), u(1), node)); is != fault(api.ErrNode, 2) {
					t.Errorf("P4.2: Check of a list that ends with %+v, which is not right, = %v", node, is)
				}
			}
		}
	}
	if is := value.Check(append(list(s(1<<20)), under[:1<<20-1]...)); is != fault(api.ErrNode, 1<<20) {
		t.Errorf("P4.2: the last kid of MaxCount is missing: %v", is)
	}
	if is := value.Check(append(list(s(1<<20)), under...)); is != fault(api.ErrNode, 1<<20+1) {
		t.Errorf("P4.2: one behind MaxCount kids: %v", is)
	}
}

// P4.2: all lists of up to three nodes, held against the chapter's words by recursion.
func TestCheckAll(t *testing.T) {
	values := 0
	eachList(stock(), 3, func(v []api.Node) {
		want := firstFault(v)
		if want.Err == api.OK {
			values++
		}
		if is := value.Check(v); is != want {
			t.Fatalf("P4.2: Check of %v = %v, want %v", v, is, want)
		}
	})
	if values < 100 {
		t.Fatalf("only %d of the lists are values", values)
	}
}

// P4.3: the chapter's examples.
func TestPlacesExamples(t *testing.T) {
	v := chapter()
	for at, want := range []int{7, 4, 3, 4, 5, 7, 7} {
		if is, e := value.Next(v, at); is != want || e != api.OK {
			t.Errorf("P4.3: Next(v, %d) = %d, %d, want %d", at, is, e, want)
		}
	}
	for _, x := range [][3]int{{0, 0, 1}, {0, 1, 4}, {0, 2, 5}, {1, 0, 2}, {1, 1, 3}, {5, 0, 6}} {
		if is, e := value.Kid(v, x[0], x[1]); is != x[2] || e != api.OK {
			t.Errorf("P4.3: Kid(v, %d, %d) = %d, %d, want %d", x[0], x[1], is, e, x[2])
		}
	}
	for at, want := range [][]int{{}, {0}, {0, 0}, {0, 1}, {1}, {2}, {2, 0}} {
		if is, e := value.Path(v, at); !slices.Equal(is, want) || e != api.OK {
			t.Errorf("P4.3: Path(v, %d) = %d, %d, want %d", at, is, e, want)
		}
	}
}

// wantNoPlace: all three calls answer the error at a place, and zero values.
func wantNoPlace(t *testing.T, v []api.Node, at int, want api.Errno) {
	t.Helper()
	if is, e := value.Next(v, at); is != 0 || e != want {
		t.Errorf("P4.3: Next(%v, %d) = %d, %d, want error %d", v, at, is, e, want)
	}
	for _, k := range []int{math.MinInt, -1, 0, 1, math.MaxInt} {
		if is, e := value.Kid(v, at, k); is != 0 || e != want {
			t.Errorf("P4.3: Kid(%v, %d, %d) = %d, %d, want error %d", v, at, k, is, e, want)
		}
	}
	if is, e := value.Path(v, at); len(is) != 0 || e != want {
		t.Errorf("P4.3: Path(%v, %d) = %d, %d, want error %d", v, at, is, e, want)
	}
}

// P4.3: places that are none; and Check's error ahead of them, at good places too.
func TestPlacesWrong(t *testing.T) {
	for _, at := range []int{math.MinInt, -1, 7, 8, 1 << 32, math.MaxInt} {
		wantNoPlace(t, chapter(), at, api.ErrPlace)
	}
	wantNoPlace(t, list(u(7)), 1, api.ErrPlace)
	wrong := [][]api.Node{nil, {}, list(s(1)), list(u(7), u(7)), list(s(2), u(1), b(2)), list(o(2), u(1), u(1)), chapter()[:6], append(chapter(), u(0))}
	for _, v := range wrong {
		for at := -1; at <= len(v)+1; at++ {
			wantNoPlace(t, v, at, api.ErrNode)
		}
	}
	for _, x := range [][2]int{{0, math.MinInt}, {0, -1}, {0, 3}, {0, math.MaxInt}, {1, -1}, {1, 2}, {2, 0}, {2, -1}, {3, 0}, {4, 0}, {5, 1}, {6, 0}} {
		if is, e := value.Kid(chapter(), x[0], x[1]); is != 0 || e != api.ErrPlace {
			t.Errorf("P4.3: Kid(v, %d, %d) = %d, %d, want ErrPlace", x[0], x[1], is, e)
		}
	}
	for _, leaf := range [][]api.Node{list(u(3)), list(b(1)), list(s(0)), list(o(0))} {
		if is, e := value.Kid(leaf, 0, 0); is != 0 || e != api.ErrPlace {
			t.Errorf("P4.3: Kid(%v, 0, 0) = %d, %d, want ErrPlace", leaf, is, e)
		}
	}
}

// paths: of each place the numbers of the kids that lead there, by recursion.
func paths(v []api.Node) [][]int {
	all := make([][]int, len(v))
	var walk func(at int, path []int) int
	walk = func(at int, path []int) int {
		all[at] = path
		end := at + 1
		for k := range v[at].Kids {
			end = walk(end, append(slices.Clip(path), k))
		}
		return end
	}
	walk(0, nil)
	return all
}

// P4.3, P4.10: all places of all small values.
func TestPlacesAll(t *testing.T) {
	for _, v := range append(smallValues(5), chapter()) {
		want := paths(v)
		for at := range v {
			wantPlace(t, v, at, want[at])
		}
		wantNoPlace(t, v, -1, api.ErrPlace)
		wantNoPlace(t, v, len(v), api.ErrPlace)
		if t.Failed() {
			t.FailNow()
		}
	}
}

func wantPlace(t *testing.T, v []api.Node, at int, path []int) {
	t.Helper()
	if is, e := value.Next(v, at); is != valueEnd(v, at) || e != api.OK {
		t.Errorf("P4.3: Next(%v, %d) = %d, %d", v, at, is, e)
	}
	want := at + 1
	for k := range v[at].Kids {
		if is, e := value.Kid(v, at, k); is != want || e != api.OK {
			t.Errorf("P4.3: Kid(%v, %d, %d) = %d, %d, want %d", v, at, k, is, e, want)
		}
		want = valueEnd(v, want)
	}
	for _, k := range []int{-1, v[at].Kids} {
		if is, e := value.Kid(v, at, k); is != 0 || e != api.ErrPlace {
			t.Errorf("P4.3: Kid(%v, %d, %d) = %d, %d, want ErrPlace", v, at, k, is, e)
		}
	}
	is, e := value.Path(v, at)
	if !slices.Equal(is, path) || e != api.OK {
		t.Errorf("P4.3: Path(%v, %d) = %d, %d, want %d", v, at, is, e, path)
	}
	wantWay(t, v, at, is)
}

// wantWay: P4.10.
func wantWay(t *testing.T, v []api.Node, at int, path []int) {
	t.Helper()
	place := 0
	for _, k := range path {
		place, _ = value.Kid(v, place, k)
	}
	if place != at {
		t.Errorf("P4.10: of %v the way %d leads to %d, want %d", v, path, place, at)
	}
	if v[at].Kids == 0 {
		return
	}
	last, _ := value.Kid(v, at, v[at].Kids-1)
	behindLast, _ := value.Next(v, last)
	behindNode, _ := value.Next(v, at)
	if behindLast != behindNode {
		t.Errorf("P4.10: of %v Next of the last kid of %d is %d, of the node %d", v, at, behindLast, behindNode)
	}
}

// P4.1, P4.3: as deep and as wide as promised.
func TestPlacesFar(t *testing.T) {
	deep := nested(1<<16, o(1), u(1))
	path, e := value.Path(deep, 1<<16)
	if !slices.Equal(path, make([]int, 1<<16)) || e != api.OK {
		t.Errorf("P4.3: Path of the deepest node has %d numbers, error %d", len(path), e)
	}
	if is, e := value.Next(deep, 5); is != len(deep) || e != api.OK {
		t.Errorf("P4.3: Next in a deep value = %d, %d", is, e)
	}
	wide := append(list(s(1<<20)), many(1<<20, b(1))...)
	if is, e := value.Kid(wide, 0, 1<<20-1); is != 1<<20 || e != api.OK {
		t.Errorf("P4.3: the last of MaxCount kids = %d, %d", is, e)
	}
	if is, e := value.Kid(wide, 0, 1<<20); is != 0 || e != api.ErrPlace {
		t.Errorf("P4.3: the kid behind MaxCount = %d, %d", is, e)
	}
	if is, e := value.Path(wide, 1<<20); !slices.Equal(is, []int{1<<20 - 1}) || e != api.OK {
		t.Errorf("P4.3: Path of the last of MaxCount kids = %d, %d", is, e)
	}
}

// P4.4: lists of nodes, values or not.
func TestEqual(t *testing.T) {
	if !value.Equal(nil, nil) || !value.Equal(nil, []api.Node{}) || !value.Equal([]api.Node{}, nil) {
		t.Errorf("P4.4: no nodes are not Equal to none")
	}
	lists := [][]api.Node{nil, chapter(), chapter()[:6], append(chapter(), u(1)), list(api.Node{Kind: -3, N: 9, Kids: -2}), list(api.Node{Kind: -3, N: 8, Kids: -2}), list(api.Node{Kind: -2, N: 9, Kids: -2}), list(api.Node{Kind: -3, N: 9, Kids: -1})}
	for _, n := range stock() {
		lists = append(lists, list(n), list(n, u(1)), list(u(1), n))
	}
	for _, x := range lists {
		for _, y := range lists {
			if is := value.Equal(slices.Clone(x), slices.Clone(y)); is != sameNodes(x, y) {
				t.Errorf("P4.4: Equal(%v, %v) = %v", x, y, is)
			}
		}
	}
	long := many(1000, u(4))
	for at := range long {
		other := slices.Clone(long)
		other[at].N++
		if value.Equal(long, other) || value.Equal(other, long) {
			t.Errorf("P4.4: lists that differ at %d are Equal", at)
		}
	}
}

func sameNodes(x, y []api.Node) bool {
	if len(x) != len(y) {
		return false
	}
	for i := range x {
		if x[i].Kind != y[i].Kind || x[i].N != y[i].N || x[i].Kids != y[i].Kids {
			return false
		}
	}
	return true
}

// P4.1: what is handed in is not changed, nor the room behind it, by calls that answer an error and by others.
func TestNodesStay(t *testing.T) {
	for _, v := range [][]api.Node{chapter(), chapter()[:6], list(u(1), u(2)), list(b(2)), nested(300, s(1), u(1)), many(3, s(1))} {
		room := append(slices.Clone(v), many(9, api.Node{Kind: 3, N: 77, Kids: 5})...)
		held := slices.Clone(room)
		in := room[:len(v)]
		value.Check(in)
		for at := -1; at <= len(v); at++ {
			value.Next(in, at)
			value.Kid(in, at, 0)
			value.Path(in, at)
		}
		value.Equal(in, in)
		value.Equal(in, chapter())
		value.Print(in)
		if !slices.Equal(room, held) {
			t.Errorf("P4.1: a call has changed the nodes %v, or the room behind them", v)
		}
	}
}

// P4.1: what Path hands out is new memory, its spare room too.
func TestPathIsNew(t *testing.T) {
	v := chapter()
	first, _ := value.Path(v, 6)
	second, _ := value.Path(v, 3)
	for i := range first[:cap(first)] {
		first[:cap(first)][i] = 99
	}
	third, _ := value.Path(v, 6)
	if !slices.Equal(second, []int{0, 1}) || !slices.Equal(third, []int{2, 0}) || !slices.Equal(v, chapter()) {
		t.Errorf("P4.1: what is written into a path is seen: %d, %d, %v", second, third, v)
	}
}
