package value_test

import (
	"math"
	"math/rand"
	"slices"
	"testing"

	"mortise/api"
	"mortise/value"
)

// adding: what is handed to Add, and what it answers.
type adding struct {
	parent, k, kind int
	n               uint64
	number          int
	e               api.Errno
}

func wantAdd(t *testing.T, a *value.Arena, x adding) {
	t.Helper()
	count := a.Count()
	number, e := a.Add(x.parent, x.k, x.kind, x.n)
	if number != x.number || e != x.e {
		t.Errorf("P4.7: Add(%d, %d, %d, %d) = %d, %d, want %d, %d", x.parent, x.k, x.kind, x.n, number, e, x.number, x.e)
	}
	if e == api.OK {
		count++
	}
	if a.Count() != count {
		t.Errorf("P4.8: behind Add(%d, %d, %d, %d) Count is %d, want %d", x.parent, x.k, x.kind, x.n, a.Count(), count)
	}
}

func wantValue(t *testing.T, a *value.Arena, want ...api.Node) {
	t.Helper()
	is, e := a.Value()
	if want == nil && (len(is) != 0 || e != api.ErrNode) {
		t.Errorf("P4.8: Value = %v, %d, want ErrNode", is, e)
	}
	if want != nil && (!slices.Equal(is, want) || e != api.OK) {
		t.Errorf("P4.8: Value = %v, %d, want %v", is, e, want)
	}
}

// made: an arena with a first node.
func made(t *testing.T, kind int, n uint64) *value.Arena {
	t.Helper()
	a := value.NewArena()
	if a == nil {
		t.Fatal("NewArena: nil")
	}
	wantAdd(t, a, adding{-1, 0, kind, n, 0, api.OK})
	return a
}

// P4.7, P4.8: the chapter's example.
func TestArenaExample(t *testing.T) {
	a := value.NewArena()
	wantValue(t, a)
	wantAdd(t, a, adding{0, 0, api.NodeSeq, 0, 0, api.ErrPlace})
	wantAdd(t, a, adding{-1, 9, api.NodeSeq, 1, 0, api.ErrNode})
	wantAdd(t, a, adding{-1, 9, api.NodeSeq, 0, 0, api.OK})
	wantValue(t, a, s(0))
	wantAdd(t, a, adding{0, 1, api.NodeUint, 5, 1, api.OK})
	wantValue(t, a)
	wantAdd(t, a, adding{0, 1, api.NodeUint, 5, 0, api.ErrNode})
	wantAdd(t, a, adding{1, 0, api.NodeUint, 5, 0, api.ErrNode})
	wantAdd(t, a, adding{2, 0, api.NodeUint, 5, 0, api.ErrPlace})
	wantAdd(t, a, adding{0, -1, api.NodeUint, 5, 0, api.ErrPlace})
	wantAdd(t, a, adding{0, 0, api.NodeUnion, 3, 2, api.OK})
	wantValue(t, a)
	wantAdd(t, a, adding{2, 0, api.NodeBool, 1, 3, api.OK})
	wantValue(t, a, s(2), c(3), b(1), u(5))
	if a.Count() != 4 {
		t.Errorf("P4.8: Count = %d, want 4", a.Count())
	}
}

// P4.7: kinds that are none, and each kind's N: of the first node, and of a kid.
func TestAddKinds(t *testing.T) {
	most := map[int]uint64{api.NodeUint: math.MaxUint64, api.NodeBool: 1, api.NodeSeq: 0, api.NodeStruct: 0, api.NodeOption: 0, api.NodeUnion: 255}
	for _, kind := range []int{math.MinInt, -1, 0, 1, 2, 3, 4, 5, 6, 7, 1<<32 + 1, math.MaxInt} {
		for _, n := range []uint64{0, 1, 2, 254, 255, 256, 1 << 32, 1 << 63, math.MaxUint64} {
			e, number := api.ErrNode, 0
			if greatest, ok := most[kind]; ok && n <= greatest {
				e, number = api.OK, 1
			}
			wantAdd(t, value.NewArena(), adding{-1, 0, kind, n, 0, e})
			wantAdd(t, made(t, api.NodeSeq, 0), adding{0, 0, kind, n, number, e})
		}
	}
}

// P4.7: of the first node k is not looked at, its parent is -1.
func TestAddFirst(t *testing.T) {
	for _, k := range []int{math.MinInt, -1, 0, 1, api.MaxCount, math.MaxInt} {
		for _, parent := range []int{math.MinInt, -2, 0, 1, math.MaxInt} {
			a := value.NewArena()
			wantAdd(t, a, adding{parent, k, api.NodeUint, 7, 0, api.ErrPlace})
			wantValue(t, a)
			wantAdd(t, a, adding{-1, k, api.NodeUint, 7, 0, api.OK})
			wantValue(t, a, u(7))
			wantAdd(t, a, adding{parent, k, api.NodeUint, 256, 0, firstRefused(parent, k)})
			wantAdd(t, a, adding{-1, k, api.NodeUint, 7, 0, api.ErrPlace})
			wantValue(t, a, u(7))
		}
	}
}

// firstRefused: why a lone NodeUint gets no kid.
func firstRefused(parent, k int) api.Errno {
	if parent != 0 || k < 0 {
		return api.ErrPlace
	}
	return api.ErrNode
}

// P4.7: which kids a kind has; k below 0 ahead of that.
func TestAddKids(t *testing.T) {
	for kind, most := range map[int]int{api.NodeUint: 0, api.NodeBool: 0, api.NodeSeq: 1 << 20, api.NodeStruct: 64, api.NodeOption: 1, api.NodeUnion: 1} {
		for _, k := range []int{0, 1, 2, 63, 64, 65, 255, 256, 1<<20 - 1, 1 << 20, 1<<20 + 1, 1 << 32, math.MaxInt} {
			a := made(t, kind, 0)
			x := adding{0, k, api.NodeUint, 5, 0, api.ErrNode}
			if k < most {
				x.number, x.e = 1, api.OK
			}
			wantAdd(t, a, x)
		}
		for _, k := range []int{math.MinInt, -1 << 32, -1} {
			wantAdd(t, made(t, kind, 0), adding{0, k, api.NodeUint, 5, 0, api.ErrPlace})
		}
	}
}

// P4.7: the order of the errors.
func TestAddOrder(t *testing.T) {
	a := value.NewArena()
	wantAdd(t, a, adding{5, -1, 0, 0, 0, api.ErrNode})
	wantAdd(t, a, adding{5, -1, api.NodeBool, 2, 0, api.ErrNode})
	wantAdd(t, a, adding{5, -1, api.NodeBool, 1, 0, api.ErrPlace})
	wantAdd(t, a, adding{-1, -1, api.NodeStruct, 0, 0, api.OK})
	wantAdd(t, a, adding{0, 0, api.NodeUint, 4, 1, api.OK})
	for _, parent := range []int{math.MinInt, -2, -1, 2, 3, math.MaxInt} {
		for _, k := range []int{-1, 0, 64} {
			wantAdd(t, a, adding{parent, k, 9, 0, 0, api.ErrNode})
			wantAdd(t, a, adding{parent, k, api.NodeUnion, 256, 0, api.ErrNode})
			wantAdd(t, a, adding{parent, k, api.NodeUnion, 255, 0, api.ErrPlace})
		}
	}
	for _, parent := range []int{0, 1} {
		wantAdd(t, a, adding{parent, -1, api.NodeOption, 1, 0, api.ErrNode})
		wantAdd(t, a, adding{parent, -1, api.NodeOption, 0, 0, api.ErrPlace})
		wantAdd(t, a, adding{parent, 64, api.NodeOption, 0, 0, api.ErrNode})
		wantAdd(t, a, adding{parent, 0, api.NodeOption, 0, 0, api.ErrNode})
	}
	wantValue(t, a, st(1), u(4))
}

// P4.7, P4.8: a kid that is there already is refused, whether kids of lower numbers are missing or not; what is there stays.
func TestAddTwice(t *testing.T) {
	a := made(t, api.NodeSeq, 0)
	there := map[int]bool{}
	for number, k := range []int{2, 5, 0, 3, 1, 4, 7, 6, 8} {
		wantAdd(t, a, adding{0, k, api.NodeUint, uint64(k), number + 1, api.OK})
		there[k] = true
		for again := range there {
			wantAdd(t, a, adding{0, again, api.NodeUint, 99, 0, api.ErrNode})
		}
	}
	wantValue(t, a, s(9), u(0), u(1), u(2), u(3), u(4), u(5), u(6), u(7), u(8))
}

// P4.8: when there is a value.
func TestArenaMissing(t *testing.T) {
	for kind, first := range map[int][]api.Node{api.NodeUint: {u(0)}, api.NodeBool: {b(0)}, api.NodeSeq: {s(0)}, api.NodeOption: {o(0)}, api.NodeStruct: nil, api.NodeUnion: nil} {
		wantValue(t, made(t, kind, 0), first...)
		a := made(t, api.NodeSeq, 0)
		wantAdd(t, a, adding{0, 0, kind, 0, 1, api.OK})
		if first == nil {
			wantValue(t, a)
			wantAdd(t, a, adding{1, 0, api.NodeUint, 8, 2, api.OK})
			wantValue(t, a, s(1), api.Node{Kind: kind, Kids: 1}, u(8))
			continue
		}
		wantValue(t, a, append(list(s(1)), first...)...)
	}
	for k := range 5 {
		a := made(t, api.NodeStruct, 0)
		number := 1
		for kid := 4; kid >= 0; kid-- {
			if kid != k {
				wantAdd(t, a, adding{0, kid, api.NodeUint, uint64(kid), number, api.OK})
				number++
			}
		}
		if k == 4 {
			wantValue(t, a, st(4), u(0), u(1), u(2), u(3))
			continue
		}
		wantValue(t, a)
		wantAdd(t, a, adding{0, k, api.NodeUint, uint64(k), number, api.OK})
		wantValue(t, a, st(5), u(0), u(1), u(2), u(3), u(4))
	}
}

// P4.8: a gap anywhere in the tree, of a node that isn't the first.
func TestArenaGapInside(t *testing.T) {
	a := made(t, api.NodeStruct, 0)
	wantAdd(t, a, adding{0, 0, api.NodeSeq, 0, 1, api.OK})
	wantAdd(t, a, adding{0, 1, api.NodeSeq, 0, 2, api.OK})
	wantAdd(t, a, adding{1, 1, api.NodeUint, 11, 3, api.OK})
	wantAdd(t, a, adding{2, 0, api.NodeUint, 20, 4, api.OK})
	wantValue(t, a)
	wantAdd(t, a, adding{2, 1, api.NodeUint, 21, 5, api.OK})
	wantValue(t, a)
	wantAdd(t, a, adding{1, 0, api.NodeUint, 10, 6, api.OK})
	wantValue(t, a, st(2), s(2), u(10), u(11), s(2), u(20), u(21))
}

// model: an arena as plain as can be.
type model struct {
	nodes []api.Node
	kids  []map[int]int
}

func (m *model) add(x adding) (int, api.Errno) {
	node := api.Node{Kind: x.kind, N: x.n}
	if x.kind == api.NodeStruct || x.kind == api.NodeUnion {
		node.Kids = 1
	}
	if !isRight(node) {
		return 0, api.ErrNode
	}
	if len(m.nodes) == 0 && x.parent != -1 || len(m.nodes) > 0 && (x.parent < 0 || x.parent >= len(m.nodes) || x.k < 0) {
		return 0, api.ErrPlace
	}
	if len(m.nodes) > 0 {
		around := m.nodes[x.parent]
		around.Kids = x.k + 1
		if _, there := m.kids[x.parent][x.k]; there || !isRight(around) {
			return 0, api.ErrNode
		}
		m.kids[x.parent][x.k] = len(m.nodes)
	}
	m.nodes = append(m.nodes, api.Node{Kind: x.kind, N: x.n})
	m.kids = append(m.kids, map[int]int{})
	return len(m.nodes) - 1, api.OK
}

func (m *model) value(number int) []api.Node {
	v := list(m.nodes[number])
	v[0].Kids = len(m.kids[number])
	for k := range v[0].Kids {
		kid, there := m.kids[number][k]
		if !there {
			return nil
		}
		v = append(v, m.value(kid)...)
	}
	return v
}

func (m *model) whole() ([]api.Node, api.Errno) {
	if len(m.nodes) == 0 {
		return nil, api.ErrNode
	}
	if v := m.value(0); valueEnd(v, 0) == len(v) {
		return v, api.OK
	}
	return nil, api.ErrNode
}

// P4.7, P4.8: random calls, right and wrong ones, held against the plain model; two arenas by turns, which know nothing of one another.
func TestArenaModel(t *testing.T) {
	random := rand.New(rand.NewSource(8))
	values := 0
	for range 40000 {
		arenas, models := [2]*value.Arena{value.NewArena(), value.NewArena()}, [2]*model{{}, {}}
		for range 24 {
			i := random.Intn(2)
			x := adding{parent: random.Intn(len(models[i].nodes)+2) - 1, k: random.Intn(5) - 1, kind: random.Intn(8), n: uint64(random.Intn(2))}
			if random.Intn(4) > 0 {
				x.kind, x.n = []int{1, 3, 3, 4, 5, 6}[random.Intn(6)], 0
			}
			x.number, x.e = models[i].add(x)
			wantAdd(t, arenas[i], x)
			want, wantErr := models[i].whole()
			is, e := arenas[i].Value()
			if !slices.Equal(is, want) || e != wantErr || arenas[i].Count() != len(models[i].nodes) {
				t.Fatalf("P4.8: Value = %v, %d, want %v, %d", is, e, want, wantErr)
			}
			if e == api.OK && len(is) > 3 {
				values++
			}
		}
	}
	if values < 1000 {
		t.Errorf("only %d answers were values of some size", values)
	}
}

// spots: of each node of a value its parent's place and which kid of it it is; the root's are -1 and 0.
func spots(v []api.Node) [][2]int {
	all := make([][2]int, len(v))
	all[0] = [2]int{-1, 0}
	var open [][2]int // a node's place, and which of its kids comes next
	for at, n := range v {
		for at > 0 && open[len(open)-1][1] == v[open[len(open)-1][0]].Kids {
			open = open[:len(open)-1]
		}
		if at > 0 {
			all[at] = open[len(open)-1]
			open[len(open)-1][1]++
		}
		if n.Kids > 0 {
			open = append(open, [2]int{at, 0})
		}
	}
	return all
}

// gathered: an arena to which a value's nodes were added in an order of their places.
func gathered(t *testing.T, v []api.Node, order []int) *value.Arena {
	t.Helper()
	a, spots, numbers := value.NewArena(), spots(v), make([]int, len(v))
	for count, at := range order {
		parent := -1
		if at > 0 {
			parent = numbers[spots[at][0]]
		}
		number, e := a.Add(parent, spots[at][1], v[at].Kind, v[at].N)
		if number != count || e != api.OK {
			t.Fatalf("P4.7: of %d nodes number %d, of the place %d: Add = %d, %d", len(v), count, at, number, e)
		}
		numbers[at] = number
	}
	return a
}

// eachOrder calls do with every order of a value's places in which a node stands behind its parent.
func eachOrder(v []api.Node, do func(order []int)) {
	spots := spots(v)
	var grow func(order []int)
	grow = func(order []int) {
		if len(order) == len(v) {
			do(order)
			return
		}
		for at := range v {
			if !slices.Contains(order, at) && (at == 0 || slices.Contains(order, spots[at][0])) {
				grow(append(slices.Clip(order), at))
			}
		}
	}
	grow(nil)
}

// P4.11: values of some nodes, their nodes added in every order; behind all but the last there is another value or none.
func TestAnyOrder(t *testing.T) {
	orders := 0
	for _, v := range append(smallValues(4), chapter(), list(s(5), u(1), u(2), u(3), u(4), u(5)), list(st(3), s(2), u(1), u(2), c(3), b(1), o(0))) {
		eachOrder(v, func(order []int) {
			orders++
			if is, e := gathered(t, v, order).Value(); !slices.Equal(is, v) || e != api.OK {
				t.Fatalf("P4.11: the nodes of %v, added in the order %d, give %v, %d", v, order, is, e)
			}
		})
	}
	if orders < 1000 {
		t.Errorf("only %d orders", orders)
	}
}

// randomValue: of about as many nodes as said.
func randomValue(random *rand.Rand, nodes int) []api.Node {
	var v []api.Node
	missing := 1
	for missing > 0 {
		n := []api.Node{u(uint64(len(v))), b(1), s(random.Intn(9)), st(1 + random.Intn(5)), o(random.Intn(2)), c(uint64(random.Intn(256)))}[random.Intn(6)]
		if len(v)+missing > nodes {
			n = u(uint64(len(v)))
		} else if missing == 1 {
			n = s(1 + random.Intn(9))
		}
		v = append(v, n)
		missing += n.Kids - 1
	}
	return v
}

// randomOrder: of a value's places, each behind its parent's.
func randomOrder(random *rand.Rand, v []api.Node) []int {
	kids := make([][]int, len(v))
	for at, spot := range spots(v) {
		if at > 0 {
			kids[spot[0]] = append(kids[spot[0]], at)
		}
	}
	var order []int
	ready := []int{0}
	for len(ready) > 0 {
		i, last := random.Intn(len(ready)), len(ready)-1
		at := ready[i]
		ready[i] = ready[last]
		ready = append(ready[:last], kids[at]...)
		order = append(order, at)
	}
	return order
}

// P4.9, P4.10, P4.11: values of many nodes, in random orders.
func TestAnyOrderOfMany(t *testing.T) {
	random := rand.New(rand.NewSource(11))
	for range 300 {
		v := randomValue(random, 200)
		if is, e := gathered(t, v, randomOrder(random, v)).Value(); !slices.Equal(is, v) || e != api.OK {
			t.Fatalf("P4.11: %v, gathered, gives %v, %d", v, is, e)
		}
		text, _ := value.Print(v)
		if is, f := value.Parse(text); !slices.Equal(is, v) || f != fault(api.OK, 0) {
			t.Fatalf("P4.9: %v, printed and parsed, gives %v, %v", v, is, f)
		}
		for range 5 {
			at := random.Intn(len(v))
			path, _ := value.Path(v, at)
			wantWay(t, v, at, path)
		}
	}
	v := randomValue(random, 300000)
	if is, e := gathered(t, v, randomOrder(random, v)).Value(); len(v) < 100000 || !slices.Equal(is, v) || e != api.OK {
		t.Errorf("P4.11: a value of %d nodes gives %d, error %d", len(v), len(is), e)
	}
}

// P4.7, P4.8, P4.11: MaxCount kids, from the last one on, from the first one on, and mixed.
func TestArenaWide(t *testing.T) {
	want := list(s(1 << 20))
	for k := range 1 << 20 {
		want = append(want, u(uint64(k)))
	}
	for name, turn := range map[string]func(k int) int{
		"forward": func(k int) int { return k },
		"back":    func(k int) int { return 1<<20 - 1 - k },
		"mixed":   func(k int) int { return k * 12345 & (1<<20 - 1) },
		"odd":     func(k int) int { return k ^ 1 },
	} {
		a := made(t, api.NodeSeq, 0)
		for i := range 1 << 20 {
			k := turn(i)
			if number, e := a.Add(0, k, api.NodeUint, uint64(k)); number != i+1 || e != api.OK {
				t.Fatalf("P4.7: %s: Add of kid %d = %d, %d", name, k, number, e)
			}
		}
		wantAdd(t, a, adding{0, 1 << 20, api.NodeUint, 0, 0, api.ErrNode})
		wantAdd(t, a, adding{0, 1<<20 - 1, api.NodeUint, 0, 0, api.ErrNode})
		if is, e := a.Value(); !slices.Equal(is, want) || e != api.OK {
			t.Errorf("P4.11: %s: MaxCount kids give %d nodes, error %d", name, len(is), e)
		}
	}
}

// P4.1: many lists of which only the last kid is there take no room for those ahead of it.
func TestArenaSparse(t *testing.T) {
	a := made(t, api.NodeSeq, 0)
	for i := range 1 << 16 {
		number, e := a.Add(0, 1<<20-1-i, api.NodeSeq, 0)
		if e != api.OK {
			t.Fatalf("P4.7: list number %d: error %d", i, e)
		}
		if _, e := a.Add(number, 1<<20-1, api.NodeUint, 1); e != api.OK {
			t.Fatalf("P4.7: the last kid of list number %d: error %d", i, e)
		}
	}
	wantValue(t, a)
}

// P4.1, P4.11: as deep as promised.
func TestArenaDeep(t *testing.T) {
	want := nested(1<<16, o(1), u(3))
	order := make([]int, len(want))
	for i := range order {
		order[i] = i
	}
	if is, e := gathered(t, want, order).Value(); !slices.Equal(is, want) || e != api.OK {
		t.Errorf("P4.11: a deep value gives %d nodes, error %d", len(is), e)
	}
}

// P4.1: what Value hands out is new memory, its spare room too; Value changes nothing, and the arena goes on behind it.
func TestValueIsNew(t *testing.T) {
	a := made(t, api.NodeSeq, 0)
	for k := range 5 {
		want := append(list(s(k)), many(k, u(6))...)
		first, _ := a.Value()
		second, _ := a.Value()
		for i := range first[:cap(first)] {
			first[:cap(first)][i] = api.Node{Kind: 99, N: 99, Kids: 99}
		}
		if !slices.Equal(second, want) {
			t.Errorf("P4.1: what is written into one value is seen in another: %v", second)
		}
		wantValue(t, a, want...)
		wantAdd(t, a, adding{0, k, api.NodeUint, 6, k + 1, api.OK})
		if !slices.Equal(second, want) {
			t.Errorf("P4.1: Add has changed a value that was answered: %v", second)
		}
	}
}

// P4.1: arenas know nothing of one another.
func TestArenasApart(t *testing.T) {
	x, y, z := made(t, api.NodeSeq, 0), made(t, api.NodeStruct, 0), value.NewArena()
	wantAdd(t, x, adding{0, 1, api.NodeUint, 1, 1, api.OK})
	wantAdd(t, y, adding{0, 0, api.NodeUint, 2, 1, api.OK})
	wantValue(t, x)
	wantValue(t, y, st(1), u(2))
	wantValue(t, z)
	wantAdd(t, y, adding{0, 1, api.NodeUint, 3, 2, api.OK})
	wantAdd(t, x, adding{0, 0, api.NodeUint, 4, 2, api.OK})
	wantAdd(t, z, adding{0, 0, api.NodeUint, 4, 0, api.ErrPlace})
	wantValue(t, x, s(2), u(4), u(1))
	wantValue(t, y, st(2), u(2), u(3))
	wantValue(t, z)
}
