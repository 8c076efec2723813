package encoder_test

import (
	"math"
	"slices"
	"strconv"
	"testing"

	"mortise/api"
	"mortise/decoder"
	"mortise/encoder"
	"mortise/fuse"
	"mortise/lower"
	"mortise/plain"
	"mortise/prune"
	"mortise/typing"
	"mortise/value"
)

func uN(bytes int) api.Type { return api.Type{Kind: api.KindUint, N: bytes} }

// structure: a struct of fields f0, f1, .. of these types.
func structure(of ...int) api.Type {
	out := api.Type{Kind: api.KindStruct}
	for i, t := range of {
		out.Parts = append(out.Parts, api.Part{Label: "f" + strconv.Itoa(i), Type: t})
	}
	return out
}

// union: of arms 200, 199, .. of these types.
func union(of ...int) api.Type {
	out := api.Type{Kind: api.KindUnion}
	for i, t := range of {
		out.Parts = append(out.Parts, api.Part{Tag: 200 - i, Type: t})
	}
	return out
}

// schema: of n types that looks like chance; vectors and lists have at most so many items.
func (d *dice) schema(n, most int) api.Schema {
	var s api.Schema
	for i := range n {
		s.Types = append(s.Types, d.kind(i, most))
	}
	return s
}

// kind: a type that may have the number i.
func (d *dice) kind(i, most int) api.Type {
	kind := d.oneOf(api.KindUint, api.KindBool, api.KindVarint, api.KindVector, api.KindList, api.KindList, api.KindOption, api.KindUnion, api.KindStruct, api.KindStruct)
	if i == 0 {
		kind = 1 + d.below(3)
	}
	pick := func() int { return max(0, i-1-d.below(min(i, 6))) }
	switch kind {
	case api.KindUint:
		return uN(1 << d.below(4))
	case api.KindBool, api.KindVarint:
		return api.Type{Kind: kind}
	case api.KindVector, api.KindList:
		return api.Type{Kind: kind, N: 1 + d.below(most), Elem: pick()}
	case api.KindOption:
		return api.Type{Kind: kind, Elem: pick()}
	}
	var of []int
	for range 1 + d.below(5) {
		of = append(of, pick())
	}
	if kind == api.KindUnion {
		return union(of...)
	}
	return structure(of...)
}

// value: one of a type that looks like chance; nil, if it would have more than room nodes.
func (d *dice) value(s api.Schema, i, room int) []api.Node {
	t := s.Types[i]
	n := api.Node{Kind: []int{0, api.NodeUint, api.NodeBool, api.NodeUint, api.NodeSeq, api.NodeSeq, api.NodeOption, api.NodeUnion, api.NodeStruct}[t.Kind]}
	of := []int{t.Elem}
	switch t.Kind {
	case api.KindUint:
		n.N = d.bits() >> (64 - 8*t.N)
	case api.KindVarint:
		n.N = d.bits() >> d.below(64)
	case api.KindBool:
		n.N = uint64(d.below(2))
	case api.KindVector:
		n.Kids = t.N
	case api.KindList:
		n.Kids = d.below(t.N + 1)
	case api.KindOption:
		n.Kids = d.below(2)
	case api.KindUnion:
		arm := t.Parts[d.below(len(t.Parts))]
		n.N, n.Kids, of = uint64(arm.Tag), 1, []int{arm.Type}
	case api.KindStruct:
		n.Kids, of = len(t.Parts), nil
		for _, part := range t.Parts {
			of = append(of, part.Type)
		}
	}
	out := []api.Node{n}
	for k := range n.Kids {
		if len(out) >= room {
			return nil
		}
		kid := d.value(s, of[k%len(of)], room-len(out))
		if kid == nil {
			return nil
		}
		out = append(out, kid...)
	}
	return out
}

// node: one that is right, most often; its kids are at most three.
func (d *dice) node() api.Node {
	switch d.below(13) {
	case 0, 1:
		return b(uint64(d.below(2)))
	case 2:
		return s(d.below(4))
	case 3:
		return st(1 + d.below(3))
	case 4:
		return o(d.below(2))
	case 5:
		return c(uint64(d.oneOf(200, 199, 198, 0, 255)))
	case 6:
		return api.Node{Kind: d.below(9) - 1, N: uint64(d.below(3)), Kids: d.below(3) - 1}
	}
	return u(d.bits() >> d.oneOf(0, 1, 32, 48, 56, 57, 63))
}

// tree: a value that looks like chance.
func (d *dice) tree(deep int) []api.Node {
	n := d.node()
	for value.Check(v(n)) != ok && value.Check(v(n)) != fault(api.ErrNode, 1) || deep == 0 && n.Kids > 0 {
		n = d.node()
	}
	out := v(n)
	for range n.Kids {
		out = append(out, d.tree(deep-1)...)
	}
	return out
}

// others: nodes that come of a value's by a change at a place: one set otherwise, taken out, put in, with its kids or without; the rest cut off.
func (d *dice) others(l []api.Node, at int) [][]api.Node {
	end, _ := value.Next(l, at)
	set := func(n api.Node) []api.Node { return slices.Concat(l[:at], v(n), l[at+1:]) }
	more, less, set1 := l[at], l[at], l[at]
	more.N++
	less.N--
	set1.N = d.bits() >> d.below(64)
	out := [][]api.Node{set(more), set(less), set(set1), set(d.node()), l[:at], slices.Concat(l[:at], l[at+1:]), slices.Concat(l[:at], v(d.node()), l[at:]), slices.Concat(l[:at], l[end:])}
	for range 2 {
		out = append(out, slices.Concat(l[:at], d.tree(2), l[end:]))
	}
	// A kid more, or less, in all the nodes that it lies in.
	more, less = l[at], l[at]
	more.Kids++
	less.Kids--
	out = append(out, slices.Concat(l[:at], v(more), l[at+1:end], d.tree(1), l[end:]))
	if last := l[at].Kids - 1; last >= 0 {
		kid, _ := value.Kid(l, at, last)
		out = append(out, slices.Concat(l[:at], v(less), l[at+1:kid], l[end:]))
	}
	return out
}

// ran: what one of several programs that are to do the same makes of nodes.
type ran struct {
	bytes string
	fault api.Fault
}

func runOf(p api.Program, n int, v []api.Node, most int) ran {
	b, f := encoder.Run(p, n, v, most)
	return ran{string(b), f}
}

// raisedIs holds raise's code of a schema against the relation itself, at some nodes: about the output's length, or under a cap that the dice say; the answer with the greatest cap.
func raisedIs(t *testing.T, d *dice, s api.Schema, p api.Program, n int, v []api.Node) api.Fault {
	t.Helper()
	what := brief(p) + ": " + briefValue(v)
	want, f := plain.Encode(s, n, v)
	if g := typing.Check(s, n, v); g != f {
		t.Fatalf("P12.2: Encode: %v, Check %v: %s", f, g, what)
	}
	caps := []int{d.below(len(want) + 3), math.MaxInt}
	if f == ok {
		caps = append(caps, len(want), max(len(want)-1, 0))
	}
	for _, most := range caps {
		is := ran{string(want), f}
		if f == ok && most < len(want) {
			is = ran{fault: fault(api.ErrLong, 0)}
		}
		if got := runOf(p, n, v, most); got != is {
			t.Fatalf("P24.4: type %d, at most %d: %s, %v, want %s, %v: %s", n, most, briefBytes([]byte(got.bytes)), got.fault, briefBytes([]byte(is.bytes)), is.fault, what)
		}
		steps, g := encoder.Steps(p, n, v, most)
		if g != is.fault || (steps == 0) != (g != ok) {
			t.Fatalf("P24.3: at most %d: Steps %d, %v, Run %v: %s", most, steps, g, is.fault, what)
		}
		if steps > 12*(len(v)+1) {
			t.Fatalf("P24.6: %d steps of %d nodes: %s", steps, len(v), what)
		}
	}
	return f
}

// readBack: what Run answers, run over lower's code, is the value.
func readBack(t *testing.T, s api.Schema, p api.Program, n int, v []api.Node) {
	t.Helper()
	q, e := lower.Decoder(s)
	if e != api.OK {
		t.Fatalf("P16.1: Decoder = %d", e)
	}
	b, _ := encoder.Run(p, n, v, math.MaxInt)
	if w, f := decoder.Run(q, n, b); f != ok || !slices.Equal(v, w) {
		t.Fatalf("P24.4, P2: %s is encoded as %s, and decoded as %s, %v: %s", briefValue(v), briefBytes(b), briefValue(w), f, brief(p))
	}
}

// passed: the program behind each pass.
func passed(t *testing.T, p api.Program) (out []api.Program) {
	t.Helper()
	for _, pass := range []func(p api.Program) (api.Program, api.Fault){fuse.Fuse, fuse.Split, prune.Prune, prune.Optimise} {
		q, f := pass(p)
		if f != ok {
			t.Fatalf("a pass over %s: %v", brief(p), f)
		}
		out = append(out, q)
	}
	return out
}

// passesAre: behind each pass the same bytes, or the same error; no more steps, but where a run was split.
func passesAre(t *testing.T, p api.Program, all []api.Program, n int, v []api.Node) {
	t.Helper()
	is := runOf(p, n, v, math.MaxInt)
	steps, _ := encoder.Steps(p, n, v, math.MaxInt)
	for k, q := range all {
		if got := runOf(q, n, v, math.MaxInt); got != is {
			t.Fatalf("P20.6: behind pass %d %s, %v, ahead of it %s, %v: %s: %s", k, briefBytes([]byte(got.bytes)), got.fault, briefBytes([]byte(is.bytes)), is.fault, briefValue(v), brief(p))
		}
		if less, _ := encoder.Steps(q, n, v, math.MaxInt); less > steps && k != 1 {
			t.Fatalf("P20.6: behind pass %d %d steps, ahead of it %d: %s: %s", k, less, steps, briefValue(v), brief(p))
		}
	}
}

// count: how often each error was answered.
type count map[api.Errno]int

// enough: every error that nodes can give is among the answers, often.
func (c count) enough(t *testing.T, least int) {
	t.Helper()
	for _, e := range []api.Errno{api.OK, api.ErrNode, api.ErrKind, api.ErrValue, api.ErrItems, api.ErrArm} {
		if c[e] < least {
			t.Errorf("error %d was answered only %d times: %v", e, c[e], c)
		}
	}
}

// P24.4, P24.6, P20.6: over raise's code of schemas by chance, at values of the type and at what comes of them by a change of one node.
func TestAroundValues(t *testing.T) {
	d := dice(81)
	seen := count{}
	asked := 0
	for n := range 500 {
		s := d.schema(1+n%20, 3)
		i := len(s.Types) - 1
		l := d.value(s, i, 60)
		if l == nil {
			continue
		}
		asked++
		p := raised(t, s)
		all := passed(t, p)
		if f := raisedIs(t, &d, s, p, i, l); f != ok {
			t.Fatalf("P24.4: %s is refused: %v", briefValue(l), f)
		}
		readBack(t, s, p, i, l)
		asModel(t, p, i, l)
		passesAre(t, p, all, i, l)
		for range min(len(l), 10) {
			at := d.below(len(l))
			for _, w := range d.others(l, at) {
				f := raisedIs(t, &d, s, p, i, w)
				seen[f.Err]++
				if f == ok {
					readBack(t, s, p, i, w)
				}
				if f.Err != api.ErrNode && d.below(4) == 0 {
					asModel(t, p, i, w)
					passesAre(t, p, all, i, w)
				}
			}
		}
	}
	if asked < 300 {
		t.Errorf("only %d values were asked for", asked)
	}
	seen.enough(t, 150)
}

// P24.4, P24.6: over raise's code of schemas by chance, of every type: values of other types, values and nodes by chance.
func TestChanceNodes(t *testing.T) {
	d := dice(82)
	seen := count{}
	for n := range 400 {
		s := d.schema(1+n%15, 3)
		p := raised(t, s)
		var nearly []api.Node
		for range d.below(9) {
			nearly = append(nearly, d.node())
		}
		for i := range s.Types {
			lists := [][]api.Node{d.tree(2), d.tree(4), nearly}
			for _, j := range []int{i, d.below(len(s.Types)), d.below(len(s.Types))} {
				if l := d.value(s, j, 60); l != nil {
					lists = append(lists, l)
				}
			}
			for _, l := range lists {
				seen[raisedIs(t, &d, s, p, i, l).Err]++
			}
		}
	}
	seen.enough(t, 20)
}

// P24.4: types whose values may be long: against typing.Some, which makes them of any picks.
func TestSome(t *testing.T) {
	d := dice(83)
	done := 0
	for _, of := range []string{"list<varint,300>", "list<u8,300>", "vector<list<u16,9>,20>", "list<struct{a:u8,b:list<bool,9>,c:varint},40>", "list<union{0:varint,1:struct{x:u32,y:u64},255:option<u8>},70>", "struct{a:vector<struct{a:u8,b:bool},7>,b:varint,c:vector<varint,7>,d:u64}"} {
		schema, n := built(t, of)
		p := raised(t, schema)
		all := passed(t, p)
		for range 20 {
			picks := make([]int, 600)
			for k := range picks {
				picks[k] = int(d.bits() >> d.below(64))
			}
			l, e := typing.Some(schema, n, picks)
			if e != api.OK {
				continue
			}
			done++
			raisedIs(t, &d, schema, p, n, l)
			readBack(t, schema, p, n, l)
			passesAre(t, p, all, n, l)
			asModel(t, p, n, l)
		}
	}
	if done < 100 {
		t.Errorf("only %d values were made", done)
	}
}

// P24.5: every cap up to an output's length, and some above it; and of other faults every cap.
func TestEveryCap(t *testing.T) {
	d := dice(84)
	long, faults := 0, 0
	for n := range 250 {
		s := d.schema(2+n%18, 3)
		i := len(s.Types) - 1
		l := d.value(s, i, 40)
		if l == nil {
			continue
		}
		p := raised(t, s)
		for _, w := range [][]api.Node{l, d.others(l, d.below(len(l)))[d.below(4)]} {
			x := runOf(p, i, w, math.MaxInt)
			steps, _ := encoder.Steps(p, i, w, math.MaxInt)
			for most := range len(x.bytes) + 40 {
				switch {
				case x.fault != ok:
					faults++
					runIs(t, p, i, w, most, nil, 0, x.fault)
				case most < len(x.bytes):
					long++
					runIs(t, p, i, w, most, nil, 0, fault(api.ErrLong, 0))
				default:
					runIs(t, p, i, w, most, []byte(x.bytes), steps, ok)
				}
			}
		}
	}
	if long < 4000 || faults < 2000 {
		t.Errorf("only %d times too long, %d times another fault", long, faults)
	}
}
