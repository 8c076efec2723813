package encoder_test

import (
	"bytes"
	"math"
	"runtime"
	"slices"
	"testing"

	"mortise/api"
	"mortise/encoder"
	"mortise/plain"
)

// bigIs: the bytes and steps of a great value, behind all passes too; and a cap of one byte less.
func bigIs(t *testing.T, s api.Schema, n int, v []api.Node, steps int) {
	t.Helper()
	want, f := plain.Encode(s, n, v)
	if f != ok {
		t.Fatalf("P12.2: Encode = %v", f)
	}
	p := raised(t, s)
	for _, q := range append(passed(t, p)[3:], p) {
		if got, f := encoder.Run(q, n, v, len(want)); f != ok || !bytes.Equal(got, want) {
			t.Fatalf("P24.4: of %d nodes %d bytes, %v, want %d bytes", len(v), len(got), f, len(want))
		}
		if len(want) > 0 {
			runIs(t, q, n, v, len(want)-1, nil, 0, fault(api.ErrLong, 0))
		}
	}
	if got, f := encoder.Steps(p, n, v, len(want)); f != ok || got != steps || got > 12*(len(v)+1) {
		t.Errorf("P24.3: of %d nodes %d steps, %v, want %d", len(v), got, f, steps)
	}
}

// sequence: a value of so many items.
func sequence(many int, item func(k int) []api.Node) []api.Node {
	out := v(s(many))
	for k := range many {
		out = append(out, item(k)...)
	}
	return out
}

func uintNode(n int) []api.Node { return v(u(uint64(n))) }

// P24.2, P24.4, P24.6: as many items as a list may have, fixed and variable; one more than there may be, the last one wrong.
func TestMostItems(t *testing.T) {
	const most = api.MaxCount
	x := api.Schema{Types: []api.Type{uN(1), {Kind: api.KindList, N: most, Elem: 0}}}
	l := sequence(most, func(k int) []api.Node { return uintNode(k % 256) })
	bigIs(t, x, 1, l, 3+2*most+1)
	l[most].N = 256
	runIs(t, raised(t, x), 1, l, 0, nil, 0, fault(api.ErrValue, most))
	x.Types[1].N--
	runIs(t, raised(t, x), 1, l, math.MaxInt, nil, 0, fault(api.ErrItems, 0))

	x = api.Schema{Types: []api.Type{{Kind: api.KindVarint}, {Kind: api.KindList, N: most, Elem: 0}}}
	bigIs(t, x, 1, sequence(most, uintNode), 4+5*most+1)
	x = api.Schema{Types: []api.Type{uN(4), structure(0, 0), {Kind: api.KindVector, N: most, Elem: 1}}}
	bigIs(t, x, 2, sequence(most, func(k int) []api.Node { return v(st(2), u(uint64(k)), u(uint64(k*4000))) }), 1+6*most+1)
}

// P24.4, P24.6: as deep as types may be: options in lists in structs in unions.
func TestDeepest(t *testing.T) {
	x := api.Schema{Types: []api.Type{{Kind: api.KindVarint}}}
	l := uintNode(300)
	steps := 2
	for i := 1; i < api.MaxDepth; i++ {
		x.Types = append(x.Types, []api.Type{{Kind: api.KindOption, Elem: i - 1}, {Kind: api.KindList, N: 2, Elem: i - 1}, structure(i - 1), union(i - 1)}[i%4])
		l = append(v([]api.Node{o(1), s(1), st(1), c(200)}[i%4]), l...)
		steps += []int{3, 8, 5, 3}[i%4]
	}
	n := len(x.Types) - 1
	bigIs(t, x, n, l, steps)
	asModel(t, raised(t, x), n, l)
}

// tower: so many types, each of which does this with the one ahead.
func tower(call api.Instr, deep int) api.Program {
	p := written("flag 0; ret | 0")
	for range deep - 1 {
		call.C = len(p.Entry) - 1
		p.Entry = append(p.Entry, len(p.Code))
		p.Code = append(p.Code, call, api.Instr{Op: 20})
	}
	return p
}

// P24.2, P24.3: very many frames.
func TestManyFrames(t *testing.T) {
	const deep = 1 << 16
	runIs(t, tower(api.Instr{Op: 46}, deep), deep-1, v(b(1)), 1, []byte{1}, 2*deep, ok)
	want := make([]byte, deep)
	want[deep-1] = 1
	p := tower(api.Instr{Op: 44, A: 1}, deep)
	runIs(t, p, deep-1, v(b(1)), deep, want, 2*deep, ok)
	runIs(t, p, deep-1, v(b(1)), deep-1, nil, 0, fault(api.ErrLong, 0))
	runIs(t, p, deep-1, v(u(1)), deep-1, nil, 0, fault(api.ErrKind, 0))
	runIs(t, p, 9, v(b(1)), deep, append(make([]byte, 9), 1), 20, ok)
}

// P24.2, P24.3: as many instructions, and as many types, as there may be.
func TestMostCode(t *testing.T) {
	p := api.Program{Encodes: true, Code: slices.Repeat([]api.Instr{{Op: 19}}, api.MaxCode), Entry: make([]int, api.MaxCode)}
	for at := range p.Code {
		p.Code[at].B = at + 1
		p.Entry[at] = min(at, api.MaxCode-2)
	}
	p.Code[api.MaxCode-2], p.Code[api.MaxCode-1] = api.Instr{Op: 35}, api.Instr{Op: 20}
	runIs(t, p, 0, v(b(1)), 1, []byte{1}, api.MaxCode, ok)
	runIs(t, p, api.MaxCode-1, v(b(1)), 1, []byte{1}, 2, ok)
	runIs(t, p, api.MaxCode, v(b(1)), 1, nil, 0, fault(api.ErrPlace, 0))
	p.Code = append(p.Code, api.Instr{Op: 20})
	runIs(t, p, 0, v(b(1)), 1, nil, 0, fault(api.ErrLong, 0))
}

// roomOf: how much memory a call asks for in all.
func roomOf(call func()) uint64 {
	var ahead, behind runtime.MemStats
	runtime.ReadMemStats(&ahead)
	call()
	runtime.ReadMemStats(&behind)
	return behind.TotalAlloc - ahead.TotalAlloc
}

// P24.2: an output that is longer than most takes no room beyond most, nor one that an error ends: by numbers, rooms, slots far on, kids by turns, frames far on.
func TestNoRoomBeyondMost(t *testing.T) {
	const many = 1 << 12
	far := "leb; ret; fields 1; room 16777216; leb; ret; number 16777208 8; ret; fields 1; slot 16777215; append 0; ret; "
	calls := tower(api.Instr{Op: 44, A: api.MaxSize - 1}, 1<<11)
	for _, x := range []struct {
		p      api.Program
		n      int
		good   []api.Node
		length int
	}{
		{taken(t, far+"| 0 2 6 8"), 1, v(st(1), u(1)), 1<<24 + 1},
		{taken(t, far+"| 0 2 6 8"), 2, v(u(1)), 1 << 24},
		{taken(t, far+"| 0 2 6 8"), 3, v(st(1), u(1)), 1<<24 + 4},
		{taken(t, far+"l: many 4096; x: append 1; again x; ret | 0 2 6 8 l"), 4, sequence(many, func(int) []api.Node { return v(st(1), u(1)) }), many * (1<<24 + 1)},
		{taken(t, far+"l: many 4096; x: append 2; again x; ret | 0 2 6 8 l"), 4, sequence(many, func(int) []api.Node { return v(u(1)) }), many << 24},
		{taken(t, far+"l: many 4096; x: each 16777216 0; again x; ret | 0 2 6 8 l"), 4, sequence(many, func(k int) []api.Node { return v(u(1)) }), many},
		{taken(t, far+"l: many 4096; x: each 16777216 2; again x; ret | 0 2 6 8 l"), 4, sequence(many, func(k int) []api.Node { return v(u(1)) }), many << 24},
		{calls, 1<<11 - 1, v(b(1)), (1<<11-1)*(api.MaxSize-1) + 1},
	} {
		bad := slices.Clone(x.good)
		bad[len(bad)-1] = o(0)
		// What sound.Verify takes is no room of the output.
		own := roomOf(func() { encoder.Run(x.p, x.n, nil, 0) })
		run := func(l []api.Node, most int, f api.Fault) {
			t.Helper()
			if took := roomOf(func() { runIs(t, x.p, x.n, l, most, nil, 0, f) }); took > 3*own+1<<20 {
				t.Errorf("P24.2: %s: of %d bytes and a cap of %d, %v, %d bytes of memory", brief(x.p), x.length, most, f, took)
			}
		}
		for _, most := range []int{0, 1, many, 1 << 20, x.length - 1} {
			if most < x.length {
				run(x.good, most, fault(api.ErrLong, 0))
			}
		}
		for _, most := range []int{0, 1 << 20, x.length, math.MaxInt} {
			run(bad, most, fault(api.ErrKind, len(bad)-1))
		}
	}
}

// P24.2, P24.5: outputs of many millions of bytes that fit.
func TestLongOutputs(t *testing.T) {
	far := taken(t, "number 16777208 8; ret; many 3; x: append 0; again x; ret; many 3; y: each 16777216 0; again y; ret | 0 2 6")
	part := append(make([]byte, 16777208), 1, 2, 3, 4, 5, 6, 7, 8)
	runIs(t, far, 0, v(u(0x0807060504030201)), 1<<24, part, 2, ok)
	three := sequence(3, func(int) []api.Node { return v(u(0x0807060504030201)) })
	for n := 1; n < 3; n++ {
		runIs(t, far, n, three, 3<<24, bytes.Repeat(part, 3), 14, ok)
		runIs(t, far, n, three, math.MaxInt, bytes.Repeat(part, 3), 14, ok)
		runIs(t, far, n, three, 3<<24-1, nil, 0, fault(api.ErrLong, 0))
	}
}
