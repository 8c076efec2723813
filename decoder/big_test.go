package decoder_test

import (
	"bytes"
	"slices"
	"testing"

	"mortise/api"
	"mortise/decoder"
	"mortise/plain"
)

// fedIn: a machine that is fed in chunks of so many bytes, and saved and loaded, or copied, a few times between.
func fedIn(t *testing.T, p api.Program, n int, b []byte, chunk int) *decoder.Machine {
	t.Helper()
	m := newMachine(t, p, n)
	chunks := (len(b) + chunk - 1) / chunk
	for k := range chunks {
		if f := m.Feed(b[k*chunk : min(len(b), (k+1)*chunk)]); f != ok {
			t.Fatalf("P23.3: Feed of chunk %d: %v", k, f)
		}
		switch k {
		case chunks / 3:
			m = loaded(t, p, m)
		case chunks / 2:
			m = m.Copy()
		}
	}
	return m
}

// bigIs: the value of a great message: whole, byte by byte, in chunks of some hundreds.
func bigIs(t *testing.T, s api.Schema, n int, v []api.Node) {
	t.Helper()
	b, f := plain.Encode(s, n, v)
	if f != ok {
		t.Fatalf("P12.2: Encode = %v", f)
	}
	for _, x := range programs(t, s)[3:] {
		var is told
		for k, chunk := range []int{len(b), 1, 777} {
			m := fedIn(t, x.p, n, b, max(chunk, 1))
			w, f := m.End()
			if f != ok || !slices.Equal(v, w) {
				t.Fatalf("P23.8: in chunks of %d bytes: %v, %s", chunk, f, briefValue(w))
			}
			if k > 0 && toldOf(m) != is {
				t.Fatalf("P23.8: in chunks of %d bytes %+v, whole %+v", chunk, toldOf(m), is)
			}
			is = toldOf(m)
			withinCost(t, x, m, len(b))
		}
		if _, f := decoder.Run(x.p, n, append(b, 0)); f.Err != api.ErrTail && f.Err != api.ErrCount {
			t.Errorf("P23.7: with a byte more: %v", f)
		}
	}
}

// sequence: a value of so many items.
func sequence(many int, item func(k int) []api.Node) []api.Node {
	out := []api.Node{{Kind: api.NodeSeq, Kids: many}}
	for k := range many {
		out = append(out, item(k)...)
	}
	return out
}

func uintNode(n int) []api.Node { return []api.Node{{Kind: api.NodeUint, N: uint64(n)}} }

// P23.3, P23.8: as many items as a list may have, fixed and variable; one more.
func TestMostItems(t *testing.T) {
	const most = 1 << 20
	s := api.Schema{Types: []api.Type{uN(1), {Kind: api.KindList, N: most, Elem: 0}}}
	bigIs(t, s, 1, sequence(most, func(k int) []api.Node { return uintNode(k % 256) }))
	p := lowered(t, s)
	m := newMachine(t, p, 1)
	if f := m.Feed(make([]byte, most+9)); f != fault(api.ErrCount, most) || m.At() != most+1 {
		t.Errorf("P23.3: of one item too many: %v, At %d", f, m.At())
	}

	s = api.Schema{Types: []api.Type{{Kind: api.KindVarint}, {Kind: api.KindList, N: most, Elem: 0}}}
	bigIs(t, s, 1, sequence(most/4, uintNode))
	p = lowered(t, s)
	for _, c := range []struct {
		first string
		f     api.Fault
	}{{"00004000", fault(api.ErrShort, 4)}, {"04004000", fault(api.ErrCount, 0)}, {"01004000", fault(api.ErrOffset, 0)}} {
		if v, f := decoder.Run(p, 1, unhex(c.first)); f != c.f || v != nil {
			t.Errorf("P23.7: first offset %s: %v, want %v", c.first, f, c.f)
		}
	}
	// All offsets and items that there may be.
	full := bytes.Repeat([]byte{0}, 5*most)
	for k := range most {
		o := 4*most + k
		full[4*k], full[4*k+1], full[4*k+2], full[4*k+3] = byte(o), byte(o>>8), byte(o>>16), byte(o>>24)
	}
	if v, f := decoder.Run(p, 1, full); f != ok || len(v) != most+1 {
		t.Errorf("P23.7: of all items %v, %d nodes", f, len(v))
	}
}

// P23.5, P23.12: as deep as types may be: options in lists in structs, and the stack holds as many frames.
func TestDeepest(t *testing.T) {
	s := api.Schema{Types: []api.Type{{Kind: api.KindVarint}}}
	var v []api.Node
	for i := 1; i < api.MaxDepth; i++ {
		x := []api.Type{{Kind: api.KindOption, Elem: i - 1}, {Kind: api.KindList, N: 2, Elem: i - 1}, structure(i - 1), union(i - 1)}[i%4]
		s.Types = append(s.Types, x)
		n := []api.Node{{Kind: api.NodeOption, Kids: 1}, {Kind: api.NodeSeq, Kids: 1}, {Kind: api.NodeStruct, Kids: 1}, {Kind: api.NodeUnion, N: 200, Kids: 1}}[i%4]
		v = append([]api.Node{n}, v...)
	}
	v = append(v, uintNode(300)...)
	n := len(s.Types) - 1
	bigIs(t, s, n, v)
	b, _ := plain.Encode(s, n, v)
	m := newMachine(t, lowered(t, s), n)
	m.Feed(b)
	if m.Depth() != api.MaxDepth {
		t.Errorf("P23.5: Depth %d", m.Depth())
	}
	d := dice(56)
	all(t, &d, lowered(t, s), n, b)
}

// tower: so many types, each of which calls the one ahead.
func tower(deep int) api.Program {
	p := written("bool -; ret | 0")
	for range deep - 1 {
		p.Entry = append(p.Entry, len(p.Code))
		p.Code = append(p.Code, api.Instr{Op: 16, A: -1, C: len(p.Entry) - 2}, api.Instr{Op: 20})
	}
	return p
}

// P23.5, P23.12, P23.13: very many frames, which are saved and loaded, and go again.
func TestManyFrames(t *testing.T) {
	const deep = 100000
	p := tower(deep)
	m := newMachine(t, p, deep-1)
	feedIs(t, m, nil, end{told: told{0, deep - 1, 0, deep}}, "a tower")
	for _, m := range []*decoder.Machine{m, m.Copy(), loaded(t, p, m)} {
		feedIs(t, m, []byte{1}, end{told: told{1, 2 * deep, 1, deep}}, "a tower")
		endIs(t, m, end{value: []api.Node{{Kind: api.NodeBool, N: 1}}, told: told{1, 2 * deep, 1, deep}}, "a tower")
	}
}

// P23.2, P23.3: as many instructions, and as many types, as there may be.
func TestMostCode(t *testing.T) {
	p := api.Program{Code: slices.Repeat([]api.Instr{{Op: 19}}, api.MaxCode), Entry: make([]int, api.MaxCode)}
	for at := range p.Code {
		p.Code[at].B = at + 1
		p.Entry[at] = min(at, api.MaxCode-2)
	}
	p.Code[api.MaxCode-2], p.Code[api.MaxCode-1] = api.Instr{Op: 3, A: -1}, api.Instr{Op: 20}
	m := newMachine(t, p, 0)
	feedIs(t, m, []byte{0}, end{told: told{1, api.MaxCode, 1, 1}}, "the longest way")
	endIs(t, loaded(t, p, m), end{value: []api.Node{{Kind: api.NodeBool}}, told: told{1, api.MaxCode, 1, 1}}, "the longest way")
	p.Code = append(p.Code, api.Instr{Op: 20})
	newIs(t, p, 0)
}
