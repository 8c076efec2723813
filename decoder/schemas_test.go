package decoder_test

import (
	"slices"
	"strconv"
	"testing"

	"mortise/api"
	"mortise/cost"
	"mortise/decoder"
	"mortise/fuse"
	"mortise/plain"
	"mortise/prune"
)

func uN(bytes int) api.Type { return api.Type{Kind: api.KindUint, N: bytes} }

// structure: a struct of fields f0, f1, .. of these types.
func structure(of ...int) api.Type {
	out := api.Type{Kind: api.KindStruct}
	for i, t := range of {
		out.Parts = append(out.Parts, api.Part{Label: "f" + strconv.Itoa(i), Type: t})
	}
	return out
}

// union: of arms 200, 199, .. of these types.
func union(of ...int) api.Type {
	out := api.Type{Kind: api.KindUnion}
	for i, t := range of {
		out.Parts = append(out.Parts, api.Part{Tag: 200 - i, Type: t})
	}
	return out
}

// schema: of n types that looks like chance; vectors and lists have at most so many items.
func (d *dice) schema(n, most int) api.Schema {
	var s api.Schema
	for i := range n {
		s.Types = append(s.Types, d.kind(i, most))
	}
	return s
}

// kind: a type that may have the number i.
func (d *dice) kind(i, most int) api.Type {
	kind := d.oneOf(api.KindUint, api.KindBool, api.KindVarint, api.KindVector, api.KindList, api.KindList, api.KindOption, api.KindUnion, api.KindStruct, api.KindStruct)
	if i == 0 {
		kind = 1 + d.below(3)
	}
	pick := func() int { return max(0, i-1-d.below(min(i, 6))) }
	switch kind {
	case api.KindUint:
		return uN(1 << d.below(4))
	case api.KindBool, api.KindVarint:
		return api.Type{Kind: kind}
	case api.KindVector, api.KindList:
		return api.Type{Kind: kind, N: 1 + d.below(most), Elem: pick()}
	case api.KindOption:
		return api.Type{Kind: kind, Elem: pick()}
	}
	var of []int
	for range 1 + d.below(5) {
		of = append(of, pick())
	}
	if kind == api.KindUnion {
		return union(of...)
	}
	return structure(of...)
}

// value: one of a type that looks like chance; nil, if it would have more than room nodes.
func (d *dice) value(s api.Schema, i, room int) []api.Node {
	t := s.Types[i]
	n := api.Node{Kind: []int{0, api.NodeUint, api.NodeBool, api.NodeUint, api.NodeSeq, api.NodeSeq, api.NodeOption, api.NodeUnion, api.NodeStruct}[t.Kind]}
	of := []int{t.Elem}
	switch t.Kind {
	case api.KindUint:
		n.N = d.bits() >> (64 - 8*t.N)
	case api.KindVarint:
		n.N = d.bits() >> d.below(64)
	case api.KindBool:
		n.N = uint64(d.below(2))
	case api.KindVector:
		n.Kids = t.N
	case api.KindList:
		n.Kids = d.below(t.N + 1)
	case api.KindOption:
		n.Kids = d.below(2)
	case api.KindUnion:
		arm := t.Parts[d.below(len(t.Parts))]
		n.N, n.Kids, of = uint64(arm.Tag), 1, []int{arm.Type}
	case api.KindStruct:
		n.Kids, of = len(t.Parts), nil
		for _, part := range t.Parts {
			of = append(of, part.Type)
		}
	}
	out := []api.Node{n}
	for k := range n.Kids {
		if len(out) >= room {
			return nil
		}
		kid := d.value(s, of[k%len(of)], room-len(out))
		if kid == nil {
			return nil
		}
		out = append(out, kid...)
	}
	return out
}

func (d *dice) bits() uint64 {
	return uint64(d.below(1<<30))<<40 ^ uint64(d.below(1<<30))<<20 ^ uint64(d.below(1<<30))
}

// priced: a program, and what it costs.
type priced struct {
	p api.Program
	c api.Cost
}

func price(t *testing.T, p api.Program) priced {
	t.Helper()
	c, f := cost.Of(p)
	if f != ok {
		t.Fatalf("P21.1: Of(%s): %v", brief(p), f)
	}
	return priced{p, c}
}

// programs: the decoder's code of a schema: as lower makes it, fused, split, and after all passes.
func programs(t *testing.T, s api.Schema) []priced {
	t.Helper()
	p := lowered(t, s)
	out := []priced{price(t, p)}
	for _, pass := range []func(p api.Program) (api.Program, api.Fault){fuse.Fuse, fuse.Split, prune.Optimise} {
		q, f := pass(p)
		if f != ok {
			t.Fatalf("a pass over %s: %v", brief(p), f)
		}
		out = append(out, price(t, q))
	}
	return out
}

// asPlain: Run answers what plain.Decode does, Feed what plain.Prefix does, at all of the bytes; what Feed has rejected stays so; within the cost.
func asPlain(t *testing.T, d *dice, s api.Schema, x priced, n int, b []byte) api.Fault {
	t.Helper()
	p := x.p
	want, wantFault := plain.Decode(s, n, b)
	v, f := decoder.Run(p, n, b)
	if f != wantFault || !slices.Equal(v, want) {
		t.Fatalf("P23.9: Run(%s, %d, %s) = %s, %v; Decode = %s, %v", brief(p), n, briefBytes(b), briefValue(v), f, briefValue(want), wantFault)
	}
	m := newMachine(t, p, n)
	front := plain.Prefix(s, n, b)
	if g := m.Feed(b); g != front {
		t.Fatalf("P23.9: Feed(%s) = %v, Prefix = %v: %s", briefBytes(b), g, front, brief(p))
	}
	if front != ok {
		staysRejected(t, d, s, n, b[:m.At()], m.At())
	}
	withinCost(t, x, m, len(b))
	m.End()
	withinCost(t, x, m, len(b))
	return wantFault
}

// staysRejected: whatever comes behind what Feed has looked at, when it answered an error.
func staysRejected(t *testing.T, d *dice, s api.Schema, n int, b []byte, at int) {
	t.Helper()
	for k := range 4 {
		longer := slices.Concat(b, d.bytes(k*d.below(9)))
		if v, f := plain.Decode(s, n, longer); f == ok {
			t.Fatalf("P23.10: Feed has answered an error of %s, At %d, but %s is %s", briefBytes(b), at, briefBytes(longer), briefValue(v))
		}
	}
}

// withinCost: of so many bytes.
func withinCost(t *testing.T, x priced, m *decoder.Machine, bytes int) {
	t.Helper()
	if is := toldOf(m); is.steps > x.c.Steps*(bytes+1) || is.nodes > x.c.Nodes*(bytes+1) || is.depth > x.c.Depth {
		t.Fatalf("P23.12, P21.4: %s: of %d bytes %+v, but it costs %+v", brief(x.p), bytes, is, x.c)
	}
}

// spoilt: bytes that come of others by a change at a place: cut off there, a byte set otherwise, left out, put in.
func spoilt(b []byte, at int) [][]byte {
	out := [][]byte{b[:at], slices.Concat(b[:at], []byte{0}, b[at:]), slices.Concat(b[:at], []byte{1}, b[at:])}
	if at == len(b) {
		return append(out, slices.Concat(b, []byte{0xff}), slices.Concat(b, []byte{1, 2, 3, 4, 5}))
	}
	out = append(out, slices.Concat(b[:at], b[at+1:]))
	for _, c := range []byte{0, 1, 2, 4, 0x7f, 0x80, 0xff, b[at] + 1, b[at] - 1, b[at] + 4, b[at] - 4} {
		if c != b[at] {
			out = append(out, slices.Concat(b[:at], []byte{c}, b[at+1:]))
		}
	}
	return out
}

// count: how often each error was answered.
type count map[api.Errno]int

// enough: every error that bytes can give is among the answers, often.
func (c count) enough(t *testing.T, least int) {
	t.Helper()
	for _, e := range []api.Errno{api.OK, api.ErrShort, api.ErrForm, api.ErrBool, api.ErrCount, api.ErrOffset, api.ErrTag, api.ErrTail} {
		if c[e] < least {
			t.Errorf("error %d was answered only %d times: %v", e, c[e], c)
		}
	}
}

// P23.9, P23.10, P23.12, P16.5, P20.6: over code of schemas by chance, at bytes that encode a value, cut at every place, spoilt at every place.
func TestAroundValues(t *testing.T) {
	d := dice(61)
	seen := count{}
	asked := 0
	for n := range 500 {
		s := d.schema(1+n%20, 3)
		i := len(s.Types) - 1
		v := d.value(s, i, 40)
		if v == nil {
			continue
		}
		asked++
		b, f := plain.Encode(s, i, v)
		if f != ok {
			t.Fatalf("P12.2: Encode(%+v, %d, %s) = %v", s, i, briefValue(v), f)
		}
		all := programs(t, s)
		for _, x := range all {
			if f := asPlain(t, &d, s, x, i, b); f != ok {
				t.Fatalf("P23.9: %+v: %s encodes %s, but %v", s, briefBytes(b), briefValue(v), f)
			}
		}
		for at := range min(len(b), 40) + 1 {
			others := spoilt(b, at)
			for k := range 3 {
				if k > 0 {
					k = d.below(len(others))
				}
				seen[asPlain(t, &d, s, all[d.below(len(all))], i, others[k]).Err]++
			}
		}
	}
	if asked < 300 {
		t.Errorf("only %d values were asked for", asked)
	}
	seen.enough(t, 100)
}

// P23.9, P23.10, P23.12: bytes by chance.
func TestChanceBytes(t *testing.T) {
	d := dice(62)
	seen := count{}
	for n := range 400 {
		s := d.schema(1+n%15, 3)
		all := programs(t, s)
		for i := range s.Types {
			seen[asPlain(t, &d, s, all[d.below(4)], i, d.bytes(d.below(20))).Err]++
			b := d.led(all[0].p, i, d.below(60))
			seen[asPlain(t, &d, s, all[d.below(4)], i, b).Err]++
		}
	}
	seen.enough(t, 20)
}

// led: bytes of which nearly each one goes on well, and so lead deep; at most so many. Where they may end they often do.
func (d *dice) led(p api.Program, n, most int) []byte {
	var b []byte
	for len(b) < most {
		x := modelOf(p, n, b, false)
		if !x.waits || d.below(2) == 0 && modelOf(p, n, b, true).fault == ok {
			break
		}
		switch {
		case len(x.hint) > 0 && d.below(30) > 0:
			b = append(b, x.hint[d.below(len(x.hint))])
		default:
			b = append(b, d.bytes(1)...)
		}
	}
	return b
}

// P23.3 to P23.8, P23.11 to P23.13: over code of schemas by chance, all that is held against the model: byte by byte, in chunks, copied, saved and loaded.
func TestChunks(t *testing.T) {
	d := dice(63)
	seen := count{}
	for n := range 300 {
		s := d.schema(1+n%20, 3)
		i := len(s.Types) - 1
		p := programs(t, s)[n%4].p
		seen[all(t, &d, p, i, d.led(p, i, 70)).fault.Err]++
		if v := d.value(s, i, 30); v != nil {
			b, _ := plain.Encode(s, i, v)
			b = b[:min(len(b), 80)]
			seen[all(t, &d, p, i, b).fault.Err]++
			others := spoilt(b, d.below(len(b)+1))
			seen[all(t, &d, p, i, others[d.below(len(others))]).fault.Err]++
		}
	}
	seen.enough(t, 3)
}

// chunked: a machine over the bytes, of which a bit of the mask says of each place whether it is cut there; behind every chunk an empty one, if empty says so.
func chunked(t *testing.T, p api.Program, n int, b []byte, mask int, empty bool) *decoder.Machine {
	t.Helper()
	m := newMachine(t, p, n)
	from := 0
	for at := 1; at <= len(b); at++ {
		if at < len(b) && mask>>(at-1)&1 == 0 {
			continue
		}
		chunk := slices.Clone(b[from:at])
		m.Feed(chunk)
		clear(chunk)
		if empty {
			m.Feed(nil)
		}
		from = at
	}
	return m
}

// P23.8: every cut of a message into chunks.
func TestEveryCut(t *testing.T) {
	for _, x := range []struct{ of, bytes string }{
		{"struct{a:u8,b:list<u16,9>}", "07 05000000 0102 0304"},
		{"struct{a:u8,b:list<u16,9>}", "07 05000000 0102 03"},
		{"struct{a:u8,b:list<u16,9>}", "07 06000000 0102 0304"},
		{"list<option<varint>,2>", "08000000 08000000 01 ac"},
		{"list<option<varint>,2>", "08000000 0a000000 0107"},
		{"list<u16,2>", "0100 0200 0300"},
		{"union{1:varint,2:struct{a:u16,b:u16,c:bool}}", "02 0100 0200 01"},
		{"union{1:varint,2:struct{a:u16,b:u16,c:bool}}", "02 0100 0200 02"},
		{"union{1:varint,2:struct{a:u16,b:u16,c:bool}}", "01 ffffffffffffffffff 01"},
		{"varint", "80808000"}, {"u64", "0102030405060708 09"}, {"list<bool,9>", ""}, {"bool", "01"},
	} {
		s, n := built(t, x.of)
		for _, each := range programs(t, s) {
			p, b := each.p, unhex(x.bytes)
			want := modelOf(p, n, b, true)
			for mask := range 1 << max(0, len(b)-1) {
				for _, empty := range []bool{false, true} {
					endIs(t, chunked(t, p, n, b, mask, empty), want, "P23.8: "+x.of+": "+x.bytes)
				}
			}
		}
	}
}
