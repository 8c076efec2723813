package decoder_test

import (
	"bytes"
	"slices"
	"testing"

	"mortise/api"
	"mortise/decoder"
	"mortise/frames"
	"mortise/plain"
)

// standing: machines of one program, in every state: new, behind each byte of a message, behind an error, behind a value; each with the model's bytes.
type standing struct {
	m    *decoder.Machine
	n    int
	fed  []byte
	over bool // End has been called
}

func standings(t *testing.T) (p api.Program, out []standing) {
	t.Helper()
	s, n := built(t, "struct{a:u8,b:list<list<u16,9>,3>,c:union{3:vector<varint,2>,7:option<u64>},d:bool}")
	p = lowered(t, s)
	v := nodes(t, "{7, [[513, 2], [], [9]], <3:[300, 5]>, true}")
	right, f := plain.Encode(s, n, v)
	if f != ok {
		t.Fatalf("P12.2: Encode = %v", f)
	}
	at := func(b []byte, over bool) {
		m := newMachine(t, p, n)
		m.Feed(b)
		if over {
			m.End()
		}
		out = append(out, standing{m, n, b, over})
	}
	for k := range len(right) + 1 {
		at(right[:k], false)
	}
	wrong := slices.Clone(right)
	wrong[1]++
	at(wrong, false)
	at(right, true)
	at(right[:9], true)
	m := newMachine(t, p, n)
	return p, append(out, standing{m, n, nil, false})
}

// P23.6, P23.13: in every state: a Copy, and what Load answers of Save, answer the same to everything; Save the same bytes each time.
func TestSavedAndCopied(t *testing.T) {
	p, list := standings(t)
	for _, x := range list {
		b := x.m.Save()
		others := []*decoder.Machine{copied(t, x.m), loaded(t, p, x.m), copied(t, loaded(t, p, x.m)), loaded(t, p, copied(t, x.m)), loaded(t, p, loaded(t, p, x.m))}
		if !bytes.Equal(x.m.Save(), b) {
			t.Errorf("P23.6: Save answers % x, and then % x", b, x.m.Save())
		}
		for _, rest := range [][]byte{nil, {0}, {1, 2, 3}, bytes.Repeat([]byte{5}, 60)} {
			plainly := x.m.Copy()
			f := plainly.Feed(rest)
			is := toldOf(plainly)
			v, g := plainly.End()
			for k, other := range others {
				m := other.Copy()
				if h := m.Feed(rest); h != f || toldOf(m) != is {
					t.Errorf("P23.13: behind %s: Feed(% x) = %v, %+v, of machine %d %v, %+v", briefBytes(x.fed), rest, f, is, k, h, toldOf(m))
				}
				if w, h := m.End(); !slices.Equal(v, w) || h != g || toldOf(m) != toldOf(plainly) {
					t.Errorf("P23.13: behind %s: % x: End = %s, %v, of machine %d %s, %v", briefBytes(x.fed), rest, briefValue(v), g, k, briefValue(w), h)
				}
			}
		}
	}
}

// P23.6: of a program that is Equal, whatever its empty lists are, and whatever lies behind its lists.
func TestLoadOverEqual(t *testing.T) {
	p, list := standings(t)
	q := cloned(p)
	q.Code = append(slices.Clip(q.Code), api.Instr{Op: -1})[:len(p.Code)]
	q.Entry = append(slices.Clip(q.Entry), -1)[:len(p.Entry)]
	for _, x := range list {
		m := loaded(t, q, x.m)
		for _, other := range []*decoder.Machine{m, loaded(t, p, m)} {
			f, v := endOf(other)
			if g, w := endOf(x.m.Copy()); f != g || v != w {
				t.Errorf("P23.6: over an Equal program %v, %s, want %v, %s", f, v, g, w)
			}
		}
	}
}

func endOf(m *decoder.Machine) (api.Fault, string) {
	v, f := m.End()
	return f, briefValue(v)
}

// goesOnSomehow: whatever the machine is, its calls end, and none panics.
func goesOnSomehow(t *testing.T, p api.Program, m *decoder.Machine) {
	t.Helper()
	other := m.Copy()
	for k := range 3 {
		m.Feed(bytes.Repeat([]byte{byte(k), 0, 4}, 20*k))
		other.Feed([]byte{1, 8, 0, 0, 0, byte(k)})
		toldOf(m)
		decoder.Load(p, m.Save())
		m.Copy().End()
	}
	decoder.Load(p, other.Save())
	for range 2 {
		m.End()
		other.End()
		other.Copy().Feed(nil)
	}
	decoder.Load(p, m.Save())
}

// loadsSomehow: Load answers ErrState, or a machine whose calls end; whether it is a machine.
func loadsSomehow(t *testing.T, p api.Program, b []byte) bool {
	t.Helper()
	m, f := decoder.Load(p, b)
	if m == nil && f.Err != api.ErrState || m != nil && f != ok {
		t.Fatalf("P23.6: Load(%s, %s) = %v, %v", brief(p), briefBytes(b), m != nil, f)
	}
	if m != nil {
		goesOnSomehow(t, p, m)
	}
	return m != nil
}

// P23.1, P23.6: Load of Save's bytes cut at every place, and with bytes behind: no machine has saved these.
func TestLoadCut(t *testing.T) {
	p, list := standings(t)
	for _, x := range list {
		b := x.m.Save()
		for cut := range b {
			if loadsSomehow(t, p, b[:cut]) {
				t.Errorf("P23.6: behind %s: Load takes the first %d of % x", briefBytes(x.fed), cut, b)
			}
		}
		for c := range 256 {
			if other := slices.Concat([]byte{byte(c)}, b[1:]); byte(c) != b[0] && loadsSomehow(t, p, other) {
				t.Errorf("P23.6: behind %s: Load takes % x", briefBytes(x.fed), other)
			}
		}
		for _, more := range [][]byte{{0}, {1}, {0, 0, 0}, b} {
			if loadsSomehow(t, p, slices.Concat(b, more)) {
				t.Errorf("P23.6: behind %s: Load takes % x with % x behind it", briefBytes(x.fed), b, more)
			}
		}
	}
}

// P23.1, P23.6: with one byte changed, left out or put in, at every place.
func TestLoadChanged(t *testing.T) {
	p, list := standings(t)
	machines, tried := 0, 0
	for _, x := range list {
		b := x.m.Save()
		for at := range b {
			for _, other := range spoilt(b, at) {
				tried++
				if loadsSomehow(t, p, other) {
					machines++
				}
			}
		}
	}
	if machines < 1000 || tried-machines < 1000 {
		t.Errorf("of %d changed bytes %d are a machine's", tried, machines)
	}
}

// P23.1, P23.6: several bytes changed, by chance, and over other programs, which may stand anywhere in the first one's code.
func TestLoadOverAnother(t *testing.T) {
	d := dice(91)
	machines := 0
	for n := range 400 {
		p := d.changed(d.laid(1 + n%6))
		q := d.changed(p)
		for i := range p.Entry {
			m := newMachine(t, p, i)
			b := d.led(p, i, 40)
			m.Feed(b[:d.below(len(b)+1)])
			saved := m.Save()
			for range 6 {
				if loadsSomehow(t, q, saved) {
					machines++
				}
				saved[d.below(len(saved))] = byte(d.oneOf(0, 1, 2, 3, 4, 8, 0x64, 0x7f, 0xff, d.below(256)))
				q = []api.Program{p, q, d.change(p)}[d.below(3)]
				if _, e := decoder.New(q, 0); e != api.OK {
					q = p
				}
			}
		}
	}
	if machines < 500 {
		t.Errorf("only %d machines came of it", machines)
	}
}

// P23.1, P23.6: any bytes: all short ones, and some by chance.
func TestLoadAny(t *testing.T) {
	p, list := standings(t)
	for n := range 1 << 16 {
		loadsSomehow(t, p, []byte{byte(n), byte(n >> 8)})
	}
	for n := range 256 {
		loadsSomehow(t, p, []byte{byte(n)})
	}
	loadsSomehow(t, p, nil)
	d := dice(92)
	for range 3000 {
		b := d.bytes(d.below(60))
		x := list[d.below(len(list))].m.Save()
		loadsSomehow(t, p, b)
		loadsSomehow(t, p, slices.Concat(x[:d.below(len(x))], b))
		loadsSomehow(t, taken(t, "|"), slices.Concat(x[:d.below(len(x))], b))
	}
}

// P23.1: bytes that say that very much follows take no room for it.
func TestLoadSaysMuch(t *testing.T) {
	p, list := standings(t)
	for _, x := range list[:6] {
		b := x.m.Save()
		for at := range b {
			for _, number := range [][]byte{{8, 0xff, 0xff, 0xff, 0xff, 0xff, 0xff, 0xff, 0x3f}, {8, 0, 0, 0, 0, 0, 0, 0, 0x40}, {8, 1, 0, 0, 0, 0, 0, 0, 0x40}, {8, 0, 0, 0, 0, 0, 0, 0, 0x80}, bytes.Repeat([]byte{8, 0xff, 0xff, 0xff, 0xff, 0xff, 0xff, 0xff, 0xff}, 9), bytes.Repeat([]byte{0xff}, 300), {4, 0xff, 0xff, 0xff, 0x7f}} {
				loadsSomehow(t, p, slices.Concat(b[:at], number, b[at+1:]))
				loadsSomehow(t, p, slices.Concat(b[:at], number, b[min(at+2, len(b)):]))
			}
		}
	}
}

// P23.1: a saved machine of a loop of a program that does nothing else but run there, put at every instruction, also at those that nothing leads to: its calls end.
func TestLoadNowhere(t *testing.T) {
	ring := taken(t, "bool -; ret; x: jump y; y: jump x; z: jump z | 0")
	first := newMachine(t, ring, 0)
	b := first.Save()
	for at := range b {
		for c := range 256 {
			other := slices.Clone(b)
			other[at] = byte(c)
			loadsSomehow(t, ring, other)
		}
	}
}

// restacked: a saved machine's bytes with another last frame. (The stack's bytes are the last ones, behind how many there are.)
func restacked(t *testing.T, b []byte, change func(f *api.Frame)) []byte {
	t.Helper()
	for at := len(b) - 1; at > 1; at-- {
		s, f := frames.Load(b[at:])
		if f != ok || b[at-2] != 1 || int(b[at-1]) != len(b)-at {
			continue
		}
		last, e := s.Top()
		if e != api.OK {
			return b
		}
		change(&last)
		if e := s.Set(last); e != api.OK {
			t.Fatalf("P22.4: Set = %d", e)
		}
		stack := s.Save()
		n := len(stack)
		return slices.Concat(b[:at-2], []byte{3, byte(n), byte(n >> 8), byte(n >> 16)}, stack)
	}
	t.Fatalf("no stack in % x", b)
	return nil
}

// P14's words for made-up code: a kid, or a position of a table, behind the last that there may be: ErrCount, at the position, ahead of all else. Code that sound.Verify takes comes there only when it stands where it never went.
func TestLoadOverfull(t *testing.T) {
	const most = 1 << 20
	for _, c := range []struct {
		text, ahead, next string // the bytes ahead, and those that the instruction would take
		n                 int    // the type
		slots             bool   // whether it wants a position
		stands            int    // the instruction that it is put at, if it doesn't wait there by itself
	}{
		{"seq; a: uint - 1; less 9 a; ret | 0", "05", "06", 0, false, 0},
		{"seq; a: bool -; less 9 a; ret | 0", "01", "02", 0, false, 0},
		{"seq; a: varint -; less 9 a; ret | 0", "01", "8000", 0, false, 0},
		{"o: option e; bool 0; e: ret; l: seq; i: item 1048576 q; call - 0; jump i; q: ret | o l", "", "02", 1, false, 5},
		{"u: bool -; ret; v: seq; a: offset 8; slots a; b: parts c; ret; c: part - - 0; jump b | u v", "08000000", "08000000", 1, true, 0},
		{"o: option e; bool 0; e: ret; v: seq; a: offset 8; slots a; b: parts c; ret; c: part - - 0; jump b | o v", "08000000", "02", 1, false, 8},
		{"l: seq; first 9 r; r: ret | 0", "", "00000000", 0, true, 0},
	} {
		p := taken(t, c.text)
		m := newMachine(t, p, c.n)
		b := unhex(c.ahead)
		m.Feed(b)
		for _, full := range []bool{false, true} {
			changed := restacked(t, m.Save(), func(f *api.Frame) {
				count := most - 1
				if full {
					count = most
				}
				if c.slots {
					f.Table = slices.Repeat([]int{4 * most}, count)
					f.Table[0] += 400
				} else {
					f.Next = count
				}
				if c.stands > 0 {
					f.At = c.stands
				}
			})
			other, f := decoder.Load(p, changed)
			if f != ok {
				t.Fatalf("P23.6: Load of a frame that is full: %v", f)
			}
			f = other.Feed(unhex(c.next))
			if is := f == fault(api.ErrCount, len(b)); is != full {
				t.Errorf("P14: %s: full %v: Feed(%s) = %v", c.text, full, c.next, f)
			}
			goesOnSomehow(t, p, other)
		}
	}
}

// P23.1: frames whose numbers are as great as they may be: calls end, and none panics.
func TestLoadHuge(t *testing.T) {
	p, list := standings(t)
	for _, x := range list {
		if x.over || x.m.Feed(nil) != ok || x.m.At() == 0 {
			continue
		}
		b := x.m.Save()
		for _, n := range []int{0, 1, 1 << 20, 1<<31 - 1, 1 << 62} {
			for _, change := range []func(f *api.Frame){
				func(f *api.Frame) { f.Routine = n },
				func(f *api.Frame) { f.At = n },
				func(f *api.Frame) { f.Base = n },
				func(f *api.Frame) { f.End = n },
				func(f *api.Frame) { f.Node = n },
				func(f *api.Frame) { f.Next = n },
				func(f *api.Frame) { f.Table = nil },
				func(f *api.Frame) { f.Table = []int{n} },
				func(f *api.Frame) { f.Table = append(f.Table, n) },
				func(f *api.Frame) { f.Table = slices.Repeat([]int{n}, 100) },
				func(f *api.Frame) { f.Base, f.End, f.Next, f.Node, f.Table = n, n, n, n, []int{n, n} },
			} {
				loadsSomehow(t, p, restacked(t, b, change))
			}
		}
	}
}
