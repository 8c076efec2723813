package decoder_test

import (
	"bytes"
	"slices"
	"testing"

	"mortise/api"
	"mortise/decoder"
	"mortise/plain"
)

// roomy: a copy with spare room in its lists, and something in it that would be a fault.
func roomy(p api.Program) api.Program {
	p = cloned(p)
	p.Code = append(slices.Clip(p.Code), api.Instr{Op: -1}, api.Instr{Op: 20})[:len(p.Code)]
	p.Entry = append(slices.Clip(p.Entry), -1, 0)[:len(p.Entry)]
	return p
}

// roomyBytes: a copy with spare room, and bytes in it that would be read on.
func roomyBytes(b []byte) []byte { return append(slices.Clip(slices.Clone(b)), 1, 0, 0xff)[:len(b)] }

// held: all that a list holds, spare room too.
func held[T any](l []T) []T { return slices.Clone(l[:cap(l)]) }

// overwrite writes over a list, spare room too.
func overwrite[T any](l []T, x T) {
	l = l[:cap(l)]
	for k := range l {
		l[k] = x
	}
}

// isAll: do all items of a list, spare room too, say this?
func isAll[T comparable](l []T, x T) bool {
	return !slices.ContainsFunc(l[:cap(l)], func(y T) bool { return y != x })
}

// message: a program, a type, bytes that encode a value of it, and the value.
type message struct {
	p     api.Program
	n     int
	bytes []byte
	value []api.Node
}

// messages: that look like chance.
func (d *dice) messages(t *testing.T, n int) (out []message) {
	t.Helper()
	for len(out) < n {
		s := d.schema(2+d.below(15), 3)
		i := len(s.Types) - 1
		v := d.value(s, i, 40)
		if v == nil {
			continue
		}
		b, f := plain.Encode(s, i, v)
		if f != ok {
			t.Fatalf("P12.2: Encode = %v", f)
		}
		out = append(out, message{programs(t, s)[d.below(4)].p, i, b, v})
	}
	return out
}

// P23.1: the program that is handed to New, Load and Run is not changed, spare room too, nor looked at again.
func TestProgramHandedIn(t *testing.T) {
	d := dice(51)
	for _, x := range d.messages(t, 200) {
		p := roomy(x.p)
		code, entry := held(p.Code), held(p.Entry)
		m, e := decoder.New(p, x.n)
		if e != api.OK {
			t.Fatalf("P23.2: New with spare room = %d", e)
		}
		cut := d.below(len(x.bytes) + 1)
		m.Feed(x.bytes[:cut])
		other, f := decoder.Load(p, m.Save())
		if f != ok {
			t.Fatalf("P23.6: Load with spare room = %v", f)
		}
		decoder.Run(p, x.n, x.bytes)
		third := other.Copy()
		if !slices.Equal(held(p.Code), code) || !slices.Equal(held(p.Entry), entry) {
			t.Fatalf("P23.1: what is handed in is changed: %s", brief(p))
		}
		overwrite(p.Code, api.Instr{Op: 19, B: -7})
		overwrite(p.Entry, -7)
		for _, m := range []*decoder.Machine{m, other, third} {
			m.Feed(x.bytes[cut:])
			if v, f := m.End(); f != ok || !slices.Equal(v, x.value) {
				t.Fatalf("P23.1: behind a change of what was handed in: %s, %v, want %s", briefValue(v), f, briefValue(x.value))
			}
		}
		if !isAll(p.Code, api.Instr{Op: 19, B: -7}) || !isAll(p.Entry, -7) {
			t.Fatalf("P23.1: later calls write to what was handed in")
		}
	}
}

// P23.1: bytes that are handed to Feed, Run and Load are not changed, spare room too, which is not looked at, nor looked at again.
func TestBytesHandedIn(t *testing.T) {
	d := dice(52)
	for _, x := range d.messages(t, 200) {
		m := newMachine(t, x.p, x.n)
		cut := d.below(len(x.bytes) + 1)
		chunks := [][]byte{roomyBytes(x.bytes[:cut]), roomyBytes(x.bytes[cut:])}
		for k, chunk := range chunks {
			before := held(chunk)
			m.Feed(chunk)
			if !bytes.Equal(held(chunk), before) {
				t.Fatalf("P23.1: Feed changes what is handed in")
			}
			overwrite(chunk, 0xee)
			saved := roomyBytes(m.Save())
			before = held(saved)
			other, f := decoder.Load(x.p, saved)
			if f != ok || !bytes.Equal(held(saved), before) {
				t.Fatalf("P23.1: Load of bytes with spare room: %v, they are changed: %v", f, !bytes.Equal(held(saved), before))
			}
			overwrite(saved, 0xee)
			if k == 1 || d.below(2) == 0 {
				m = other
			}
		}
		if v, f := m.End(); f != ok || !slices.Equal(v, x.value) {
			t.Fatalf("P23.1: behind a change of what was handed in: %s, %v, want %s", briefValue(v), f, briefValue(x.value))
		}
		if !isAll(chunks[0], 0xee) || !isAll(chunks[1], 0xee) {
			t.Fatalf("P23.1: later calls write to what was handed in")
		}
		b := roomyBytes(x.bytes)
		before := held(b)
		if v, f := decoder.Run(x.p, x.n, b); f != ok || !slices.Equal(v, x.value) || !bytes.Equal(held(b), before) {
			t.Fatalf("P23.1: Run of bytes with spare room: %s, %v", briefValue(v), f)
		}
	}
}

// P23.1, P23.4: what End, Run and Save answer is new memory, spare room too: no other answer shares it, nor does a machine.
func TestHandedOut(t *testing.T) {
	d := dice(53)
	strange := api.Node{Kind: -7, N: 7, Kids: -7}
	for _, x := range d.messages(t, 200) {
		m := newMachine(t, x.p, x.n)
		m.Feed(x.bytes[:d.below(len(x.bytes)+1)])
		first, second := m.Save(), m.Save()
		overwrite(first, 0xee)
		if _, f := decoder.Load(x.p, second); f != ok {
			t.Fatalf("P23.1: two answers of Save share memory")
		}
		overwrite(second, 0xdd)
		m = loaded(t, x.p, m)
		m.Feed(x.bytes[m.At():])
		other := m.Copy()
		one, _ := m.End()
		overwrite(one, strange)
		two, _ := m.End()
		third, _ := m.Copy().End()
		if !slices.Equal(two, x.value) || !slices.Equal(third, x.value) {
			t.Fatalf("P23.4: the value is not answered again: %s, of a Copy %s, want %s", briefValue(two), briefValue(third), briefValue(x.value))
		}
		overwrite(two, strange)
		four, _ := other.End()
		five, _ := loaded(t, x.p, m).End()
		overwrite(third, strange)
		six, _ := decoder.Run(x.p, x.n, x.bytes)
		saved := m.Save()
		kept := bytes.Clone(saved)
		overwrite(m.Save(), 0xcc)
		if !slices.Equal(four, x.value) || !slices.Equal(five, x.value) || !slices.Equal(six, x.value) || !bytes.Equal(saved, kept) {
			t.Fatalf("P23.1: answers share memory")
		}
		if !isAll(one, strange) || !isAll(two, strange) || !isAll(third, strange) || !isAll(first, 0xee) || !isAll(second, 0xdd) {
			t.Fatalf("P23.1: later calls write to what was answered")
		}
	}
}

// P23.1, P10: machines know nothing of one another, a Copy neither: many at one time, of several messages, each fed, copied, loaded, ended as the dice say.
func TestApart(t *testing.T) {
	d := dice(54)
	list := d.messages(t, 30)
	type peer struct {
		message
		m *decoder.Machine
	}
	var peers []peer
	for _, x := range list {
		peers = append(peers, peer{x, newMachine(t, x.p, x.n)})
	}
	values := 0
	for range 6000 {
		k := d.below(len(peers))
		x := &peers[k]
		at := x.m.At()
		switch d.below(8) {
		case 0:
			// The one that is left goes its own way.
			left := x.m
			x.m = left.Copy()
			left.Feed(bytes.Repeat([]byte{9}, d.below(5)))
			left.End()
		case 1:
			left := x.m
			x.m = loaded(t, x.p, left)
			left.End()
		default:
			x.m.Feed(x.bytes[at:min(len(x.bytes), at+d.below(4))])
		}
		if f := x.m.Feed(nil); f != ok {
			t.Fatalf("P23.1: of %s an error: %v", briefBytes(x.bytes), f)
		}
		if x.m.At() == len(x.bytes) {
			values++
			if v, f := x.m.End(); f != ok || !slices.Equal(v, x.value) {
				t.Fatalf("P23.1: beside others %s, %v, want %s", briefValue(v), f, briefValue(x.value))
			}
			x.m = newMachine(t, x.p, x.n)
		}
	}
	if values < 200 {
		t.Errorf("only %d values came", values)
	}
}

// P23.1, P23.6: a machine and its copies by turns, byte by byte, each with other bytes than the others: none writes where another one reads.
func TestCopiesByTurns(t *testing.T) {
	for _, of := range []string{"list<u16,99>", "list<varint,99>", "struct{a:u64,b:u64,c:u64,d:u64}", "list<union{1:u16,2:struct{a:u8,b:u8,c:u8}},99>"} {
		s, n := built(t, of)
		for _, x := range programs(t, s) {
			d := dice(57)
			for range 60 {
				first := d.led(x.p, n, 40)
				cut := d.below(len(first) + 1)
				m := newMachine(t, x.p, n)
				m.Feed(first[:cut])
				machines := []*decoder.Machine{m, m.Copy(), m.Copy(), loaded(t, x.p, m)}
				fed := make([][]byte, len(machines))
				for k := range machines {
					fed[k] = slices.Clone(first[:cut])
				}
				for range 12 {
					for k, m := range machines {
						c := d.bytes(1)
						if next := modelOf(x.p, n, fed[k], false); len(next.hint) > 0 {
							c = next.hint[:1]
						}
						fed[k] = append(fed[k], c...)
						feedIs(t, m, c, modelOf(x.p, n, fed[k], false), "by turns: "+of)
					}
				}
				for k, m := range machines {
					endIs(t, m, modelOf(x.p, n, fed[k], true), "by turns: "+of+": "+briefBytes(fed[k]))
				}
			}
		}
	}
}

// P23.1: with an error the other answer is its zero value, whatever was answered ahead.
func TestZeroBesideError(t *testing.T) {
	d := dice(55)
	for _, x := range d.messages(t, 100) {
		if m, e := decoder.New(x.p, len(x.p.Entry)); m != nil || e == api.OK {
			t.Fatalf("P23.2: New of no type = %v, %d", m != nil, e)
		}
		if m, f := decoder.Load(x.p, x.bytes); m != nil || f.Err != api.ErrState {
			t.Fatalf("P23.6: Load of a message = %v, %v", m != nil, f)
		}
		for _, b := range spoilt(x.bytes, d.below(len(x.bytes)+1)) {
			v, f := decoder.Run(x.p, x.n, b)
			if f != ok && v != nil || f == ok && len(v) == 0 {
				t.Fatalf("P23.7: Run = %s, %v", briefValue(v), f)
			}
			m := newMachine(t, x.p, x.n)
			m.Feed(b)
			for range 2 {
				w, g := m.End()
				if g != f || !slices.Equal(v, w) {
					t.Fatalf("P23.4: End = %s, %v, Run %s, %v", briefValue(w), g, briefValue(v), f)
				}
			}
		}
	}
}
