package raise_test

import (
	"bytes"
	"encoding/binary"
	"testing"

	"mortise/api"
	"mortise/plain"
	"mortise/raise"
	"mortise/typing"
)

// machine: the encoder's, as chapter 14 tells it, for values of the type that is run: it asks nothing of a node.
type machine struct {
	p     api.Program
	nodes []api.Node // that are not taken yet
	out   []byte
}

// frame: of a routine that runs. Its node's kids and Next are all that instructions ask of it.
type frame struct{ base, kids, next int }

// turn: Next, which grows by one.
func (f *frame) turn() int {
	f.next++
	return f.next - 1
}

func (m *machine) take() api.Node {
	n := m.nodes[0]
	m.nodes = m.nodes[1:]
	return n
}

func (m *machine) growTo(n int) {
	for len(m.out) < n {
		m.out = append(m.out, 0)
	}
}

func (m *machine) write(at int, n uint64, width int) {
	m.growTo(at + width)
	for k := range width {
		m.out[at+k] = byte(n >> (8 * k))
	}
}

// run: a type's routine, its value beginning at base.
func (m *machine) run(of, base int) {
	f := frame{base: base}
	for at := m.p.Entry[of]; m.p.Code[at].Op != 20; {
		at = m.step(&f, at)
	}
}

// step does an instruction, and tells where it goes on.
func (m *machine) step(f *frame, at int) int {
	i := m.p.Code[at]
	switch i.Op {
	case 33, 35:
		width := max(i.B, 1)
		if i.A == -1 {
			i.A = width * f.turn()
		}
		m.write(f.base+i.A, m.take().N, width)
	case 36:
		m.out = binary.AppendUvarint(m.out, m.take().N)
	case 37, 38, 39:
		f.kids, f.next = m.take().Kids, 0
	case 40:
		kids := m.take().Kids
		m.write(f.base, uint64(kids), 1)
		if kids == 0 {
			return i.B
		}
	case 41:
		tag := m.take().N
		m.write(f.base, tag, 1)
		for at++; uint64(m.p.Code[at].A) != tag; {
			at++
		}
		return m.p.Code[at].B
	case 42:
		if i.A == -1 {
			i.A = 4 * f.kids
		}
		m.growTo(f.base + i.A)
	case 43:
		if i.A == -1 {
			i.A = 4 * f.next
		}
		m.write(f.base+i.A, uint64(len(m.out)-f.base), 4)
	case 44:
		m.run(i.C, f.base+i.A)
	case 45:
		m.run(i.C, f.base+i.A*f.turn())
	case 46:
		m.run(i.C, len(m.out))
		f.next++
	case 47:
		if f.next < f.kids {
			return i.B
		}
	case 19:
		return i.B
	}
	return at + 1
}

// encodesAs holds what a type's routine writes of a value against plain.Encode.
func encodesAs(t *testing.T, s api.Schema, p api.Program, of int, v []api.Node) {
	t.Helper()
	want, fault := plain.Encode(s, of, v)
	if fault.Err != api.OK {
		t.Fatalf("P12.2: Encode(%s, %d, %s): %v", brief(s), of, brief(v), fault)
	}
	m := machine{p: p, nodes: v}
	m.run(of, 0)
	if !bytes.Equal(m.out, want) || len(m.nodes) != 0 {
		t.Errorf("P17.2: of %s type %d writes % x of %s (%d nodes left), want % x", brief(s), of, m.out, brief(v), len(m.nodes), want)
	}
}

// P17.2: the routines encode: each one writes of its type's values what plain.Encode does.
func TestEncodes(t *testing.T) {
	d := dice(3)
	done := 0
	for _, s := range someSchemas(t) {
		p, e := raise.Encoder(s)
		if e != api.OK || !p.Encodes {
			t.Fatalf("P17.2: Encoder(%s): error %d, it encodes: %v", brief(s), e, p.Encodes)
		}
		for of := range s.Types {
			for range 3 {
				picks := make([]int, 40)
				for k := range picks {
					picks[k] = d.below(1 << d.below(9))
				}
				if v, e := typing.Some(s, of, picks); e == api.OK && len(v) < 1<<12 {
					encodesAs(t, s, p, of, v)
					done++
				}
			}
		}
	}
	if done < 5000 {
		t.Errorf("only %d values were encoded", done)
	}
}
