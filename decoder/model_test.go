package decoder_test

import (
	"fmt"
	"testing"

	"mortise/api"
)

// told: what At, Steps, Nodes and Depth answer.
type told struct{ at, steps, nodes, depth int }

// end: what a machine has come to: a fault, a value, or neither: it waits.
type end struct {
	fault api.Fault
	value []api.Node
	told  told
	waits bool
	// What would go on well at the byte that it waits for, if that is known.
	hint []byte
}

// tree: a node with its kids.
type tree struct {
	kind int
	n    uint64
	kids map[int]*tree
}

// list: the tree's nodes, each ahead of its kids.
func (x *tree) list() []api.Node {
	out := []api.Node{{Kind: x.kind, N: x.n, Kids: len(x.kids)}}
	for k := range len(x.kids) {
		kid, is := x.kids[k]
		if !is {
			panic(fmt.Sprintf("kid %d of %d is not there", k, len(x.kids)))
		}
		out = append(out, kid.list()...)
	}
	return out
}

// model: the machine as the words of chapter 14 tell it: it is handed all bytes that have come by then, begins with the first one each time, and its frames are calls of the test's own.
type model struct {
	p     api.Program
	input []byte
	ended bool

	at   int // the position
	root *tree
	told told
	hint []byte
}

// stop: why it doesn't go on: a fault, or, if that is none, it waits.
type stop api.Fault

func fails(e api.Errno, at int) { panic(stop{e, at}) }

// modelOf: what it comes to.
func modelOf(p api.Program, t int, input []byte, ended bool) (out end) {
	m := &model{p: p, input: input, ended: ended}
	defer func() {
		why := recover()
		s, is := why.(stop)
		if why != nil && !is {
			panic(why)
		}
		out.told = m.told
		out.fault = api.Fault(s)
		out.waits = is && s.Err == api.OK
		if out.waits {
			out.hint = m.hint
		}
	}()
	m.call(t, -1, nil, 0, 1)
	if m.comes(m.at, -1) {
		fails(api.ErrTail, m.at)
	}
	out.value = m.root.list()
	return out
}

// waits: a byte has not come, and may come.
func (m *model) waits() {
	if !m.ended {
		fails(api.OK, 0)
	}
}

// looks: a byte has been looked at.
func (m *model) looks(at int) { m.told.at = max(m.told.at, at+1) }

// comes: whether there is a byte at the position; as long as that isn't known it waits.
func (m *model) comes(at, end int) bool {
	if end >= 0 {
		return at < end
	}
	if at < len(m.input) {
		m.looks(at)
		return true
	}
	m.waits()
	return false
}

// byte: the next one, which is wanted.
func (m *model) byte(end int) int {
	at := m.at
	if end >= 0 && at >= end {
		fails(api.ErrShort, at)
	}
	if at >= len(m.input) {
		m.waits()
		fails(api.ErrShort, at)
	}
	m.looks(at)
	m.at++
	return int(m.input[at])
}

// number: so many bytes, the lowest first. want: what would go on well.
func (m *model) number(bytes, end int, want uint64) uint64 {
	n := uint64(0)
	for k := range bytes {
		m.hint = []byte{byte(want >> (8 * k))}
		n += uint64(m.byte(end)) << (8 * k)
	}
	m.hint = nil
	return n
}

// flag: a byte that is 00 or 01.
func (m *model) flag(end int, e api.Errno) int {
	m.hint = []byte{0, 1}
	c := m.byte(end)
	if c != 0 && c != 1 {
		fails(e, m.at-1)
	}
	m.hint = nil
	return c
}

func (m *model) varint(end int) uint64 {
	n := uint64(0)
	for k := 0; ; k++ {
		c := m.byte(end)
		if k == 9 && c > 1 || k > 0 && c == 0 {
			fails(api.ErrForm, m.at-1)
		}
		n += uint64(c%128) << (7 * k)
		if c < 128 {
			return n
		}
	}
}

// frame: of the model.
type frame struct {
	base, end int
	node      *tree
	next      int
	table     []int
	goes      int // the instruction that is next
}

func (m *model) put(f *frame, k, kind int, n uint64) *tree {
	x := &tree{kind: kind, n: n, kids: map[int]*tree{}}
	m.told.nodes++
	if f.node == nil {
		m.root = x
		return x
	}
	if _, is := f.node.kids[k]; is {
		panic(fmt.Sprintf("kid %d is there already", k))
	}
	f.node.kids[k] = x
	return x
}

// kid: the number of the kid that an operand names.
func (f *frame) kid(operand int) int {
	if operand != -1 {
		return operand
	}
	f.next++
	return f.next - 1
}

// into: the frame goes into a node at its place.
func (m *model) into(f *frame, kind int, n uint64) {
	f.node = m.put(f, f.next, kind, n)
	f.next = 0
}

// partEnd: where a part ends.
func (f *frame) partEnd(part int) int {
	if part+1 < len(f.table) {
		return f.table[part+1]
	}
	return f.end
}

// call: a routine, from its beginning to its ret; where its value belongs; how many frames there are with it.
func (m *model) call(t, end int, node *tree, next, depth int) {
	m.told.depth = max(m.told.depth, depth)
	f := &frame{base: m.at, end: end, node: node, next: next, goes: m.p.Entry[t]}
	for {
		i := m.p.Code[f.goes]
		switch name := nameOf(i.Op); name {
		case "ret":
			m.told.steps++
			return
		case "call", "part":
			k, partEnd := 0, f.end
			switch {
			case name == "call":
				k = f.kid(i.A)
			case i.A == -1:
				k = f.kid(-1)
				partEnd = f.partEnd(k)
			default:
				k, partEnd = i.A, f.partEnd(i.B)
			}
			m.told.steps++
			m.call(i.C, partEnd, f.node, k, depth+1)
			f.goes++
		default:
			f.goes++
			if m.does(f, i, name) {
				f.goes = i.B
			}
			m.told.steps++
		}
	}
}

// does an instruction; whether it goes on at its target.
func (m *model) does(f *frame, i api.Instr, name string) bool {
	switch name {
	case "uint":
		n := m.number(i.B, f.end, uint64(m.at)*0x0102030405060708)
		m.put(f, f.kid(i.A), api.NodeUint, n)
	case "uints":
		for k := range i.B {
			m.put(f, i.A+k, api.NodeUint, m.number(i.C, f.end, uint64(m.at)*0x0307))
		}
	case "bool":
		m.put(f, f.kid(i.A), api.NodeBool, uint64(m.flag(f.end, api.ErrBool)))
	case "varint":
		m.put(f, f.kid(i.A), api.NodeUint, m.varint(f.end))
	case "seq":
		m.into(f, api.NodeSeq, 0)
	case "struct":
		m.into(f, api.NodeStruct, 0)
	case "option":
		if m.flag(f.end, api.ErrTag) == 0 {
			m.put(f, f.next, api.NodeOption, 0)
			return true
		}
		m.into(f, api.NodeOption, 0)
	case "union":
		f.goes = m.arm(f, i)
	case "offset":
		m.offset(f, i)
	case "first":
		if !m.comes(m.at, f.end) {
			return true
		}
		m.first(f, i)
	case "item":
		if !m.comes(m.at, f.end) {
			return true
		}
		if f.next >= i.A {
			fails(api.ErrCount, m.at)
		}
	case "slots":
		return len(f.table) < (f.table[0]-f.base)/4
	case "less":
		return f.next < i.A
	case "parts":
		return f.next < len(f.table)
	case "tail":
		part := i.A
		if part == -1 {
			part = f.next - 1
		}
		if end := f.partEnd(part); end >= 0 && m.at < end {
			fails(api.ErrTail, m.at)
		}
	case "jump":
		return true
	default:
		panic("no instruction of a decoder: " + name)
	}
	return false
}

// arm: of a union: the instruction that is next.
func (m *model) arm(f *frame, i api.Instr) int {
	arms := m.p.Code[f.goes : f.goes+i.A]
	for _, arm := range arms {
		m.hint = append(m.hint, byte(arm.A))
	}
	tag := m.byte(f.end)
	m.hint = nil
	for _, arm := range arms {
		if arm.A == tag {
			m.into(f, api.NodeUnion, uint64(tag))
			return arm.B
		}
	}
	fails(api.ErrTag, m.at-1)
	return 0
}

func (m *model) offset(f *frame, i api.Instr) {
	from := m.at
	want := i.A
	if len(f.table) > 0 {
		want = f.table[len(f.table)-1] - f.base + m.at%3
	}
	to := f.base + int(m.number(4, f.end, uint64(want)))
	switch {
	case len(f.table) == 0 && to != f.base+i.A:
		fails(api.ErrOffset, from)
	case len(f.table) > 0 && to < f.table[len(f.table)-1]:
		fails(api.ErrOffset, from)
	case f.end >= 0 && to > f.end:
		fails(api.ErrOffset, from)
	}
	f.table = append(f.table, to)
}

func (m *model) first(f *frame, i api.Instr) {
	from := m.at
	o := int(m.number(4, f.end, uint64(4+4*(m.at%3))))
	switch {
	case o == 0, o%4 > 0, f.end >= 0 && f.base+o > f.end:
		fails(api.ErrOffset, from)
	case o/4 > i.A:
		fails(api.ErrCount, from)
	}
	f.table = append(f.table, f.base+o)
}

// of a value that has come, its text, else the fault.
func (x end) String() string {
	switch {
	case x.waits:
		return fmt.Sprintf("waits %+v", x.told)
	case x.fault != ok:
		return fmt.Sprintf("error %d at %d %+v", x.fault.Err, x.fault.At, x.told)
	}
	return fmt.Sprintf("%s %+v", briefValue(x.value), x.told)
}

// The model itself is held against the chapter's worked examples.
func TestModel(t *testing.T) {
	p := written("uint - 1; ret; uint - 2; ret; l: seq; i: item 9 q; uint - 2; jump i; q: ret; s: struct; uint 0 1; offset 5; part 1 0 2; tail 0; ret | 0 2 l s")
	for _, c := range []struct {
		bytes string
		ended bool
		want  string
	}{
		{"", false, "waits {at:0 steps:1 nodes:1 depth:1}"},
		{"07 05", false, "waits {at:2 steps:2 nodes:2 depth:1}"},
		{"07 05 00 00 00", false, "waits {at:5 steps:5 nodes:3 depth:2}"},
		{"07 05 00 00 00 01", false, "waits {at:6 steps:6 nodes:3 depth:2}"},
		{"07 05 00 00 00 01", true, "error 20 at 6 {at:6 steps:6 nodes:3 depth:2}"},
		{"07 05 00 00 00 01 02 03", false, "waits {at:8 steps:9 nodes:4 depth:2}"},
		{"07 05 00 00 00 01 02 03 04", true, "{7, [513, 1027]} {at:9 steps:15 nodes:5 depth:2}"},
		{"07 06 00 00 00 01", false, "error 122 at 1 {at:5 steps:2 nodes:2 depth:1}"},
	} {
		if is := modelOf(p, 3, unhex(c.bytes), c.ended).String(); is != c.want {
			t.Errorf("the model of %s, ended %v: %s, want %s", c.bytes, c.ended, is, c.want)
		}
	}
}
