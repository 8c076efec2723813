package decoder

import "math/bits"

// mark: the byte that a machine's bytes begin with.
const mark = 0x64

// Save: its state.
func (m *Machine) Save() []byte {
	b := []byte{mark}
	put := func(n int) { b = appendNumber(b, uint64(n)) }
	putBytes := func(l []byte) {
		put(len(l))
		b = append(b, l...)
	}
	for _, n := range [...]int{m.at, m.steps, m.nodes, m.depth, int(m.fault.Err), m.fault.At, len(m.value)} {
		put(n)
	}
	for _, n := range m.value {
		put(n.Kind)
		put(n.Kids)
		b = appendNumber(b, n.N)
	}
	if !m.goesOn() {
		return b
	}
	put(len(m.made))
	for _, n := range m.made {
		// One more: the root's parent is below 0.
		put(n.parent + 1)
		put(n.k)
		put(n.kind)
		b = appendNumber(b, n.n)
	}
	putBytes(m.word)
	putBytes(m.stack.Save())
	return b
}

// appendNumber: how many bytes it needs, and these, the lowest first.
func appendNumber(b []byte, n uint64) []byte {
	count := (bits.Len64(n) + 7) / 8
	b = append(b, byte(count))
	for range count {
		b = append(b, byte(n))
		n >>= 8
	}
	return b
}
