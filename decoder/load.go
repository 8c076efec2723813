package decoder

import (
	"mortise/api"
	"mortise/frames"
	"mortise/sound"
)

// Load: back, over the same code.
func Load(p api.Program, b []byte) (*Machine, api.Fault) {
	shapes, f := sound.Shape(p)
	if f.Err != api.OK || p.Encodes {
		return nil, api.Fault{Err: api.ErrCode}
	}
	r := reader{bytes: b}
	m := over(p)
	r.machine(m)
	if r.bad || !m.mayGoOn(shapes) {
		return nil, api.Fault{Err: api.ErrState, At: r.at}
	}
	m.settle()
	return m, api.Fault{}
}

// mayGoOn: whether each frame stands where sound has looked: there no machine runs for ever, whatever else may be strange about it.
func (m *Machine) mayGoOn(shapes []int) bool {
	if !m.goesOn() {
		return true
	}
	stack := stackLike(m.stack)
	for stack.Len() > 0 {
		f, _ := stack.Pop()
		if f.At >= len(shapes) || shapes[f.At] < 0 {
			return false
		}
	}
	return true
}

// stackLike: another stack that is the same.
func stackLike(s *frames.Stack) *frames.Stack {
	other, _ := frames.Load(s.Save())
	return other
}

// reader: of a machine's bytes. Behind the first that can't be it reads nothing but zeros.
type reader struct {
	bytes []byte
	at    int
	bad   bool
}

func (r *reader) machine(m *Machine) {
	r.mark()
	m.at, m.steps, m.nodes, m.depth = r.number(), r.number(), r.number(), r.number()
	m.fault = api.Fault{Err: api.Errno(r.number()), At: r.number()}
	r.each(func() {
		m.value = append(m.value, api.Node{Kind: r.number(), Kids: r.number(), N: r.bits()})
	})
	if m.goesOn() {
		r.standing(m)
	}
	r.bad = r.bad || r.at < len(r.bytes)
}

func (r *reader) mark() {
	if len(r.bytes) == 0 || r.bytes[0] != mark {
		r.bad = true
		return
	}
	r.at = 1
}

// standing: what a machine that goes on stands at.
func (r *reader) standing(m *Machine) {
	r.each(func() {
		m.made = append(m.made, made{parent: r.number() - 1, k: r.number(), kind: r.number(), n: r.bits()})
	})
	m.word = r.list()
	stack, f := frames.Load(r.list())
	if f.Err != api.OK {
		r.bad = true
	}
	m.stack = stack
	m.input = inputFrom(m.at)
}

// each reads as many things as the next number says.
func (r *reader) each(read func()) {
	for n := r.number(); n > 0 && !r.bad; n-- {
		read()
	}
}

// list: how many bytes, and these.
func (r *reader) list() (l []byte) {
	r.each(func() { l = append(l, r.next()) })
	return l
}

// number: one that a machine can count to.
func (r *reader) number() int {
	n := r.bits()
	if n > api.Huge {
		r.bad = true
		return 0
	}
	return int(n)
}

// bits: a number as appendNumber has written it.
func (r *reader) bits() (n uint64) {
	for k := range int(r.next()) {
		n |= uint64(r.next()) << (8 * k)
	}
	return n
}

func (r *reader) next() byte {
	if r.bad || r.at == len(r.bytes) {
		r.bad = true
		return 0
	}
	r.at++
	return r.bytes[r.at-1]
}
