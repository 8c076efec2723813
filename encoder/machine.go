package encoder

import (
	"mortise/api"
	"mortise/cursor"
	"mortise/frames"
)

// none: of a frame that has gone into no node.
const none = -1

// machine: goes through one value. Its methods give the run up by panic with an api.Fault.
type machine struct {
	code   []api.Instr
	entry  []int
	nodes  []api.Node
	taken  int           // how many of the nodes; the number of the one whose turn it is
	frame  api.Frame     // the one that runs
	below  *frames.Stack // those that wait for it
	length int           // of the output
	out    *cursor.Output
	steps  int
}

// newMachine: its output has no bytes and no room for any, so that it only measures.
func newMachine(p api.Program, t int, v []api.Node) *machine {
	m := &machine{code: p.Code, entry: p.Entry, nodes: v}
	m.frame = m.frameOf(t, 0)
	// A type calls those below it alone: there is never more than one frame of each.
	m.below, _ = frames.New(len(p.Entry))
	m.out, _ = cursor.To(0)
	return m
}

// frameOf: a routine that begins.
func (m *machine) frameOf(t, base int) api.Frame {
	return api.Frame{Routine: t, At: m.entry[t], Base: base, Node: none}
}

// run: until the program is through.
func (m *machine) run() (f api.Fault) {
	defer func() {
		if given := recover(); given != nil {
			f = given.(api.Fault)
		}
	}()
	for isThrough := false; !isThrough; m.steps++ {
		isThrough = m.step()
	}
	m.insist(m.taken == len(m.nodes), api.ErrNode)
	return api.Fault{}
}

// giveUp: at the node whose turn it is.
func (m *machine) giveUp(e api.Errno) {
	panic(api.Fault{Err: e, At: m.taken})
}

// insist gives up unless so.
func (m *machine) insist(so bool, e api.Errno) {
	if !so {
		m.giveUp(e)
	}
}

// next: the node whose turn it is. It is taken when nothing is wrong with it.
func (m *machine) next(kind int) api.Node {
	m.insist(m.taken < len(m.nodes), api.ErrNode)
	n := m.nodes[m.taken]
	m.insist(n.Kind == kind, api.ErrKind)
	return n
}

func (m *machine) take(kind int) api.Node {
	n := m.next(kind)
	m.taken++
	return n
}

// number: of a node, if it fits into a width.
func (m *machine) number(width int) uint64 {
	n := m.next(api.NodeUint)
	m.insist(n.N>>(8*width) == 0, api.ErrValue)
	m.taken++
	return n.N
}

// goInto: the node whose turn it is: its kids come now.
func (m *machine) goInto() {
	m.frame.Node, m.frame.Next = m.taken, 0
	m.taken++
}

// kids: of the node that the frame has gone into.
func (m *machine) kids() int { return m.nodes[m.frame.Node].Kids }

// turn: Next, which grows by one.
func (m *machine) turn() int {
	m.frame.Next++
	return m.frame.Next - 1
}

// growTo: counted from the output's beginning. (A step reaches hardly more than MaxSize beyond all that those ahead of it could reach, so no sum wraps.)
func (m *machine) growTo(length int) { m.length = max(m.length, length) }

// write: a number's bytes at a place of the frame's value. An output that only measures refuses them.
func (m *machine) write(place, width int, n uint64) {
	at := m.frame.Base + place
	m.growTo(at + width)
	m.out.Patch(at, width, n)
}

// leb: a number's varint, behind the output.
func (m *machine) leb(n uint64) {
	for ; n >= 0x80; n >>= 7 {
		m.write(m.behind(), 1, n&0x7f|0x80)
	}
	m.write(m.behind(), 1, n)
}

// behind: the place at which the output ends.
func (m *machine) behind() int { return m.length - m.frame.Base }

// call: the frame goes on behind the call when the one that begins is gone.
func (m *machine) call(t, base int) {
	m.below.Push(m.frame)
	m.frame = m.frameOf(t, base)
}

// ret: the frame is gone; whether it was the first one.
func (m *machine) ret() bool {
	f, e := m.below.Pop()
	m.frame = f
	return e != api.OK
}
