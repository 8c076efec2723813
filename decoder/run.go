package decoder

import (
	"mortise/api"
	"mortise/value"
)

// Of a frame: an end that is not known, and the node whose kid the whole value is.
const (
	open = -1
	none = -1
)

// What may have come of an instruction.
const (
	isDone  = 1 + iota // the one behind it is next
	isLed              // it is done, and another one of the routine is next
	isLeft             // it is done, and another frame runs
	isWaits            // a byte that it wants has not come
	isAmiss            // it has an error
)

// came: what has come of an instruction.
type came struct {
	how   int
	to    int       // where it leads
	fault api.Fault // what is amiss
}

var (
	done  = came{how: isDone}
	left  = came{how: isLeft}
	waits = came{how: isWaits}
)

func leadsTo(at int) came { return came{how: isLed, to: at} }

func amiss(e api.Errno, at int) came {
	return came{how: isAmiss, fault: api.Fault{Err: e, At: at}}
}

// made: a node, and whose kid it is.
type made struct {
	parent, k int
	kind      int
	n         uint64
}

// run goes on until a byte that is wanted has not come, or there is an answer.
func (m *Machine) run() {
	m.work()
	m.depth = m.stack.High()
	m.settle()
}

// work: instruction by instruction, and then the end of the message.
func (m *Machine) work() {
	for m.stack.Len() > 0 {
		c := m.step()
		if c == waits {
			return
		}
		if c.how == isAmiss {
			m.fault = c.fault
			return
		}
		m.steps++
	}
	m.finish()
}

// step: the instruction whose turn it is, as far as the bytes reach.
func (m *Machine) step() came {
	f, _ := m.stack.Head()
	t := turn{Machine: m, instr: m.code[f.At], frame: f}
	c := t.do()
	switch {
	case c == done:
		t.frame.At++
	case c.how == isLed:
		t.frame.At = c.to
	default:
		return c
	}
	m.word = m.word[:0]
	m.stack.Go(t.frame)
	return c
}

// finish: the program is through: nothing may come any more.
func (m *Machine) finish() {
	switch {
	case m.input.Held() > 0:
		m.fault = api.Fault{Err: api.ErrTail, At: m.look()}
	case m.input.Ended():
		m.build()
	}
}

// look: at the byte that comes next; its position.
func (m *Machine) look() int {
	at := m.input.At()
	m.at = at + 1
	return at
}

// build: the value.
func (m *Machine) build() {
	v, e := valueOf(m.made)
	if e != api.OK {
		m.fault = m.lost().fault
		return
	}
	m.value = v
}

func valueOf(nodes []made) ([]api.Node, api.Errno) {
	arena := value.NewArena()
	for _, n := range nodes {
		if _, e := arena.Add(n.parent, n.k, n.kind, n.n); e != api.OK {
			return nil, e
		}
	}
	return arena.Value()
}

// lost: a layer below refuses what the machine asks of it. None comes there but one that was loaded from bytes which no machine has saved.
func (m *Machine) lost() came { return amiss(api.ErrState, m.input.At()) }
