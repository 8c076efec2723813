package sound

import (
	"container/heap"
	"slices"

	"mortise/api"
)

// none: above every instruction's number.
const none = api.MaxCode

// look: the first look through a program.
type look struct {
	machine
	code    []api.Instr
	routine int // the type whose turn it is
	states  []state
	pending numbers // of the instructions that have a state and were not looked at
}

// firstLook: the states of all instructions, and the first one at fault, or none.
func firstLook(p api.Program) ([]state, int) {
	l := look{machine: machineOf(p.Encodes), code: p.Code, states: make([]state, len(p.Code))}
	for routine, entry := range p.Entry {
		l.routine = routine
		if at := l.through(entry); at != none {
			return nil, at
		}
	}
	return l.states, none
}

// through: looks at all that the entry leads to, and no routine ahead did; the first one at fault, or none.
func (l *look) through(entry int) int {
	if !l.handed(entry, l.begin()) {
		return entry
	}
	for len(l.pending) > 0 {
		if at := l.lookAt(heap.Pop(&l.pending).(int)); at != none {
			return at
		}
	}
	return none
}

// lookAt: hands an instruction's states to its ways; the first one at fault, itself or a way, or none.
func (l *look) lookAt(at int) int {
	i, s, to := l.code[at], l.states[at], ways(l.code, at)
	// Targets have their form: only the next instruction may not be there.
	if !l.stands(s, i, l.routine) || slices.Contains(to, len(l.code)) {
		return at
	}
	for way, next := range to {
		if !l.handed(next, l.hands(s, i, way)) {
			return next
		}
	}
	return none
}

// handed: gives an instruction a state, unless it has one; may it be come to so?
func (l *look) handed(at int, s state) bool {
	own := l.states[at]
	if own == s {
		return true
	}
	if own.place == nowhere {
		l.states[at] = s
		heap.Push(&l.pending, at)
		return true
	}
	return l.stands(s, l.code[at], l.routine) && l.handsTheSame(at, own, s)
}

// handsTheSame: can nobody behind the instruction tell in which of the two states it was begun?
func (l *look) handsTheSame(at int, own, other state) bool {
	i := l.code[at]
	for way := range ways(l.code, at) {
		if l.hands(own, i, way) != l.hands(other, i, way) {
			return false
		}
	}
	return true
}

// numbers: a heap, the least one first.
type numbers []int

func (n numbers) Len() int           { return len(n) }
func (n numbers) Less(i, j int) bool { return n[i] < n[j] }
func (n numbers) Swap(i, j int)      { n[i], n[j] = n[j], n[i] }

// Push: behind the others, as package heap wants it.
func (n *numbers) Push(x any) { *n = append(*n, x.(int)) }

// Pop: the last one, as package heap wants it.
func (n *numbers) Pop() any {
	last := len(*n) - 1
	x := (*n)[last]
	*n = (*n)[:last]
	return x
}
