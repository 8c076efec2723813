package flow

import "mortise/api"

// What is known of where an instruction's jumps lead, where it is no number.
const (
	unknown = -1 - iota
	open    // it is being gone through
)

// endsOf: of each instruction's number its end, as that of a target. Each jump is gone through once, however many lead to it.
func endsOf(code []api.Instr) []int {
	ends := make([]int, len(code))
	for at, i := range code {
		ends[at] = at
		if i.Op == opJump {
			ends[at] = unknown
		}
	}
	for at := range code {
		settle(code, ends, at)
	}
	return ends
}

// settle: finds the ends of the jumps that lead on from an instruction, up to one whose end is known.
func settle(code []api.Instr, ends []int, at int) {
	var work []int
	for ends[at] == unknown {
		ends[at] = open
		work = append(work, at)
		at = code[at].B
	}
	end := ends[at]
	// An end that is a jump itself is in a ring or leads into one, as do all that lead to it.
	round := end == open || code[end].Op == opJump
	for len(work) > 0 {
		jump := work[len(work)-1]
		work = work[:len(work)-1]
		ends[jump] = end
		if round {
			ends[jump] = jump
		}
	}
}

// turned: a copy in which each target and each entry is what the function answers of it.
func turned(p api.Program, of func(target int) int) api.Program {
	q := api.Program{Encodes: p.Encodes, Code: append([]api.Instr(nil), p.Code...)}
	for at, i := range q.Code {
		if hasTarget(i.Op) {
			q.Code[at].B = of(i.B)
		}
	}
	for _, entry := range p.Entry {
		q.Entry = append(q.Entry, of(entry))
	}
	return q
}
