package prune

import "mortise/api"

// numbers: of each instruction that stays the number that it has then. Those of the others are never asked for: what is reached leads to what is reached alone.
func numbers(stays []bool) []int {
	now := make([]int, len(stays))
	next := 0
	for at, is := range stays {
		now[at] = next
		if is {
			next++
		}
	}
	return now
}

// kept: the instructions that stay and all entries, in which each number of an instruction is what the function answers of it.
func kept(p api.Program, stays []bool, of func(old int) int) api.Program {
	q := api.Program{Encodes: p.Encodes}
	for at, i := range p.Code {
		if stays[at] {
			q.Code = append(q.Code, turned(i, of))
		}
	}
	for _, entry := range p.Entry {
		q.Entry = append(q.Entry, of(entry))
	}
	return q
}

// turned: an instruction in which the number of another one, if it has one, is what the function answers of it.
func turned(i api.Instr, of func(old int) int) api.Instr {
	if hasTarget(i.Op) {
		i.B = of(i.B)
	}
	return i
}
