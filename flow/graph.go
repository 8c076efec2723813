package flow

import (
	"slices"

	"mortise/api"
)

// successors: where the instruction at a number may go on, rising, none twice.
func successors(code []api.Instr, at int) []int {
	var found []int
	i := code[at]
	if hasTarget(i.Op) {
		found = append(found, i.B)
	}
	for next := at + 1; next <= at+followers(i); next++ {
		// Behind the last one there is none: code that no entry leads to may end so.
		if next < len(code) {
			found = append(found, next)
		}
	}
	slices.Sort(found)
	return slices.Compact(found)
}

// followers: how many of the instructions right behind it are successors of one.
func followers(i api.Instr) int {
	switch i.Op {
	case opRet, opJump, opArm:
		return 0
	case opUnion, opChoice:
		return i.A
	}
	return 1
}

// reached: of each instruction, whether some entry leads to it.
func reached(p api.Program) []bool {
	found := make([]bool, len(p.Code))
	left := len(found)
	work := slices.Clone(p.Entry)
walk:
	for len(work) > 0 {
		at := work[len(work)-1]
		work = work[:len(work)-1]
		for !found[at] {
			found[at] = true
			left--
			if left == 0 {
				// Whatever is still to be gone through leads to nothing new.
				break walk
			}
			next := successors(p.Code, at)
			if len(next) == 0 {
				break
			}
			at = next[0]
			work = append(work, next[1:]...)
		}
	}
	return found
}

// beginnings: of each instruction, whether it begins a block. One behind an instruction that isn't reached, or that doesn't lead to it, is an entry or come to from elsewhere: so these two are all that is asked, and whether the one ahead branches.
func beginnings(p api.Program) []bool {
	begins := make([]bool, len(p.Code))
	for _, entry := range p.Entry {
		begins[entry] = true
	}
	for at, is := range reached(p) {
		if !is {
			continue
		}
		next := successors(p.Code, at)
		for _, to := range next {
			if to != at+1 || len(next) > 1 {
				begins[to] = true
			}
		}
	}
	return begins
}
