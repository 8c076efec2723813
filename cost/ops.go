package cost

import "mortise/api"

// The decoder's instructions, as chapter 14 numbers them: code hands its own numbers to nobody.
const (
	opUint = 1 + iota
	opUints
	opBool
	opVarint
	opSeq
	opStruct
	opOption
	opUnion
	_ // an arm lies in no routine
	opOffset
	opFirst
	opSlots
	opItem
	opLess
	opParts
	opCall
	opPart
	_ // a tail goes on with the next one, as all do of which nothing else is said
	opJump
	opRet
)

// takes: whether the instruction is never done without a byte. First may be, so it is none of them.
func takes(op int) bool {
	switch op {
	case opUint, opUints, opBool, opVarint, opOption, opUnion, opOffset:
		return true
	}
	return false
}

// calls: whether C is a type whose routine is called.
func calls(op int) bool { return op == opCall || op == opPart }

// steps: how many an instruction counts.
func steps(int) int { return 1 }

// nodes: how many an instruction makes. Of uints each but the first is paid for by bytes of its own.
func nodes(op int) int {
	switch op {
	case opUint, opUints, opBool, opVarint, opSeq, opStruct, opOption, opUnion:
		return 1
	}
	return 0
}

// ways: with which instructions the one at a number may go on, as chapter 15 has it.
func ways(code []api.Instr, at int) []int {
	i := code[at]
	switch i.Op {
	case opJump:
		return []int{i.B}
	case opRet:
		return nil
	case opUnion:
		return armTargets(code[at+1 : at+1+i.A])
	case opOption, opFirst, opSlots, opItem, opLess, opParts:
		return []int{at + 1, i.B}
	}
	return []int{at + 1}
}

func armTargets(arms []api.Instr) []int {
	targets := make([]int, len(arms))
	for k, arm := range arms {
		targets[k] = arm.B
	}
	return targets
}

// bare: with which ones it may go on without a byte. Each round of parts has a position, whose bytes have paid for it.
func bare(code []api.Instr, at int) []int {
	i := code[at]
	switch {
	case takes(i.Op):
		return nil
	case i.Op == opFirst:
		return []int{i.B}
	case i.Op == opParts:
		return []int{at + 1}
	}
	return ways(code, at)
}
