package sound

import "mortise/api"

// The decoder's instructions, as chapter 14 numbers them: code hands its own numbers to nobody.
const (
	opUint = 1 + iota
	opUints
	opBool
	opVarint
	opSeq
	opStruct
	opOption
	opUnion
	opArm
	opOffset
	opFirst
	opSlots
	opItem
	opLess
	opParts
	opCall
	opPart
	opTail
	opJump
	opRet
)

// The encoder's instructions.
const (
	opNumber = 33 + iota
	opNumbers
	opFlag
	opLeb
	opMany
	opUpto
	opFields
	opMaybe
	opChoice
	opRoom
	opSlot
	opEnter
	opEach
	opAppend
	opAgain
)

// The ways of an instruction that has a next instruction and a target, by their order.
const (
	toNext = iota
	toTarget
)

// ways: the numbers of the instructions with which the one at a number may go on, in their order. The next one may be no instruction's.
func ways(code []api.Instr, at int) []int {
	i := code[at]
	switch i.Op {
	case opJump:
		return []int{i.B}
	case opRet:
		return nil
	case opUnion, opChoice:
		return armTargets(code[at+1 : at+1+i.A])
	case opOption, opFirst, opSlots, opItem, opLess, opParts, opMaybe, opAgain:
		return []int{at + 1, i.B}
	}
	return []int{at + 1}
}

func armTargets(arms []api.Instr) []int {
	targets := make([]int, len(arms))
	for k, arm := range arms {
		targets[k] = arm.B
	}
	return targets
}
