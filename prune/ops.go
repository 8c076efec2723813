package prune

// The instructions that name another one by its number, as chapter 14 numbers them: code hands its own numbers to nobody.
const (
	opOption = 7 + iota
	_        // of a union the next ones are the arms, whatever their numbers
	opArm
	_ // an offset has no target
	opFirst
	opSlots
	opItem
	opLess
	opParts
)

const (
	opJump  = 19
	opMaybe = 40
	opAgain = 47
)

// hasTarget: whether B is the number of an instruction.
func hasTarget(op int) bool {
	switch op {
	case opOption, opArm, opFirst, opSlots, opItem, opLess, opParts, opJump, opMaybe, opAgain:
		return true
	}
	return false
}
