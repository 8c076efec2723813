package flow

// The instructions by which code doesn't just go on with the next one, as chapter 14 numbers them: code hands its own numbers to nobody.
const (
	opOption = 7 + iota
	opUnion
	opArm
	_ // an offset goes on
	opFirst
	opSlots
	opItem
	opLess
	opParts
)

const (
	opJump = 19 + iota
	opRet
)

const (
	opMaybe = 40 + iota
	opChoice
)

const opAgain = 47

// hasTarget: whether B is the number of an instruction.
func hasTarget(op int) bool {
	switch op {
	case opOption, opArm, opFirst, opSlots, opItem, opLess, opParts, opJump, opMaybe, opAgain:
		return true
	}
	return false
}
