package fuse

// The instructions that this layer looks at, as chapter 14 numbers them: code hands its own numbers to nobody.
const (
	opUint = 1 + iota
	opUints
)

const (
	opOption = 7 + iota
	_        // a union's targets are its arms'
	opArm
	_ // an offset has no target
	opFirst
	opSlots
	opItem
	opLess
	opParts
)

const opJump = 19

const (
	opNumber = 33 + iota
	opNumbers
)

const (
	opMaybe = 40
	opAgain = 47
)

// hasTarget: whether B is the number of an instruction.
func hasTarget(op int) bool {
	switch op {
	case opOption, opArm, opFirst, opSlots, opItem, opLess, opParts, opJump, opMaybe, opAgain:
		return true
	}
	return false
}
