package decoder

// The decoder's instructions, as chapter 14 numbers them: code hands its own numbers to nobody.
const (
	opUint = 1 + iota
	opUints
	opBool
	opVarint
	opSeq
	opStruct
	opOption
	opUnion
	_ // an arm does nothing
	opOffset
	opFirst
	opSlots
	opItem
	opLess
	opParts
	opCall
	opPart
	opTail
	opJump
	opRet
)

const (
	offsetBytes = 4
	varintBytes = 10
)
