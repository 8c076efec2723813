package code

// The decoder's instructions; the encoder's begin behind a gap, so that one of the wrong machine is told by its number.
const (
	opUint = 1 + iota
	opUints
	opBool
	opVarint
	opSeq
	opStruct
	opOption
	opUnion
	opArm
	opOffset
	opFirst
	opSlots
	opItem
	opLess
	opParts
	opCall
	opPart
	opTail
	opJump
	opRet
)

// The encoder's instructions.
const (
	opNumber = 33 + iota
	opNumbers
	opFlag
	opLeb
	opMany
	opUpto
	opFields
	opMaybe
	opChoice
	opRoom
	opSlot
	opEnter
	opEach
	opAppend
	opAgain
)

// isOf: is that the number of one of the machine's instructions?
func isOf(op int, encodes bool) bool {
	switch {
	case op == opArm, op == opJump, op == opRet:
		return true
	case encodes:
		return opNumber <= op && op <= opAgain
	}
	return opUint <= op && op <= opRet
}

// nameOf: of an instruction of either machine.
func nameOf(op int) string {
	if op < opNumber {
		return decoderName(op)
	}
	return encoderName(op)
}

// decoderName: those that both machines have are told here.
func decoderName(op int) string {
	switch op {
	case opUint:
		return "uint"
	case opUints:
		return "uints"
	case opBool:
		return "bool"
	case opVarint:
		return "varint"
	case opSeq:
		return "seq"
	case opStruct:
		return "struct"
	case opOption:
		return "option"
	case opUnion:
		return "union"
	case opArm:
		return "arm"
	case opOffset:
		return "offset"
	case opFirst:
		return "first"
	case opSlots:
		return "slots"
	case opItem:
		return "item"
	case opLess:
		return "less"
	case opParts:
		return "parts"
	case opCall:
		return "call"
	case opPart:
		return "part"
	case opTail:
		return "tail"
	case opJump:
		return "jump"
	}
	return "ret"
}

// encoderName: of those that the encoder alone has.
func encoderName(op int) string {
	switch op {
	case opNumber:
		return "number"
	case opNumbers:
		return "numbers"
	case opFlag:
		return "flag"
	case opLeb:
		return "leb"
	case opMany:
		return "many"
	case opUpto:
		return "upto"
	case opFields:
		return "fields"
	case opMaybe:
		return "maybe"
	case opChoice:
		return "choice"
	case opRoom:
		return "room"
	case opSlot:
		return "slot"
	case opEnter:
		return "enter"
	case opEach:
		return "each"
	case opAppend:
		return "append"
	}
	return "again"
}
