package code

import "mortise/api"

// Kinds of operands: two are of one kind, if they have the same bounds wherever they stand.
const (
	unnamed = iota
	kid
	firstKid // of a run: it stands for itself, never for the next one
	width
	run
	first
	count
	fields
	arms
	tag
	part
	place
	placeOrNext // -1 says: by Next
	room
	size
	target
	typeNumber
)

// kinds: of an instruction's A, B and C.
type kinds [3]int

// operands: as a list, since bytes and text take them in the order A, B, C.
func operands(i api.Instr) [3]int { return [3]int{i.A, i.B, i.C} }

// kindsOf: of an instruction of either machine.
func kindsOf(op int) kinds {
	if op < opNumber {
		return decoderKinds(op)
	}
	return encoderKinds(op)
}

// decoderKinds: those that both machines have are told here.
func decoderKinds(op int) kinds {
	switch op {
	case opUint:
		return kinds{kid, width}
	case opUints:
		return kinds{firstKid, run, width}
	case opBool, opVarint:
		return kinds{kid}
	case opUnion:
		return kinds{arms}
	case opArm:
		return kinds{tag, target}
	case opOffset:
		return kinds{first}
	case opFirst, opItem, opLess:
		return kinds{count, target}
	case opOption, opSlots, opParts, opJump:
		return kinds{unnamed, target}
	case opCall:
		return kinds{kid, unnamed, typeNumber}
	case opPart:
		return kinds{kid, part, typeNumber}
	case opTail:
		return kinds{part}
	}
	return kinds{}
}

// encoderKinds: of those that the encoder alone has.
func encoderKinds(op int) kinds {
	switch op {
	case opNumber:
		return kinds{placeOrNext, width}
	case opNumbers:
		return kinds{place, run, width}
	case opFlag, opSlot:
		return kinds{placeOrNext}
	case opMany, opUpto:
		return kinds{count}
	case opFields:
		return kinds{fields}
	case opMaybe, opAgain:
		return kinds{unnamed, target}
	case opChoice:
		return kinds{arms}
	case opRoom:
		return kinds{room}
	case opEnter:
		return kinds{place, unnamed, typeNumber}
	case opEach:
		return kinds{size, unnamed, typeNumber}
	case opAppend:
		return kinds{unnamed, unnamed, typeNumber}
	}
	return kinds{}
}

// bounds: the least and the greatest number that an operand of that kind may be in the program.
func bounds(p api.Program, kind int) (least, most int) {
	switch kind {
	case kid, part:
		return -1, api.MaxFields - 1
	case firstKid:
		return 0, api.MaxFields - 1
	case width:
		return 1, 8
	case run:
		return 2, api.MaxFields
	case first:
		return 4, api.MaxSize
	case count:
		return 1, api.MaxCount
	case fields:
		return 1, api.MaxFields
	case arms:
		return 1, api.MaxArms
	case tag:
		return 0, 255
	case place:
		return 0, api.MaxSize - 1
	case placeOrNext:
		return -1, api.MaxSize - 1
	case room:
		return -1, api.MaxSize
	case size:
		return 1, api.MaxSize
	case target:
		return 0, len(p.Code) - 1
	case typeNumber:
		return 0, len(p.Entry) - 1
	}
	return 0, 0
}

// allows: may an operand of that kind be the number?
func allows(p api.Program, kind, n int) bool {
	least, most := bounds(p, kind)
	if n < least || n > most {
		return false
	}
	switch kind {
	case width:
		// Of the numbers from 1 to 8 the powers of two have one bit alone.
		return n&(n-1) == 0
	case room:
		return n != 0
	}
	return true
}
