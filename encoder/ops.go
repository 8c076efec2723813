package encoder

// The encoder's instructions, as chapter 14 numbers them: code hands its own numbers to nobody.
const (
	opNumber = 33 + iota
	opNumbers
	opFlag
	opLeb
	opMany
	opUpto
	opFields
	opMaybe
	opChoice
	opRoom
	opSlot
	opEnter
	opEach
	opAppend
	opAgain
)

// Those that both machines have. (An arm does nothing.)
const (
	opJump = 19 + iota
	opRet
)

const offsetBytes = 4
