package raise

// The encoder's instructions, as chapter 14 numbers them: code hands its own numbers to nobody.
const (
	opNumber = 33 + iota
	opNumbers
	opFlag
	opLeb
	opMany
	opUpto
	opFields
	opMaybe
	opChoice
	opRoom
	opSlot
	opEnter
	opEach
	opAppend
	opAgain
)

// Those that both machines have.
const (
	opArm  = 9
	opJump = 19
	opRet  = 20
)
