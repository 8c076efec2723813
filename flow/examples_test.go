package flow_test

import "testing"

// The chapter's table. L is type 1, since a call's type is below its routine's; T, of five bytes, is type 0.
const lists = "0: seq; item 9 4; call -1 0; jump 1; ret; 5: struct; uint 0 4; uint 1 1; ret | 5 0"

func TestExamplesOfTargets(t *testing.T) {
	p := written(false, lists)
	targetsAre(t, p, 0, 1)
	targetsAre(t, p, 1, 2, 4)
	targetsAre(t, p, 3, 1)
	targetsAre(t, p, 4)
	nowhere(t, p, 99)
}

func TestExamplesOfBlocks(t *testing.T) {
	p := written(false, lists)
	reachIs(t, p, 0, 1, 2, 3, 4, 5, 6, 7, 8)
	blocksAre(t, p, 0, 1, 2, 4, 5)
}

func TestExamplesOfThread(t *testing.T) {
	threadIs(t,
		written(false, "seq; item 9 6; call -1 0; jump 1; ret; ret; jump 7; jump 4; a: struct; uint 0 4; uint 1 1; ret | a 0"),
		written(false, "seq; item 9 4; call -1 0; jump 1; ret; ret; jump 4; jump 4; a: struct; uint 0 4; uint 1 1; ret | a 0"))
	threadIs(t,
		written(false, "jump 2; ret; bool -1; ret | 0"),
		written(false, "jump 2; ret; bool -1; ret | 2"))
	// A ret that is the entry's end has no node to give: sound.Verify's fault comes first.
	faultIs(t, written(false, "jump 2; ret; ret | 0"), bad(2))
	faultIs(t, written(true, "jump 2; ret; ret | 0"), bad(2))
	p := written(false, "seq; item 9 4; bool -1; jump 1; ret; ret; ret; ret; jump 9; jump 8 | 0")
	threadIs(t, p, p)
	modelAll(t, p)
}
