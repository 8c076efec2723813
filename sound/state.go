package sound

import "mortise/api"

// place: how far a frame has come with its node.
type place int

const (
	nowhere place = iota // of an instruction that was not come to: it has no state
	inSeq                // both machines have it

	// The decoder's.
	empty
	inStruct
	inOne // the node of an option or union
	full

	// The encoder's.
	wants
	inLeft
)

// free: what a decoder in a NodeSeq has just found to be there.
type free int

const (
	nothing free = iota
	anything
	aKid
	aSlot
	aPart
)

// manyPositions: a table of which nothing more is known.
const manyPositions = -1

// state: what is sure whenever a machine begins an instruction. What a place doesn't have is zero in it, so that two are the same just if all fields are.
type state struct {
	place place
	kids  uint64 // of inStruct: a bit for each kid that is filled
	table int    // of a decoder: how many positions, or manyPositions
	parts int    // of a decoder: how many explicit parts have been called
	free  free   // of a decoder in inSeq
	left  int    // of inLeft: how many kids are not taken
	sure  bool   // of an encoder in inSeq: there is a kid that isn't taken
}

// machine: what a state is to one of the two. A state in which an instruction can't stand is handed on too: it is held against another one.
type machine interface {
	begin() state
	stands(s state, i api.Instr, routine int) bool
	hands(s state, i api.Instr, way int) state
	shape(s state) int
}

func machineOf(encodes bool) machine {
	if encodes {
		return encoder{}
	}
	return decoder{}
}
