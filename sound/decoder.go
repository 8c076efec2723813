package sound

import (
	"math/bits"

	"mortise/api"
)

// decoder: what its instructions want, and what they hand on.
type decoder struct{}

// begin: the state of a routine's first instruction.
func (decoder) begin() state { return state{place: empty} }

// shape: the place as a number, a struct's with how many kids are filled.
func (decoder) shape(s state) int {
	switch s.place {
	case nowhere:
		return -1
	case empty:
		return 0
	case full:
		return 1
	}
	return 2 + bits.OnesCount64(s.kids)
}

// stands: is what the instruction wants sure in that state, within the routine of that type?
func (decoder) stands(s state, i api.Instr, routine int) bool {
	switch i.Op {
	case opPart:
		if i.A == -1 {
			return s.place == inSeq && s.free == aPart && i.C < routine
		}
		if s.place != inStruct || i.B != s.parts || i.B >= s.table {
			return false
		}
		fallthrough
	case opCall:
		if i.C >= routine {
			return false
		}
		fallthrough
	case opUint, opBool, opVarint:
		_, can := fill(s, i.A)
		return can
	case opUints:
		_, can := fillRun(s, i.A, i.B)
		return can
	case opSeq, opStruct, opOption, opUnion:
		return s.place == empty
	case opOffset:
		return hasPosition(s, i.A)
	case opFirst:
		return s.place == inSeq && s.table == 0
	case opItem, opLess:
		return s.place == inSeq
	case opTail:
		if i.A >= 0 {
			return s.place == inStruct && i.A < s.parts
		}
		fallthrough
	case opSlots, opParts:
		return s.place == inSeq && s.table == manyPositions
	case opRet:
		return isWhole(s)
	}
	return i.Op == opJump
}

// fill: the state with a kid filled, and whether it can be. One that can't be leaves the place as it is.
func fill(s state, kid int) (state, bool) {
	found := s.free
	s.free = nothing
	switch s.place {
	case empty:
		if kid != -1 {
			return s, false
		}
		s.place = full
	case inOne:
		if kid > 0 {
			return s, false
		}
		s.place = full
	case inSeq:
		return s, kid == -1 && (found == anything || found == aKid)
	case inStruct:
		if kid == -1 || s.kids>>kid&1 == 1 {
			return s, false
		}
		s.kids |= 1 << kid
	default:
		return s, false
	}
	return s, true
}

// fillRun: the state with so many kids filled, up to the first one that can't be.
func fillRun(s state, kid, many int) (state, bool) {
	for k := range many {
		next, can := fill(s, kid+k)
		if !can {
			return next, false
		}
		s = next
	}
	return s, true
}

// hasPosition: is there a position more in the table? A node that was just gone into has as many as its first one says, which must be no more than a sequence may have.
func hasPosition(s state, first int) bool {
	if s.place == inStruct {
		return s.parts == 0 && s.table < api.MaxFields
	}
	return s.place == inSeq && (s.free == aSlot || s.free == anything && first <= 4*api.MaxCount)
}

// isWhole: is the frame's node there with all its kids? Those of a struct are, if their bits are ones without a gap.
func isWhole(s state) bool {
	switch s.place {
	case full, inSeq:
		return true
	case inStruct:
		return s.kids != 0 && s.kids&(s.kids+1) == 0
	}
	return false
}

// hands: the state in which a way of the instruction is come to, by the way's number.
func (decoder) hands(s state, i api.Instr, way int) state {
	next := s
	next.free = nothing
	switch i.Op {
	case opJump:
		return s
	case opPart:
		if i.A == -1 {
			break
		}
		s.parts++
		fallthrough
	case opUint, opBool, opVarint, opCall:
		next, _ = fill(s, i.A)
	case opUints:
		next, _ = fillRun(s, i.A, i.B)
	case opSeq:
		next.place, next.kids, next.free = inSeq, 0, anything
	case opStruct:
		next.place, next.kids = inStruct, 0
	case opOption, opUnion:
		next.place, next.kids = inOne, 0
		if i.Op == opOption && way == toTarget {
			next.place = full
		}
	case opOffset, opFirst:
		next.table = tableBehind(s, i, way)
	default:
		next.free = foundFree(i, way)
	}
	return next
}

// tableBehind: what an instruction that reads a position makes of the table. First reads none, if it goes on at its target.
func tableBehind(s state, i api.Instr, way int) int {
	switch {
	case i.Op == opFirst && way == toTarget:
		return s.table
	case i.Op == opOffset && s.place == inStruct:
		return s.table + 1
	}
	return manyPositions
}

// foundFree: what is free behind an instruction that asks whether there is one more.
func foundFree(i api.Instr, way int) free {
	switch {
	case i.Op == opItem && way == toNext, i.Op == opLess && way == toTarget:
		return aKid
	case i.Op == opSlots && way == toTarget:
		return aSlot
	case i.Op == opParts && way == toTarget:
		return aPart
	}
	return nothing
}
