package sound

import "mortise/api"

// encoder: what its instructions want, and what they hand on.
type encoder struct{}

// begin: the state of a routine's first instruction.
func (encoder) begin() state { return state{place: wants} }

// shape: the place as a number, with how many kids are left; a sequence, which doesn't tell how many, is above them all.
func (encoder) shape(s state) int {
	switch s.place {
	case nowhere:
		return -1
	case wants:
		return 0
	case inLeft:
		return 1 + s.left
	}
	return api.MaxFields + 2
}

// kidsLeft, seq: the states in which a node was taken.
func kidsLeft(n int) state { return state{place: inLeft, left: n} }
func seq(sure bool) state  { return state{place: inSeq, sure: sure} }

// stands: is what the instruction wants sure in that state, within the routine of that type?
func (encoder) stands(s state, i api.Instr, routine int) bool {
	switch i.Op {
	case opEnter, opEach, opAppend:
		if i.C >= routine {
			return false
		}
		fallthrough
	case opNumber, opNumbers, opFlag, opLeb:
		_, can := taken(s, i)
		return can
	case opMany, opUpto, opFields, opMaybe, opChoice:
		return s.place == wants
	case opRoom:
		return s.place == inSeq || s.place == inLeft && i.A != -1
	case opSlot:
		if i.A != -1 {
			return s.place == inLeft
		}
		return s == seq(true)
	case opAgain:
		return s.place == inSeq
	case opRet:
		return s == kidsLeft(0)
	}
	return i.Op == opJump
}

// taken: the state behind an instruction that takes its kids, and whether they are there.
func taken(s state, i api.Instr) (state, bool) {
	switch i.Op {
	case opNumbers:
		return take(s, i.B)
	case opNumber, opFlag:
		if i.A != -1 {
			return take(s, 1)
		}
		fallthrough
	case opEach:
		return takeByTurns(s)
	case opAppend:
		if s.place == inSeq {
			return takeByTurns(s)
		}
	}
	return take(s, 1)
}

// take: so many kids less. Less than none that are left is a state that no instruction ever has.
func take(s state, many int) (state, bool) {
	switch {
	case s.place == wants && many == 1:
		return kidsLeft(0), true
	case s.place == inLeft:
		s.left -= many
		return s, s.left >= 0
	}
	return s, false
}

// takeByTurns: whether there was a kid or not, behind it no further one is sure.
func takeByTurns(s state) (state, bool) {
	can := s == seq(true)
	s.sure = false
	return s, can
}

// hands: the state in which a way of the instruction is come to, by the way's number.
func (encoder) hands(s state, i api.Instr, way int) state {
	switch i.Op {
	case opEnter, opEach, opAppend, opNumber, opNumbers, opFlag, opLeb:
		next, _ := taken(s, i)
		return next
	case opMany, opUpto:
		return seq(i.Op == opMany)
	case opFields:
		return kidsLeft(i.A)
	case opMaybe:
		if way == toTarget {
			return kidsLeft(0)
		}
		fallthrough
	case opChoice:
		return kidsLeft(1)
	case opAgain:
		if way == toTarget {
			return seq(true)
		}
		return kidsLeft(0)
	}
	return s
}
