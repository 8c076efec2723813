package decoder

import "mortise/api"

// want takes the next byte, if it has come; an error, unless it is right.
func (t *turn) want(right func(c byte) bool, e api.Errno) came {
	at := t.input.At()
	if t.frame.End != open && at >= t.frame.End {
		return amiss(api.ErrShort, at)
	}
	c, there := t.input.Take()
	if !there {
		return t.missing(at)
	}
	t.at = at + 1
	if !right(c) {
		return amiss(e, at)
	}
	t.word = append(t.word, c)
	return done
}

// missing: a byte that has not come may come as long as the input has not ended.
func (t *turn) missing(at int) came {
	if t.input.Ended() {
		return amiss(api.ErrShort, at)
	}
	return waits
}

// take: bytes of any kind, till the instruction has so many.
func (t *turn) take(n int) came {
	for len(t.word) < n {
		if c := t.want(isAny, api.OK); c != done {
			return c
		}
	}
	return done
}

// unlessAtEnd leads to the target, if nothing is left to be read.
func (t *turn) unlessAtEnd() came {
	switch {
	case t.frame.End != open:
		return t.leadsIf(t.input.At() >= t.frame.End)
	case t.input.Held() > 0:
		t.look()
		return done
	case t.input.Ended():
		return t.leadsIf(true)
	}
	return waits
}

// begin: the position of the first byte that the instruction has taken.
func (t *turn) begin() int { return t.input.At() - len(t.word) }

// pointed: where the offset that has been taken leads.
func (t *turn) pointed() int { return t.frame.Base + int(number(t.word)) }

// isBeyond: whether a position lies behind the window's end.
func (t *turn) isBeyond(at int) bool { return t.frame.End != open && at > t.frame.End }

// markIf: the position goes into the table, if that is so, and it lies in the window.
func (t *turn) markIf(so bool, at int) came {
	if !so || t.isBeyond(at) {
		return amiss(api.ErrOffset, t.begin())
	}
	if t.stack.Mark(at) != api.OK {
		return t.lost()
	}
	return done
}

func isAny(byte) bool { return true }

func isFlag(c byte) bool { return c <= 1 }

// number: of bytes, the lowest first.
func number(b []byte) (n uint64) {
	for k, c := range b {
		n |= uint64(c) << (8 * k)
	}
	return n
}

// groups: the number of a varint's bytes.
func groups(b []byte) (n uint64) {
	for k, c := range b {
		n |= uint64(c&0x7f) << (7 * k)
	}
	return n
}
