package decoder

import "mortise/api"

// turn: of one instruction. Each method answers what has come of it; where a byte has not come the instruction begins anew when there are more, with those that it has taken.
type turn struct {
	*Machine
	instr api.Instr
	frame api.Frame // the last one, but for its table, as the instruction changes it
}

func (t *turn) do() came {
	if t.isOverfull() {
		return amiss(api.ErrCount, t.input.At())
	}
	switch t.instr.Op {
	case opUint:
		return t.uint()
	case opUints:
		return t.uints()
	case opBool:
		return t.bool()
	case opVarint:
		return t.varint()
	case opSeq:
		return t.enter(api.NodeSeq, 0)
	case opStruct:
		return t.enter(api.NodeStruct, 0)
	case opOption:
		return t.option()
	case opUnion:
		return t.union()
	case opOffset:
		return t.offset()
	case opFirst:
		return t.first()
	case opSlots:
		return t.slots()
	case opItem:
		return t.item()
	case opLess:
		return t.leadsIf(t.frame.Next < t.instr.A)
	case opParts:
		return t.leadsIf(t.frame.Next < t.stack.Slots())
	case opCall:
		return t.call(t.kid(t.instr.A), t.frame.End)
	case opPart:
		return t.part()
	case opTail:
		return t.tail()
	case opJump:
		return leadsTo(t.instr.B)
	case opRet:
		t.stack.Pop()
		return left
	}
	return done
}

// isOverfull: whether it wants a kid, or a position of the table, behind the last one that there may be.
func (t *turn) isOverfull() bool {
	switch t.instr.Op {
	case opUint, opBool, opVarint, opCall, opPart:
		return t.instr.A == -1 && t.frame.Next >= api.MaxCount
	case opOffset, opFirst:
		return t.stack.Slots() == api.MaxCount
	}
	return false
}

// kid: the number of the kid that an operand names; of -1 the one that comes next.
func (t *turn) kid(operand int) int {
	if operand >= 0 {
		return operand
	}
	t.frame.Next++
	return t.frame.Next - 1
}

// add: a node, as a kid of the frame's node; its number.
func (t *turn) add(k, kind int, n uint64) int {
	t.made = append(t.made, made{parent: t.frame.Node, k: k, kind: kind, n: n})
	t.nodes++
	return len(t.made) - 1
}

// fill: the kid that the instruction names is there.
func (t *turn) fill(kind int, n uint64) came {
	t.add(t.kid(t.instr.A), kind, n)
	return done
}

// enter: a node is at the frame's place, and the frame goes into it.
func (t *turn) enter(kind int, n uint64) came {
	t.frame.Node, t.frame.Next = t.add(t.frame.Next, kind, n), 0
	return done
}

func (t *turn) leadsIf(so bool) came {
	if so {
		return leadsTo(t.instr.B)
	}
	return done
}

func (t *turn) uint() came {
	if c := t.take(t.instr.B); c != done {
		return c
	}
	return t.fill(api.NodeUint, number(t.word))
}

func (t *turn) uints() came {
	width := t.instr.C
	for len(t.word) < t.instr.B*width {
		if c := t.take(len(t.word) + 1); c != done {
			return c
		}
		// Each number is there with its last byte, whether those behind it come or not.
		if kids := len(t.word) / width; kids*width == len(t.word) {
			t.add(t.instr.A+kids-1, api.NodeUint, number(t.word[len(t.word)-width:]))
		}
	}
	return done
}

func (t *turn) bool() came {
	if c := t.want(isFlag, api.ErrBool); c != done {
		return c
	}
	return t.fill(api.NodeBool, number(t.word))
}

func (t *turn) varint() came {
	for {
		ahead := len(t.word)
		right := func(c byte) bool {
			return (ahead == 0 || c > 0) && (ahead < varintBytes-1 || c <= 1)
		}
		if c := t.want(right, api.ErrForm); c != done {
			return c
		}
		if t.word[ahead] < 0x80 {
			return t.fill(api.NodeUint, groups(t.word))
		}
	}
}

func (t *turn) option() came {
	if c := t.want(isFlag, api.ErrTag); c != done {
		return c
	}
	if t.word[0] == 0 {
		t.add(t.frame.Next, api.NodeOption, 0)
		return leadsTo(t.instr.B)
	}
	return t.enter(api.NodeOption, 0)
}

func (t *turn) union() came {
	var to int
	isTag := func(c byte) bool {
		for _, arm := range t.code[t.frame.At+1:][:t.instr.A] {
			if arm.A == int(c) {
				to = arm.B
				return true
			}
		}
		return false
	}
	if c := t.want(isTag, api.ErrTag); c != done {
		return c
	}
	t.enter(api.NodeUnion, number(t.word))
	return leadsTo(to)
}

func (t *turn) offset() came {
	if c := t.take(offsetBytes); c != done {
		return c
	}
	to := t.pointed()
	if slots := t.stack.Slots(); slots > 0 {
		last, _ := t.stack.Slot(slots - 1)
		return t.markIf(to >= last, to)
	}
	return t.markIf(to == t.frame.Base+t.instr.A, to)
}

func (t *turn) first() came {
	// Behind its first byte it has been asked.
	if len(t.word) == 0 {
		if c := t.unlessAtEnd(); c != done {
			return c
		}
	}
	if c := t.take(offsetBytes); c != done {
		return c
	}
	to := t.pointed()
	length := to - t.frame.Base
	right := length > 0 && length%offsetBytes == 0 && !t.isBeyond(to)
	if right && length/offsetBytes > t.instr.A {
		return amiss(api.ErrCount, t.begin())
	}
	return t.markIf(right, to)
}

func (t *turn) slots() came {
	first, e := t.stack.Slot(0)
	if e != api.OK {
		return t.lost()
	}
	return t.leadsIf(t.stack.Slots() < (first-t.frame.Base)/offsetBytes)
}

func (t *turn) item() came {
	c := t.unlessAtEnd()
	if c == done && t.frame.Next >= t.instr.A {
		return amiss(api.ErrCount, t.input.At())
	}
	return c
}

func (t *turn) part() came {
	if t.instr.A >= 0 {
		return t.call(t.instr.A, t.partEnd(t.instr.B))
	}
	k := t.kid(-1)
	return t.call(k, t.partEnd(k))
}

// call: the frame goes on behind the call when the one that is laid on it is gone.
func (t *turn) call(k, end int) came {
	inner := api.Frame{
		Routine: t.instr.C,
		At:      t.entry[t.instr.C],
		Base:    t.input.At(),
		End:     end,
		Node:    t.frame.Node,
		Next:    k,
	}
	t.frame.At++
	t.stack.Go(t.frame)
	if t.stack.Push(inner) != api.OK {
		return t.lost()
	}
	return left
}

func (t *turn) tail() came {
	part := t.instr.A
	if part < 0 {
		part = t.frame.Next - 1
	}
	if at := t.input.At(); at < t.partEnd(part) {
		return amiss(api.ErrTail, at)
	}
	return done
}

// partEnd: where the part ends: at the position behind its own, or with the frame's window. An open end is below all positions.
func (t *turn) partEnd(part int) int {
	end, e := t.stack.Slot(part + 1)
	if e != api.OK {
		return t.frame.End
	}
	return end
}
