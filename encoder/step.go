package encoder

import "mortise/api"

// own: in place of an operand, that it goes by the frame's turn, or by its node's kids.
const own = -1

// step: the instruction whose turn it is; whether the program is through with it.
func (m *machine) step() bool {
	i := m.code[m.frame.At]
	m.frame.At++
	switch i.Op {
	case opNumber:
		// Numbers, of which there is one.
		i = api.Instr{A: m.place(i.A, i.B), B: 1, C: i.B}
		fallthrough
	case opNumbers:
		for k := range i.B {
			m.write(i.A+k*i.C, i.C, m.number(i.C))
		}
	case opFlag:
		m.write(m.place(i.A, 1), 1, m.take(api.NodeBool).N)
	case opLeb:
		m.leb(m.take(api.NodeUint).N)
	case opMany:
		m.insist(m.next(api.NodeSeq).Kids >= i.A, api.ErrItems)
		fallthrough
	case opUpto:
		m.insist(m.next(api.NodeSeq).Kids <= i.A, api.ErrItems)
		m.goInto()
	case opFields:
		m.insist(m.next(api.NodeStruct).Kids == i.A, api.ErrItems)
		m.goInto()
	case opMaybe:
		m.maybe(i.B)
	case opChoice:
		m.choice(i.A)
	case opRoom:
		m.room(i.A)
	case opSlot:
		m.slot(i.A)
	case opAppend:
		m.turn()
		m.call(i.C, m.length)
	case opEach:
		i.A *= m.turn()
		fallthrough
	case opEnter:
		m.call(i.C, m.frame.Base+i.A)
	case opAgain:
		if m.frame.Next >= m.kids() {
			break
		}
		fallthrough
	case opJump:
		m.frame.At = i.B
	case opRet:
		return m.ret()
	}
	return false
}

// place: that an operand names, or the one of the kid whose turn it is, each kid having so many bytes.
func (m *machine) place(operand, bytes int) int {
	if operand == own {
		return bytes * m.turn()
	}
	return operand
}

func (m *machine) maybe(target int) {
	kids := m.take(api.NodeOption).Kids
	m.write(0, 1, uint64(kids))
	if kids == 0 {
		m.frame.At = target
	}
}

// choice: the arms stand behind it.
func (m *machine) choice(arms int) {
	tag := m.next(api.NodeUnion).N
	for _, arm := range m.code[m.frame.At:][:arms] {
		if uint64(arm.A) == tag {
			m.taken++
			m.write(0, 1, tag)
			m.frame.At = arm.B
			return
		}
	}
	m.giveUp(api.ErrArm)
}

func (m *machine) room(bytes int) {
	if bytes == own {
		bytes = offsetBytes * m.kids()
	}
	m.growTo(m.frame.Base + bytes)
}

func (m *machine) slot(place int) {
	if place == own {
		place = offsetBytes * m.frame.Next
	}
	// Four bytes hold the lowest 32 bits alone; in made-up code the frame may begin behind the output.
	m.write(place, offsetBytes, uint64(uint32(m.behind())))
}
