package lower

import "mortise/api"

const (
	// next: of kids and parts the one whose turn it is.
	next = -1
	// only: the one kid of an option or union.
	only = 0
	// offsetBytes: how many tell where a variable item begins.
	offsetBytes = 4
)

// routine lays that of a type.
func (b *builder) routine(number int) {
	b.entry = append(b.entry, len(b.code))
	t := b.types[number]
	kid, of := next, number
	var end mark
	switch t.Kind {
	case api.KindOption:
		b.layTo(opOption, 0, &end)
		kid, of = only, t.Elem
		fallthrough
	case api.KindUint, api.KindBool, api.KindVarint:
		b.read(kid, of)
	case api.KindVector, api.KindList:
		b.items(number, &end)
	case api.KindUnion:
		b.arms(t.Parts, &end)
	case api.KindStruct:
		b.fields(t.Parts, b.layouts[number])
	}
	b.set(&end)
	b.lay(api.Instr{Op: opRet})
}

// read lays the instruction by which a kid of a type is read.
func (b *builder) read(kid, number int) {
	switch t := b.types[number]; t.Kind {
	case api.KindUint:
		b.lay(api.Instr{Op: opUint, A: kid, B: t.N})
	case api.KindBool:
		b.lay(api.Instr{Op: opBool, A: kid})
	case api.KindVarint:
		b.lay(api.Instr{Op: opVarint, A: kid})
	default:
		b.lay(api.Instr{Op: opCall, A: kid, C: number})
	}
}

// items: of a vector or list.
func (b *builder) items(number int, end *mark) {
	b.lay(api.Instr{Op: opSeq})
	// The one slot stands for all items.
	if l := b.layouts[number]; l.Slots[0].Variable {
		b.variableItems(b.types[number], l.Size, end)
	} else {
		b.fixedItems(b.types[number], end)
	}
}

func (b *builder) fixedItems(t api.Type, end *mark) {
	var again mark
	b.set(&again)
	if t.Kind == api.KindList {
		b.layTo(opItem, t.N, end)
		b.read(next, t.Elem)
		b.layTo(opJump, 0, &again)
		return
	}
	b.read(next, t.Elem)
	b.layTo(opLess, t.N, &again)
}

// variableItems: first is the offset of a vector's first item; of a list, which may have none, the first offset is read by an instruction of its own.
func (b *builder) variableItems(t api.Type, first int, end *mark) {
	var offset, slots, part, parts mark
	if t.Kind == api.KindList {
		b.layTo(opFirst, t.N, end)
		b.layTo(opJump, 0, &slots)
		first = offsetBytes
	}
	b.set(&offset)
	b.lay(api.Instr{Op: opOffset, A: first})
	b.set(&slots)
	b.layTo(opSlots, 0, &offset)
	b.layTo(opJump, 0, &parts)
	b.set(&part)
	b.lay(api.Instr{Op: opPart, A: next, B: next, C: t.Elem})
	b.lay(api.Instr{Op: opTail, A: next})
	b.set(&parts)
	b.layTo(opParts, 0, &part)
}

// arms: of a union; all but the last one must go past those behind them to the end.
func (b *builder) arms(arms []api.Part, end *mark) {
	b.lay(api.Instr{Op: opUnion, A: len(arms)})
	reads := make([]mark, len(arms))
	for i := range len(arms) {
		b.layTo(opArm, arms[i].Tag, &reads[i])
	}
	for i := range len(arms) {
		b.set(&reads[i])
		b.read(only, arms[i].Type)
		if i < len(arms)-1 {
			b.layTo(opJump, 0, end)
		}
	}
}

// fields: of a struct: its fixed part, and then its variable fields.
func (b *builder) fields(fields []api.Part, l api.Layout) {
	b.lay(api.Instr{Op: opStruct})
	for i, f := range fields {
		if l.Slots[i].Variable {
			b.lay(api.Instr{Op: opOffset, A: l.Size})
		} else {
			b.read(i, f.Type)
		}
	}
	part := 0
	for i, f := range fields {
		if l.Slots[i].Variable {
			b.lay(api.Instr{Op: opPart, A: i, B: part, C: f.Type})
			b.lay(api.Instr{Op: opTail, A: part})
			part++
		}
	}
}
