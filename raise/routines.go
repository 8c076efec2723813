package raise

import "mortise/api"

const (
	// next: of places the one whose turn it is.
	next = -1
	// own: the place at which a leaf's bytes begin, if they are all that there is.
	own = 0
	// perKid: of room: an offset for each kid.
	perKid = -1
)

// raiser: lays the routines of a schema's types. In an instruction that is laid B tells a target by how far it is, ahead or (below 0) back.
type raiser struct {
	types   []api.Type
	layouts []api.Layout
	lay     func(i api.Instr)
}

// routine lays that of a type.
func (r *raiser) routine(number int) {
	t, l := r.types[number], r.layouts[number]
	switch t.Kind {
	case api.KindUint, api.KindBool:
		r.leaf(own, t)
	case api.KindVarint:
		r.lay(api.Instr{Op: opLeb})
	case api.KindVector:
		r.lay(api.Instr{Op: opMany, A: t.N})
		r.items(t, l.Slots[0])
	case api.KindList:
		r.lay(api.Instr{Op: opUpto, A: t.N})
		r.items(t, l.Slots[0])
	case api.KindOption:
		r.lay(api.Instr{Op: opMaybe, B: 2})
		r.lay(api.Instr{Op: opAppend, C: t.Elem})
	case api.KindUnion:
		r.arms(t.Parts)
	case api.KindStruct:
		r.fields(t.Parts, l)
	}
	r.lay(api.Instr{Op: opRet})
}

// leaf lays the instruction that writes a uN or bool, and tells whether the type is one of these: all other types are called.
func (r *raiser) leaf(place int, t api.Type) bool {
	switch t.Kind {
	case api.KindUint:
		r.lay(api.Instr{Op: opNumber, A: place, B: t.N})
	case api.KindBool:
		r.lay(api.Instr{Op: opFlag, A: place})
	default:
		return false
	}
	return true
}

// items: of a vector or list; the slot stands for all of them.
func (r *raiser) items(t api.Type, s api.Slot) {
	if s.Variable {
		r.variableItems(t)
	} else {
		r.fixedItems(t, s.Size)
	}
}

func (r *raiser) fixedItems(t api.Type, bytes int) {
	r.pastItem(t, 1)
	if !r.leaf(next, r.types[t.Elem]) {
		r.lay(api.Instr{Op: opEach, A: bytes, C: t.Elem})
	}
	r.lay(api.Instr{Op: opAgain, B: -1})
}

func (r *raiser) variableItems(t api.Type) {
	r.lay(api.Instr{Op: opRoom, A: perKid})
	r.pastItem(t, 2)
	r.lay(api.Instr{Op: opSlot, A: next})
	r.lay(api.Instr{Op: opAppend, C: t.Elem})
	r.lay(api.Instr{Op: opAgain, B: -2})
}

// pastItem: a list, which may have no item, asks whether there is one ahead of the first.
func (r *raiser) pastItem(t api.Type, instructions int) {
	if t.Kind == api.KindList {
		r.lay(api.Instr{Op: opJump, B: instructions + 1})
	}
}

// arms: of a union; each has two instructions of its own, and the last arm's ret is the routine's.
func (r *raiser) arms(arms []api.Part) {
	r.lay(api.Instr{Op: opChoice, A: len(arms)})
	for i, arm := range arms {
		r.lay(api.Instr{Op: opArm, A: arm.Tag, B: len(arms) - i + 2*i})
	}
	for i, arm := range arms {
		if i > 0 {
			r.lay(api.Instr{Op: opRet})
		}
		r.lay(api.Instr{Op: opAppend, C: arm.Type})
	}
}

// fields: of a struct. Room is made ahead for the whole fixed part, where something comes behind it.
func (r *raiser) fields(fields []api.Part, l api.Layout) {
	r.lay(api.Instr{Op: opFields, A: len(fields)})
	if anyVariable(l.Slots) {
		r.lay(api.Instr{Op: opRoom, A: l.Size})
	}
	for i, f := range fields {
		if s := l.Slots[i]; s.Variable {
			r.lay(api.Instr{Op: opSlot, A: s.At})
			r.lay(api.Instr{Op: opAppend, C: f.Type})
		} else if !r.leaf(s.At, r.types[f.Type]) {
			r.lay(api.Instr{Op: opEnter, A: s.At, C: f.Type})
		}
	}
}

func anyVariable(slots []api.Slot) bool {
	for _, s := range slots {
		if s.Variable {
			return true
		}
	}
	return false
}
