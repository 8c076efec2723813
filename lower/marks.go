package lower

import "mortise/api"

// mark: an instruction that others go on at. Those that are laid ahead of it wait till its number is known.
type mark struct {
	known   bool
	number  int
	waiting []int
}

// builder: lays the routines of a schema's types one behind the other.
type builder struct {
	types   []api.Type
	layouts []api.Layout
	code    []api.Instr
	entry   []int
}

func (b *builder) lay(i api.Instr) {
	b.code = append(b.code, i)
}

// layTo lays an instruction whose target is a mark.
func (b *builder) layTo(op, a int, target *mark) {
	if !target.known {
		target.waiting = append(target.waiting, len(b.code))
	}
	b.lay(api.Instr{Op: op, A: a, B: target.number})
}

// set: the mark is the instruction that is laid next.
func (b *builder) set(m *mark) {
	m.known, m.number = true, len(b.code)
	for _, at := range m.waiting {
		b.code[at].B = m.number
	}
}
