package fuse

import "mortise/api"

// fields of a number instruction: the first one's kid or place, how many there are, and their width. One is so far apart from the next: kids by one, places by the width. None may reach beyond the bound.
type fields struct {
	first, many, width int
	apart, bound       int
}

// fieldsOf: an instruction's; none, if it is no number instruction.
func fieldsOf(i api.Instr) fields {
	if i.A < 0 {
		// Which field that is is known when it is run.
		return fields{}
	}
	switch i.Op {
	case opUint:
		return fields{first: i.A, many: 1, width: i.B, apart: 1, bound: api.MaxFields}
	case opUints:
		return fields{first: i.A, many: i.B, width: i.C, apart: 1, bound: api.MaxFields}
	case opNumber:
		return fields{first: i.A, many: 1, width: i.B, apart: i.B, bound: api.MaxSize}
	case opNumbers:
		return fields{first: i.A, many: i.B, width: i.C, apart: i.C, bound: api.MaxSize}
	}
	return fields{}
}

// behind: the kid or place behind the last field.
func (f fields) behind() int {
	return f.first + f.many*f.apart
}

// goesOn: whether these fields are those that come behind others.
func (f fields) goesOn(ahead fields) bool {
	return f.many > 0 && ahead.many > 0 && f.width == ahead.width && f.first == ahead.behind()
}

// haveForm: whether one instruction may have all of them.
func (f fields) haveForm() bool {
	return f.many <= api.MaxFields && f.behind() <= f.bound
}
