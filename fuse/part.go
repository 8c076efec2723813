package fuse

import "mortise/api"

// singles: how many instructions there are, each field by its own.
func singles(code []api.Instr) int {
	all := 0
	for _, i := range code {
		all += max(1, fieldsOf(i).many)
	}
	return all
}

// parted: the code in which each field has an instruction of its own, its targets not turned yet, and of each old number the new one.
func parted(old []api.Instr) (code []api.Instr, now []int) {
	now = make([]int, len(old))
	for at, i := range old {
		now[at] = len(code)
		switch i.Op {
		case opUints:
			code = appendEach(code, opUint, fieldsOf(i))
		case opNumbers:
			code = appendEach(code, opNumber, fieldsOf(i))
		default:
			code = append(code, i)
		}
	}
	return code, now
}

// appendEach: an instruction for each field behind the code.
func appendEach(code []api.Instr, op int, f fields) []api.Instr {
	for k := range f.many {
		code = append(code, api.Instr{Op: op, A: f.first + k*f.apart, B: f.width})
	}
	return code
}
