package fuse

import "mortise/api"

// joined: the code in which each run is one instruction, its targets not turned yet, and of each old number the new one.
func joined(p api.Program) (code []api.Instr, now []int) {
	now = make([]int, len(p.Code))
	starts := runs(p)
	for n, start := range starts {
		end := len(p.Code)
		if n+1 < len(starts) {
			end = starts[n+1]
		}
		// No target leads to a further one of a run: so it doesn't matter what these are turned into.
		for at := start; at < end; at++ {
			now[at] = n
		}
		code = append(code, whole(p.Code[start:end]))
	}
	return code, now
}

// runs: where the code's runs begin; what is no number instruction is by itself.
func runs(p api.Program) []int {
	marked := marks(p)
	var starts []int
	next := 0
cut:
	for at := 0; at < len(p.Code); at = next {
		starts = append(starts, at)
		run := fieldsOf(p.Code[at])
		for next = at + 1; next < len(p.Code); next++ {
			more := fieldsOf(p.Code[next])
			if marked[next] || !more.goesOn(run) {
				continue cut
			}
			run.many += more.many
			if !run.haveForm() {
				continue cut
			}
		}
	}
	return starts
}

// marks: of each instruction, whether a target or an entry leads to it.
func marks(p api.Program) []bool {
	marked := make([]bool, len(p.Code))
	for _, i := range p.Code {
		if hasTarget(i.Op) {
			marked[i.B] = true
		}
	}
	for _, entry := range p.Entry {
		marked[entry] = true
	}
	return marked
}

// whole: the one instruction that does what a run does.
func whole(run []api.Instr) api.Instr {
	if len(run) == 1 {
		return run[0]
	}
	all := fieldsOf(run[0])
	for _, i := range run[1:] {
		all.many += fieldsOf(i).many
	}
	return api.Instr{Op: opOfMany(run[0].Op), A: all.first, B: all.many, C: all.width}
}

// opOfMany: of a number instruction the one of its machine that has several fields.
func opOfMany(op int) int {
	if op == opUint || op == opUints {
		return opUints
	}
	return opNumbers
}
