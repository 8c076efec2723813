package cost

import (
	"cmp"
	"slices"

	"mortise/api"
)

// unknown: below every depth.
const unknown = -1

// depths: what is known of how deep types call types.
type depths struct {
	code  []api.Instr
	types []int   // the depths of the types so far
	below []int   // of each instruction the greatest depth of the types that are called from it on, or unknown
	seen  []bool  // of each instruction whether it lies in the routine of a type so far
	back  [][]int // of each instruction those of which it is a way
}

// call: a depth, and an instruction from which on a type of that depth is called.
type call struct{ at, depth int }

// deepest: the greatest depth of the types, which call those ahead of them alone.
func deepest(p api.Program) int {
	n := len(p.Code)
	d := depths{code: p.Code, below: slices.Repeat([]int{unknown}, n), seen: make([]bool, n), back: make([][]int, n)}
	for _, entry := range p.Entry {
		d.look(entry)
		d.types = append(d.types, 1+d.below[entry])
	}
	return greatest(d.types)
}

// look: finds what is below each instruction of a routine that lies in no routine ahead. The deepest call comes first: what leads to it needs no other.
func (d *depths) look(entry int) {
	var found []call
	for _, at := range d.fresh(entry) {
		found = append(found, call{at, d.called(at)})
	}
	slices.SortFunc(found, func(a, b call) int { return cmp.Compare(b.depth, a.depth) })
	for _, c := range found {
		d.lead(c)
	}
}

// fresh: the instructions of a routine that were not seen ahead; they are seen then.
func (d *depths) fresh(entry int) []int {
	var found []int
	work := []int{entry}
	for len(work) > 0 {
		at := work[len(work)-1]
		work = work[:len(work)-1]
		if d.seen[at] {
			continue
		}
		d.seen[at] = true
		found = append(found, at)
		for _, to := range ways(d.code, at) {
			d.back[to] = append(d.back[to], at)
			work = append(work, to)
		}
	}
	return found
}

// called: the greatest depth of the type that the instruction calls, and of those that are called from a way of it on that lies in a routine ahead.
func (d *depths) called(at int) int {
	most := 0
	if i := d.code[at]; calls(i.Op) {
		most = d.types[i.C]
	}
	for _, to := range ways(d.code, at) {
		most = max(most, d.below[to])
	}
	return most
}

// lead: all from which ways lead to the call, and to no deeper one, have its depth below them.
func (d *depths) lead(c call) {
	work := []int{c.at}
	for len(work) > 0 {
		at := work[len(work)-1]
		work = work[:len(work)-1]
		if d.below[at] == unknown {
			d.below[at] = c.depth
			work = append(work, d.back[at]...)
		}
	}
}
