package sound

import (
	"slices"

	"mortise/api"
)

// paths: what the second look knows of the instructions that the first one came to.
type paths struct {
	program api.Program
	states  []state
	// quiet: can a ret be come to from here, and nothing takes but parts of a sequence? A type whose Entry is so doesn't pay.
	quiet []bool
	// back: from which instructions a bare way of one step leads here.
	back [][]int
}

// secondLook: the first instruction at fault, or none.
func secondLook(p api.Program, states []state) int {
	g := paths{program: p, states: states, quiet: make([]bool, len(states))}
	g.findQuiet()
	g.back = g.reversed(g.bare)
	rings, leads := g.rings(), g.leads()
	seen := make([]bool, len(p.Code))
	for _, entry := range p.Entry {
		least := leads[entry]
		// What an earlier type leads to was found without fault then.
		for _, at := range spread(entry, g.ways, seen) {
			if rings[at] {
				least = min(least, at)
			}
			if g.isIdleCall(at) {
				least = min(least, leads[at+1])
			}
		}
		if least != none {
			return least
		}
	}
	return none
}

func (g *paths) ways(at int) []int { return ways(g.program.Code, at) }

// bare: the ways on which the instruction is left with nothing taken.
func (g *paths) bare(at int) []int {
	switch i := g.program.Code[at]; i.Op {
	case opUint, opUints, opBool, opVarint, opOption, opUnion, opOffset:
		return nil
	case opNumber, opNumbers, opFlag, opLeb, opMany, opUpto, opFields, opMaybe, opChoice, opEnter, opEach, opAppend:
		return nil
	case opFirst:
		return []int{i.B}
	case opPart:
		if i.A == -1 {
			return nil
		}
	case opCall:
		if !g.isIdleCall(at) {
			return nil
		}
	}
	return g.ways(at)
}

// isIdleCall: is it a call of a type that doesn't pay?
func (g *paths) isIdleCall(at int) bool {
	i := g.program.Code[at]
	return i.Op == opCall && g.cameTo(at) && g.quiet[g.program.Entry[i.C]]
}

func (g *paths) cameTo(at int) bool { return g.states[at].place != nowhere }

// findQuiet: backward from the rets. Each instruction is asked again when one of those on which its answer hangs is found to be quiet.
func (g *paths) findQuiet() {
	users := g.reversed(g.quietBy)
	var work []int
	for at, i := range g.program.Code {
		if i.Op == opRet && g.cameTo(at) {
			work = append(work, at)
		}
	}
	for len(work) > 0 {
		at := work[len(work)-1]
		work = work[:len(work)-1]
		if !g.quiet[at] && g.isQuiet(at) {
			g.quiet[at] = true
			work = append(work, users[at]...)
		}
	}
}

// quietBy: on which instructions it hangs whether this one is quiet. Of a call the called type's Entry is one.
func (g *paths) quietBy(at int) []int {
	i := g.program.Code[at]
	if i.Op == opCall {
		return append(g.ways(at), g.program.Entry[i.C])
	}
	return g.ways(at)
}

// isQuiet: as far as it is known by now.
func (g *paths) isQuiet(at int) bool {
	i := g.program.Code[at]
	to := g.bare(at)
	if i.Op == opPart {
		to = g.ways(at)
	}
	return i.Op == opRet || slices.ContainsFunc(to, func(next int) bool { return g.quiet[next] })
}

// leads: to which call of a type that doesn't pay each instruction leads by a bare way, or is it itself: the least one, or none.
func (g *paths) leads() []int {
	leads := slices.Repeat([]int{none}, len(g.states))
	seen := make([]bool, len(g.states))
	for call := range g.states {
		if !g.isIdleCall(call) {
			continue
		}
		for _, at := range spread(call, g.bareBack, seen) {
			leads[at] = call
		}
	}
	return leads
}

func (g *paths) bareBack(at int) []int { return g.back[at] }

// rings: of each instruction, whether a bare way leads from it to itself. Taken last finished first, what leads to an instruction and is in no ring yet is also led to by it.
func (g *paths) rings() []bool {
	rings := make([]bool, len(g.states))
	seen := make([]bool, len(g.states))
	for _, from := range slices.Backward(g.finished()) {
		ring := spread(from, g.bareBack, seen)
		if len(ring) == 1 && !slices.Contains(g.back[from], from) {
			continue
		}
		for _, at := range ring {
			rings[at] = true
		}
	}
	return rings
}

// finished: the instructions, each behind all that its bare ways lead to, but for those that lead back to it.
func (g *paths) finished() []int {
	var order, work []int
	seen := make([]bool, len(g.states))
	for from := range g.states {
		if g.cameTo(from) {
			work = append(work, from)
		}
		for len(work) > 0 {
			at := work[len(work)-1]
			work = work[:len(work)-1]
			switch {
			case at < 0:
				order = append(order, ^at)
			case !seen[at]:
				seen[at] = true
				// When its complement is come to again, all that it leads to is finished.
				work = append(append(work, ^at), g.bare(at)...)
			}
		}
	}
	return order
}

// reversed: for each instruction the ones whose edges lead to it.
func (g *paths) reversed(edges func(at int) []int) [][]int {
	back := make([][]int, len(g.states))
	for at := range g.states {
		if !g.cameTo(at) {
			continue
		}
		for _, to := range edges(at) {
			back[to] = append(back[to], at)
		}
	}
	return back
}

// spread: the instruction and all that edges lead to from it, but for what was seen; it is seen then.
func spread(from int, edges func(at int) []int, seen []bool) []int {
	var found []int
	work := []int{from}
	for len(work) > 0 {
		at := work[len(work)-1]
		work = work[:len(work)-1]
		if !seen[at] {
			seen[at] = true
			found = append(found, at)
			work = append(work, edges(at)...)
		}
	}
	return found
}
