package cost

import (
	"slices"

	"mortise/api"
	"mortise/le"
)

// none: there is no way without bytes.
const none = -1

// far: what the ways from an instruction on come to at most.
type far struct {
	take int // until one that takes has been done, or the routine's ret: S, or N
	ret  int // to the routine's ret without bytes: Z, or none
}

// or: whichever is greater.
func (f far) or(g far) far { return far{take: max(f.take, g.take), ret: max(f.ret, g.ret)} }

// after: with so much ahead of it.
func (f far) after(n int) far {
	f.take = le.Plus(n, f.take)
	if f.ret != none {
		f.ret = le.Plus(n, f.ret)
	}
	return f
}

// straight: S of each instruction that lies in a routine, or N, as count has it; 0 of the others.
func straight(p api.Program, inside []bool, count func(op int) int) []int {
	known := map[int]far{}
	of := reckoner(p, count, known)
	out := make([]int, len(inside))
	for at, is := range inside {
		if is {
			settle(p, at, known, of)
			out[at] = of(at).take
		}
	}
	return out
}

// reckoner: tells how far an instruction's ways come, and remembers it. In code that may run it ends: a way back to an instruction takes something, and types call those ahead of them alone.
func reckoner(p api.Program, count func(op int) int, known map[int]far) func(at int) far {
	var of func(at int) far
	of = func(at int) far {
		if f, is := known[at]; is {
			return f
		}
		i := p.Code[at]
		n := count(i.Op)
		f := far{take: n, ret: none}
		switch {
		case i.Op == opRet:
			f.ret = n
		case calls(i.Op):
			inner := of(p.Entry[i.C])
			f.take = le.Plus(n, inner.take)
			if inner.ret != none {
				f = f.or(of(at + 1).after(le.Plus(n, inner.ret)))
			}
		default:
			for _, to := range bare(p.Code, at) {
				f = f.or(of(to).after(n))
			}
		}
		known[at] = f
		return f
	}
	return of
}

// settle: asks of an instruction when all is known that its answer hangs on: asked at once, the closure might call itself as deep as the code is long.
func settle(p api.Program, at int, known map[int]far, of func(at int) far) {
	isKnown := func(at int) bool { _, is := known[at]; return is }
	work := []int{at}
	for len(work) > 0 {
		last := work[len(work)-1]
		missing := slices.DeleteFunc(hangsOn(p, last, known), isKnown)
		if len(missing) == 0 {
			of(last)
			work = work[:len(work)-1]
		}
		work = append(work, missing...)
	}
}

// hangsOn: on which instructions it hangs how far this one's ways come. Whether a call goes on without bytes is seen when its type's Entry is known.
func hangsOn(p api.Program, at int, known map[int]far) []int {
	i := p.Code[at]
	if !calls(i.Op) {
		return bare(p.Code, at)
	}
	entry := p.Entry[i.C]
	if f, is := known[entry]; is && f.ret != none {
		return []int{entry, at + 1}
	}
	return []int{entry}
}
