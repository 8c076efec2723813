package cost_test

import (
	"testing"

	"mortise/api"
)

// n: as many instructions as there may be.
const n = api.MaxCode

// jumps: so many, each to where to says.
func jumps(many int, to func(at int) int) []api.Instr {
	out := make([]api.Instr, many)
	for at := range out {
		out[at] = api.Instr{Op: 19, B: to(at)}
	}
	return out
}

// eachIs: S of each instruction, as of says.
func eachIs(t *testing.T, p api.Program, of func(at int) int) {
	t.Helper()
	want := make([]int, len(p.Code))
	for at := range want {
		want[at] = of(at)
	}
	straightIs(t, p, want)
}

// P21.1, P21.2: ways of the greatest length: forward, backward, to and fro; with one type, and as many as instructions.
func TestLongestWays(t *testing.T) {
	boolean, ret := api.Instr{Op: 3, A: -1}, api.Instr{Op: 20}
	longest := api.Cost{Steps: 2 * (n - 1), Nodes: 2, Depth: 1}

	forward := jumps(n, func(at int) int { return min(at+1, n-1) })
	forward[n-2], forward[n-1] = boolean, ret
	p := api.Program{Code: forward, Entry: []int{0}}
	ahead := func(at int) int { return max(n-1-at, 1) }
	eachIs(t, p, ahead)
	costIs(t, p, longest)
	p.Entry = make([]int, n)
	for at := range p.Entry {
		p.Entry[at] = min(at, n-2)
	}
	eachIs(t, p, ahead)
	costIs(t, p, longest)

	backward := jumps(n, func(at int) int { return max(at-1, 0) })
	backward[0], backward[1], backward[2].B = boolean, ret, 0
	p = api.Program{Code: backward, Entry: []int{n - 1}}
	eachIs(t, p, func(at int) int { return max(at, 1) })
	costIs(t, p, longest)

	half := n / 2
	fro := jumps(n, func(at int) int {
		if at < half {
			return at + half
		}
		return min(at-half+1, n-1)
	})
	fro[n-2], fro[n-1], fro[half-2].B, fro[half-1].B = boolean, ret, n-2, n-2
	p = api.Program{Code: fro, Entry: []int{0}}
	eachIs(t, p, func(at int) int {
		switch {
		case at >= n-2:
			return 1
		case at == half-1:
			return 0
		case at >= half:
			return 2*(n-2-at) + 1
		}
		return 2*(half-2-at) + 2
	})
	costIs(t, p, api.Cost{Steps: 2 * (n - 2), Nodes: 2, Depth: 1})
}

// P21.1, P21.2: as many branches as there may be, all of which meet again: there are more walks than anybody could go through.
func TestMostBranches(t *testing.T) {
	p := api.Program{Code: make([]api.Instr, n), Entry: []int{0}}
	for at := range p.Code {
		p.Code[at] = api.Instr{Op: 13, A: 9, B: min(at+2, n-1)}
	}
	p.Code[0], p.Code[n-1] = api.Instr{Op: 5}, api.Instr{Op: 20}
	eachIs(t, p, func(at int) int { return n - at })
	costIs(t, p, api.Cost{Steps: 2 * n, Nodes: 2, Depth: 1})

	// Each other one takes.
	for at := 2; at < n-2; at += 2 {
		p.Code[at] = api.Instr{Op: 3, A: -1}
	}
	for at := 1; at < n-1; at += 2 {
		p.Code[at].B = n - 1
	}
	eachIs(t, p, func(at int) int {
		switch {
		case at == 0, at == n-3:
			return 3
		case at == n-2, at%2 == 1 && at < n-1:
			return 2
		}
		return 1
	})
	costIs(t, p, api.Cost{Steps: 6, Nodes: 4, Depth: 1})
}

// P21.1, P21.3: types that call types to the greatest depth: each the one ahead, and each with a node of its own.
func TestDeepestCalls(t *testing.T) {
	p := written(false, "bool -1; ret | 0")
	for len(p.Code)+2 <= n {
		p.Entry = append(p.Entry, len(p.Code))
		p.Code = append(p.Code, api.Instr{Op: 16, A: -1, C: len(p.Entry) - 2}, api.Instr{Op: 20})
	}
	const types = n / 2
	eachIs(t, p, func(at int) int {
		if at%2 == 1 {
			return 1
		}
		return 1 + at/2
	})
	costIs(t, p, api.Cost{Steps: (types + 1) * types, Nodes: types + 1, Depth: types})

	p = written(false, "bool -1; ret | 0")
	for len(p.Code)+4 <= n {
		p.Entry = append(p.Entry, len(p.Code))
		p.Code = append(p.Code, api.Instr{Op: 6}, api.Instr{Op: 16, C: len(p.Entry) - 2}, api.Instr{Op: 3, A: 1}, api.Instr{Op: 20})
	}
	deep := len(p.Entry)
	costIs(t, p, api.Cost{Steps: (deep + 1) * (2*deep - 1), Nodes: (deep + 1) * deep, Depth: deep})
}

// P21.1, P21.3: the greatest S that may be: the most parts of a type with the longest way without bytes.
func TestMostParts(t *testing.T) {
	const rest = 2 + 3*api.MaxFields
	const long = n - rest
	p := api.Program{Code: jumps(long, func(at int) int { return at + 1 }), Entry: []int{0, long}}
	p.Code[0], p.Code[long-1] = api.Instr{Op: 5}, api.Instr{Op: 20}
	p.Code = append(p.Code, api.Instr{Op: 6})
	for range api.MaxFields {
		p.Code = append(p.Code, api.Instr{Op: 10, A: 4 * api.MaxFields})
	}
	for k := range api.MaxFields {
		p.Code = append(p.Code, api.Instr{Op: 17, A: k, B: k}, api.Instr{Op: 18, A: k})
	}
	p.Code = append(p.Code, api.Instr{Op: 20})
	costIs(t, p, api.Cost{Steps: 3 * (api.MaxFields*(long+2) + 1), Nodes: 3 * api.MaxFields, Depth: 2})
}

// tower: so many types, each of which calls the one ahead.
func tower(deep int) api.Program {
	p := written(false, "bool -1; ret | 0")
	for range deep - 1 {
		p.Entry = append(p.Entry, len(p.Code))
		p.Code = append(p.Code, api.Instr{Op: 16, A: -1, C: len(p.Entry) - 2}, api.Instr{Op: 20})
	}
	return p
}

// P21.1, P21.3: a loop that very many types enter, each at a place of its own, with calls of every depth in it: all that lies in it is below each of them.
func TestSharedLoop(t *testing.T) {
	const deep = n / 16
	p := tower(deep)
	loop := len(p.Code)
	for k := range deep {
		p.Code = append(p.Code, api.Instr{Op: 13, A: 9, B: loop + 2*deep + 1}, api.Instr{Op: 16, A: -1, C: k})
	}
	p.Code = append(p.Code, api.Instr{Op: 19, B: loop}, api.Instr{Op: 20})
	for k := range deep {
		p.Entry = append(p.Entry, len(p.Code))
		p.Code = append(p.Code, api.Instr{Op: 5}, api.Instr{Op: 19, B: loop + 2*k})
	}
	// The longest way: seq, jump, item, call, and the calls of the whole tower.
	costIs(t, p, api.Cost{Steps: (deep + 2) * (4 + deep), Nodes: (deep + 2) * 2, Depth: deep + 1})
	p = topped(p, deep)
	if c := costNow(t, p); c.Depth != deep+1+deep {
		t.Errorf("P21.3: Depth %d, want %d", c.Depth, deep+1+deep)
	}
}

// topped: so many types more, each of which calls the one ahead.
func topped(p api.Program, many int) api.Program {
	for range many {
		p.Entry = append(p.Entry, len(p.Code))
		p.Code = append(p.Code, api.Instr{Op: 7, B: len(p.Code) + 2}, api.Instr{Op: 16, C: len(p.Entry) - 2}, api.Instr{Op: 20})
	}
	return p
}

// P21.1, P21.3: a way that very many types enter, each at a place of its own, with calls that are ever deeper, or ever less deep: below each of them is what lies behind its place alone.
func TestSharedWay(t *testing.T) {
	const deep = n / 16
	for _, deeper := range []bool{true, false} {
		for _, backward := range []bool{true, false} {
			p := tower(deep)
			way := len(p.Code)
			for k := range deep {
				if !deeper {
					k = deep - 1 - k
				}
				p.Code = append(p.Code, api.Instr{Op: 13, A: 9, B: way + 2*deep}, api.Instr{Op: 16, A: -1, C: k})
			}
			p.Code = append(p.Code, api.Instr{Op: 20})
			for k := range deep {
				if backward {
					k = deep - 1 - k
				}
				p.Entry = append(p.Entry, len(p.Code))
				p.Code = append(p.Code, api.Instr{Op: 5}, api.Instr{Op: 19, B: way + 2*k})
			}
			// The last type comes to all calls, or to the last one alone: to the whole tower, or, if that is less deep, to its foot.
			want := deep + 1 + deep
			if !backward && !deeper {
				want = 2 + deep
			}
			if c := costNow(t, topped(p, deep)); c.Depth != want {
				t.Errorf("P21.3: calls are ever deeper: %v; types enter backward: %v: Depth %d, want %d", deeper, backward, c.Depth, want)
			}
		}
	}
}

// P21.1, P21.2: unions of the most arms, all over the code.
func TestMostArms(t *testing.T) {
	var p api.Program
	for len(p.Code)+68 <= n {
		from := len(p.Code)
		p.Entry = append(p.Entry, from)
		p.Code = append(p.Code, api.Instr{Op: 8, A: 64})
		for tag := range 64 {
			p.Code = append(p.Code, api.Instr{Op: 9, A: tag, B: from + 65 + tag%2})
		}
		p.Code = append(p.Code, api.Instr{Op: 19, B: from + 66}, api.Instr{Op: 3}, api.Instr{Op: 20})
	}
	eachIs(t, p, func(at int) int {
		switch k := at % 68; {
		case k == 0, k > 65:
			return 1
		case k == 65:
			return 2
		}
		return 0
	})
	costIs(t, p, api.Cost{Steps: 4, Nodes: 2, Depth: 1})
}
