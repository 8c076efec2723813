package cost

import (
	"math/big"
	"slices"
	"testing"

	"mortise/api"
	"mortise/sound"
)

// doubling: types each of which calls the one ahead so many times, the first one without bytes. Sound refuses all but the first, so that what it takes never comes near to Huge: the sums are asked behind it.
func doubling(types, times int) api.Program {
	p := api.Program{Code: []api.Instr{{Op: opSeq}, {Op: opRet}}, Entry: []int{0}}
	for t := 1; t < types; t++ {
		p.Entry = append(p.Entry, len(p.Code))
		p.Code = append(p.Code, api.Instr{Op: opStruct})
		for k := range times {
			p.Code = append(p.Code, api.Instr{Op: opCall, A: k, C: t - 1})
		}
		p.Code = append(p.Code, api.Instr{Op: opRet})
	}
	return p
}

func everywhere(p api.Program) []bool { return slices.Repeat([]bool{true}, len(p.Code)) }

// atMost: a number, or Huge, if it is above.
func atMost(n *big.Int) int {
	if n.Cmp(big.NewInt(api.Huge)) > 0 {
		return api.Huge
	}
	return int(n.Int64())
}

// lengths: Z of each type of doubling, in numbers of any greatness: the struct, the calls and the ret as they count, and what is called.
func lengths(types, times, own int, first, call int64) []*big.Int {
	out := []*big.Int{big.NewInt(first)}
	for len(out) < types {
		n := new(big.Int).Add(out[len(out)-1], big.NewInt(call))
		n.Mul(n, big.NewInt(int64(times)))
		out = append(out, n.Add(n, big.NewInt(int64(own))))
	}
	return out
}

// P21.1: sums come to Huge, and stay there; below they are as they are.
func TestSumsSaturate(t *testing.T) {
	for _, times := range []int{2, 3, 7, 64} {
		const types = 80
		p := doubling(types, times)
		if f := sound.Verify(p); f.Err != api.ErrCode {
			t.Fatalf("P15.2: Verify of types that double: %v", f)
		}
		inside := everywhere(p)
		inSteps, inNodes := straight(p, inside, steps), straight(p, inside, nodes)
		huge := 0
		z, n := lengths(types, times, 2, 2, 1), lengths(types, times, 1, 1, 0)
		for k, entry := range p.Entry {
			if want := atMost(z[k]); inSteps[entry] != want {
				t.Fatalf("P21.2: of type %d, which calls %d times: %d, want %d", k, times, inSteps[entry], want)
			}
			if want := atMost(n[k]); inNodes[entry] != want {
				t.Fatalf("P21.3: of type %d, which calls %d times: %d nodes, want %d", k, times, inNodes[entry], want)
			}
			if inSteps[entry] == api.Huge {
				huge++
			}
		}
		if huge < 10 || huge > types-8 {
			t.Errorf("%d of the types come to Huge", huge)
		}
	}
}

// P21.1: products come to Huge, and stay there.
func TestProductsSaturate(t *testing.T) {
	var below, above int
	for types := 1; types <= 80; types++ {
		p := doubling(types, 2)
		times := big.NewInt(int64(types + 1))
		z, n := lengths(types, 2, 2, 2, 1)[types-1], lengths(types, 2, 1, 1, 0)[types-1]
		want := api.Cost{Steps: atMost(z.Mul(times, z)), Nodes: atMost(n.Mul(times, n)), Depth: types}
		if c := told(p, everywhere(p)); c != want {
			t.Fatalf("P21.3: of %d types %v, want %v", types, c, want)
		}
		if want.Steps == api.Huge && want.Nodes < api.Huge {
			above++
		}
		if want.Steps < api.Huge {
			below++
		}
	}
	if below < 50 || above < 1 {
		t.Errorf("%d are below Huge, %d have come to it by their steps alone", below, above)
	}
}

// P21.2: a type's way without bytes leads through the ways of other types, called one in the other, and jumps between them.
func TestThroughCalls(t *testing.T) {
	p := api.Program{
		Code: []api.Instr{
			{Op: opSeq}, {Op: opRet},
			{Op: opCall, A: -1}, {Op: opJump, B: 4}, {Op: opRet},
			{Op: opUint, A: -1, B: 1}, {Op: opRet},
			{Op: opStruct}, {Op: opCall, A: 0, C: 1}, {Op: opPart, A: 1, C: 0}, {Op: opRet},
			{Op: opStruct}, {Op: opCall, A: 0, C: 1}, {Op: opCall, A: 1, C: 2}, {Op: opCall, A: 2, C: 0}, {Op: opRet},
		},
		Entry: []int{0, 2, 5, 7, 11},
	}
	if l, want := straight(p, everywhere(p), steps), []int{2, 1, 5, 2, 1, 1, 1, 11, 10, 4, 1, 9, 8, 2, 4, 1}; !slices.Equal(l, want) {
		t.Errorf("P21.2: %v, want %v", l, want)
	}
	if l, want := straight(p, everywhere(p), nodes), []int{1, 0, 1, 0, 0, 1, 0, 3, 2, 1, 0, 3, 2, 1, 1, 0}; !slices.Equal(l, want) {
		t.Errorf("P21.3: nodes %v, want %v", l, want)
	}
}
