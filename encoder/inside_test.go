package encoder

import (
	"testing"

	"mortise/api"
)

// What Run refuses ahead of the run is run here: in code that sound.Verify takes each node of a value is taken once, so that the run's own ErrNode is never seen from without.

func ranInside(code []api.Instr, nodes ...api.Node) (*machine, api.Fault) {
	m := newMachine(api.Program{Encodes: true, Code: code, Entry: []int{0}}, 0, nodes)
	return m, m.run()
}

func numberNode(n uint64) api.Node { return api.Node{Kind: api.NodeUint, N: n} }

// P24.2: a node that is taken when all were: ErrNode, its place being how many nodes there are; each instruction that takes one, and none of the others.
func TestNoNodeLeft(t *testing.T) {
	ahead := []api.Node{numberNode(1), numberNode(2), numberNode(3)}
	ret := api.Instr{Op: opRet}
	arm := api.Instr{Op: 9, A: 1, B: 2}
	for _, i := range []api.Instr{{Op: opNumber, B: 1}, {Op: opNumber, A: -1, B: 1}, {Op: opFlag}, {Op: opFlag, A: -1}, {Op: opLeb}, {Op: opMany, A: 1}, {Op: opUpto, A: 1}, {Op: opFields, A: 1}, {Op: opMaybe}, {Op: opChoice, A: 1}, {Op: opNumbers, B: 2, C: 1}} {
		for k := range len(ahead) + 1 {
			var code []api.Instr
			for range k {
				code = append(code, api.Instr{Op: opNumber, B: 1})
			}
			if _, f := ranInside(append(code, i, arm, ret), ahead[:k]...); f != (api.Fault{Err: api.ErrNode, At: k}) {
				t.Errorf("P24.2: instruction %v behind all %d nodes: %v", i, k, f)
			}
		}
	}
	// Of numbers a later one may be missing.
	for k := range 4 {
		want := api.Fault{Err: api.ErrNode, At: k}
		if k == 3 {
			want = api.Fault{}
		}
		if _, f := ranInside([]api.Instr{{Op: opNumbers, B: 3, C: 1}, ret}, ahead[:k]...); f != want {
			t.Errorf("P24.2: three numbers of %d nodes: %v, want %v", k, f, want)
		}
	}
	for _, i := range []api.Instr{{Op: opRoom, A: 9}, {Op: opSlot, A: 3}, {Op: opJump, B: 1}, {Op: 9}} {
		if _, f := ranInside([]api.Instr{i, ret}); f != (api.Fault{}) {
			t.Errorf("P24.2: instruction %v takes a node: %v", i, f)
		}
	}
}

// P24.2: a node that was not taken when the program is through: ErrNode, the number of the first one.
func TestNodesLeft(t *testing.T) {
	nodes := []api.Node{numberNode(1), numberNode(2), numberNode(3), numberNode(4)}
	for most := range len(nodes) + 1 {
		for k := range most + 1 {
			var code []api.Instr
			for range k {
				code = append(code, api.Instr{Op: opLeb})
			}
			m, f := ranInside(append(code, api.Instr{Op: opRet}), nodes[:most]...)
			want := api.Fault{}
			if k < most {
				want = api.Fault{Err: api.ErrNode, At: k}
			}
			if f != want || m.length != k || m.steps != k+1 {
				t.Errorf("P24.2: %d nodes, of which %d are taken: %v, %d bytes, %d steps", most, k, f, m.length, m.steps)
			}
		}
	}
}

// P24.2: in the run's answer an error of an instruction comes ahead of nodes that are left.
func TestErrorAheadOfNodesLeft(t *testing.T) {
	if _, f := ranInside([]api.Instr{{Op: opNumber, B: 1}, {Op: opFlag}, {Op: opRet}}, numberNode(1), numberNode(2), numberNode(3)); f != (api.Fault{Err: api.ErrKind, At: 1}) {
		t.Errorf("P24.2: an error and a node that is left: %v", f)
	}
}
