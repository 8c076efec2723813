package code_test

import (
	"slices"
	"testing"

	"mortise/api"
	"mortise/code"
)

// equalIs holds Equal against what it must answer, both ways.
func equalIs(t *testing.T, a, b api.Program, want bool) {
	t.Helper()
	if got := code.Equal(a, b); got != want {
		t.Errorf("P14.6: Equal(%s, %s) = %v", brief(a), brief(b), got)
	}
	if got := code.Equal(b, a); got != want {
		t.Errorf("P14.6: Equal(%s, %s) = %v", brief(b), brief(a), got)
	}
}

// cloned: the same in other memory.
func cloned(p api.Program) api.Program {
	p.Code, p.Entry = slices.Clone(p.Code), slices.Clone(p.Entry)
	return p
}

// P14.6: nil and empty lists are one.
func TestEqualOfNone(t *testing.T) {
	none := []api.Program{{}, {Code: []api.Instr{}}, {Entry: []int{}}, {Code: []api.Instr{}, Entry: []int{}}, {Code: make([]api.Instr, 0, 9), Entry: make([]int, 0, 9)}}
	for _, a := range none {
		for _, b := range none {
			equalIs(t, a, b, true)
			b.Encodes = true
			equalIs(t, a, b, false)
			a := a
			a.Encodes = true
			equalIs(t, a, b, true)
		}
		equalIs(t, a, api.Program{Code: []api.Instr{{}}}, false)
		equalIs(t, a, api.Program{Entry: []int{0}}, false)
	}
	only := api.Program{Code: []api.Instr{{Op: 20}}}
	equalIs(t, only, api.Program{Code: []api.Instr{{Op: 20}}, Entry: []int{}}, true)
	equalIs(t, api.Program{Entry: []int{4}}, api.Program{Code: []api.Instr{}, Entry: []int{4}}, true)
}

// P14.6: with one field changed at a time, in programs that have their form and in others.
func TestEqualChanged(t *testing.T) {
	for _, p := range []api.Program{small(), everything(false), everything(true), {Code: []api.Instr{{Op: -1, A: 1 << 62, B: 7, C: 9}}, Entry: []int{-5, 9}}} {
		was := cloned(p)
		equalIs(t, p, was, true)
		changes(&p, func() { equalIs(t, p, was, same(p, was)) })
		equalIs(t, p, was, true)
		for _, l := range rearranged(p.Code, api.Instr{}) {
			turned(&p.Code, [][]api.Instr{l}, func() { equalIs(t, p, was, slices.Equal(l, was.Code)) })
		}
		for _, l := range rearranged(p.Entry, 0, 1) {
			turned(&p.Entry, [][]int{l}, func() { equalIs(t, p, was, slices.Equal(l, was.Entry)) })
		}
	}
}

// P14.6: the last instruction's and type's last field, of programs that are longer than a machine may have.
func TestEqualLongest(t *testing.T) {
	p := api.Program{Code: make([]api.Instr, api.MaxCode+2), Entry: make([]int, api.MaxCode+2)}
	was := cloned(p)
	equalIs(t, p, was, true)
	last := api.MaxCode + 1
	turned(&p.Code[last].C, []int{1, -1}, func() { equalIs(t, p, was, false) })
	turned(&p.Entry[last], []int{1, -1}, func() { equalIs(t, p, was, false) })
	turned(&p.Code, [][]api.Instr{p.Code[:last]}, func() { equalIs(t, p, was, false) })
	turned(&p.Entry, [][]int{p.Entry[:last]}, func() { equalIs(t, p, was, false) })
	equalIs(t, p, was, true)
}

// P14.6: spare room is no field.
func TestEqualSpareRoom(t *testing.T) {
	for _, encodes := range []bool{false, true} {
		p := everything(encodes)
		for n := range p.Code {
			a, b := cloned(p), cloned(p)
			a.Code, b.Code = a.Code[:n], slices.Clip(b.Code[:n])
			equalIs(t, a, b, true)
			a.Entry, b.Entry = a.Entry[:1], slices.Clone(b.Entry[:1])
			equalIs(t, a, b, true)
		}
	}
}
