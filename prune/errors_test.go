package prune_test

import (
	"slices"
	"testing"

	"mortise/api"
	"mortise/sound"
)

// P20.2, P20.3: programs that sound.Verify doesn't take, each with its fault.
func TestRefused(t *testing.T) {
	decoder := map[string]api.Fault{
		"ret | 0":                                              bad(0),
		"jump 0 | 0":                                           bad(0),
		"jump 1; jump 0 | 0":                                   bad(0),
		"jump 1; jump 2; ret | 0":                              bad(2),
		"ret; jump 2; jump 1; bool -1; ret | 1":                bad(1),
		"ret; ret; bool -1 | 2":                                bad(2),
		"ret; ret; bool -1; bool -1; ret | 2":                  bad(3),
		"bool -1; ret; seq; jump 3 | 0 2":                      bad(3),
		"bool -1; ret; seq; a: item 9 r; jump a; r: ret | 0 2": bad(3),
		"ret; struct; uint 0 1; uint 0 1; ret | 1":             bad(3),
		"ret; struct; uint 0 1; uint 2 1; ret | 1":             bad(4),
		"bool -1; ret; arm 7 0 | 0 2":                          bad(2),
		"option 3; uint 0 1; jump 1; ret | 0":                  bad(1),
		"call -1 0; ret | 0":                                   bad(0),
		"seq; ret; struct; call 0 0; ret | 0 2":                bad(3),
		"bool -1; ret | 2":                                     {Err: api.ErrPlace},
		"bool -1; ret | 0 -1":                                  {Err: api.ErrPlace, At: 1},
		"| 0":                                                  {Err: api.ErrPlace},
		"bool -1; ret; jump 3 | 0":                             {Err: api.ErrOp, At: 2},
		"bool -1; ret; jump -1 | 0":                            {Err: api.ErrOp, At: 2},
		"bool -1; ret; uint 0 3 | 0":                           {Err: api.ErrOp, At: 2},
		"bool -1; ret; union 1; ret | 0":                       {Err: api.ErrOp, At: 2},
		"bool -1; ret; union 1 | 0":                            {Err: api.ErrOp, At: 2},
		"bool -1; ret; union 2; arm 1 0; arm 1 0 | 0":          {Err: api.ErrOp, At: 2},
		"bool -1; ret; arm 256 0 | 0":                          {Err: api.ErrOp, At: 2},
		"bool -1; ret; call 0 1 | 0":                           {Err: api.ErrOp, At: 2},
		"call 0 0":                                             {Err: api.ErrOp},
		"ret; uints 0 1 1; jump 9":                             {Err: api.ErrOp, At: 1},
	}
	encoder := map[string]api.Fault{
		"ret | 0":                            bad(0),
		"jump 0 | 0":                         bad(0),
		"ret; leb | 1":                       bad(1),
		"ret; fields 2; number 0 1; ret | 1": bad(3),
		"ret; fields 2; number 0 1; number 1 1 | 1":  bad(3),
		"ret; upto 3; number -1 1; again 2; ret | 1": bad(2),
		"leb; ret; upto 9; a: again a; ret | 0 2":    bad(3),
		"leb; ret; many 9; jump 3 | 0 2":             bad(3),
		"leb; ret; maybe 4; append 1; ret | 0 2":     bad(3),
		"leb; ret | 0 2":                             {Err: api.ErrPlace, At: 1},
		"leb; ret; again 3 | 0":                      {Err: api.ErrOp, At: 2},
		"leb; ret; number 0 5 | 0":                   {Err: api.ErrOp, At: 2},
		"leb; ret; choice 1; leb | 0":                {Err: api.ErrOp, At: 2},
		"leb; ret; choice 2; arm 0 0 | 0":            {Err: api.ErrOp, At: 2},
		"leb; ret; numbers 16777215 2 1 | 0":         {Err: api.ErrOp, At: 2},
		"leb; ret; append 1 | 0":                     {Err: api.ErrOp, At: 2},
	}
	for n, l := range []map[string]api.Fault{decoder, encoder} {
		for text, want := range l {
			p := written(n == 1, text)
			if f := sound.Verify(p); f != want {
				t.Errorf("P15.2: Verify(%s) = %v, want %v", brief(p), f, want)
			}
			faultIs(t, p, want)
		}
	}
}

// P20.2, P20.3: what would go is asked for its form, too; a fault of what would go first comes first.
func TestFaultOfWhatGoes(t *testing.T) {
	for _, encodes := range []bool{false, true} {
		p := written(encodes, head(encodes)+"ret; ret | 0")
		for _, i := range []api.Instr{{}, {Op: 21}, {Op: -1}, {Op: 19, B: 4}, {Op: 9, A: -1}, {Op: 20, A: 1}, {Op: 20, C: 1}} {
			with(&p.Code[2], []api.Instr{i}, func() { faultIs(t, p, api.Fault{Err: api.ErrOp, At: 2}) })
			with(&p.Code[3], []api.Instr{i}, func() { faultIs(t, p, api.Fault{Err: api.ErrOp, At: 3}) })
		}
		with(&p.Encodes, []bool{!encodes}, func() { faultIs(t, p, api.Fault{Err: api.ErrOp}) })
		pruneIs(t, p, written(encodes, head(encodes)+"| 0"))
	}
}

// P20.1: with a fault the program is the zero one, whatever was answered ahead.
func TestZeroBesideError(t *testing.T) {
	for _, p := range []api.Program{whole(false), whole(true), everything(false), everything(true)} {
		for at := range p.Code {
			modelAll(t, p)
			with(&p.Code[at].Op, []int{0, 21, -1}, func() { faultIs(t, p, api.Fault{Err: api.ErrOp, At: formAt(p, at)}) })
		}
		for at := range p.Entry {
			with(&p.Entry[at], []int{-1, len(p.Code)}, func() { faultIs(t, p, api.Fault{Err: api.ErrPlace, At: at}) })
		}
	}
}

// formAt: where the form is missed, if one instruction is none: an arm is first missed by its union.
func formAt(p api.Program, at int) int {
	if owner := armOwner(p, at); owner >= 0 {
		return owner
	}
	return at
}

// P20.2, P20.3: more than MaxCode instructions or types are refused, however few are reached.
func TestTooLong(t *testing.T) {
	for _, encodes := range []bool{false, true} {
		p := written(encodes, head(encodes)+"| 0")
		p.Code = append(p.Code, slices.Repeat([]api.Instr{{Op: 20}}, api.MaxCode-1)...)
		faultIs(t, p, api.Fault{Err: api.ErrLong})
		p.Code = p.Code[:api.MaxCode]
		want := written(encodes, head(encodes)+"| 0")
		pruneIs(t, p, want)
		optimiseIs(t, p, want)
		p.Code, p.Entry = p.Code[:2], make([]int, api.MaxCode+1)
		faultIs(t, p, api.Fault{Err: api.ErrLong})
		p.Entry = p.Entry[1:]
		pruneIs(t, p, p)
		optimiseIs(t, p, p)
	}
}
