package fuse_test

import (
	"slices"
	"testing"

	"mortise/api"
	"mortise/code"
	"mortise/fuse"
	"mortise/sound"
)

// P19.2, P19.3: programs that sound.Verify doesn't take, each with its fault.
func TestRefused(t *testing.T) {
	decoder := map[string]api.Fault{
		"ret | 0":                                         bad(0),
		"uint 0 1; ret | 0":                               bad(0),
		"uints 0 2 1; ret | 0":                            bad(0),
		"struct; uint 0 1; uint 1 1 | 0":                  bad(2),
		"struct; uint 0 1; uint 0 1; ret | 0":             bad(2),
		"struct; uints 0 2 1; uint 1 1; ret | 0":          bad(2),
		"struct; uint 1 1; uints 0 2 1; ret | 0":          bad(2),
		"struct; uint 0 1; uint 2 1; ret | 0":             bad(3),
		"struct; uint 1 1; uint 2 1; ret | 0":             bad(3),
		"seq; uint 0 1; uint 1 1; ret | 0":                bad(1),
		"option 3; uint 0 1; uint 1 1; ret | 0":           bad(2),
		"struct; a: uint 0 1; uint 1 1; jump a | 0":       bad(1),
		"seq; a: item 3 b; jump a; b: ret | 0":            bad(1),
		"seq; jump 1 | 0":                                 bad(1),
		"struct; uint 0 1; uint 1 1; ret | 4":             {Err: api.ErrPlace},
		"struct; uint 0 1; uint 1 1; ret | 0 -1":          {Err: api.ErrPlace, At: 1},
		"struct; uint 0 1; uint 1 3; ret | 0":             {Err: api.ErrOp, At: 2},
		"struct; uint 0 1; uint 64 1; ret | 0":            {Err: api.ErrOp, At: 2},
		"struct; uint -2 1; uint -1 1; ret | 0":           {Err: api.ErrOp, At: 1},
		"struct; uints 0 1 1; uint 1 1; ret | 0":          {Err: api.ErrOp, At: 1},
		"struct; uints 0 65 1; ret | 0":                   {Err: api.ErrOp, At: 1},
		"struct; uints 1 64 1; ret | 0":                   {Err: api.ErrOp, At: 1},
		"struct; uints -1 2 1; ret | 0":                   {Err: api.ErrOp, At: 1},
		"bool -1; ret; uint 0 1; uint 1 1; uint 2 9 | 0":  {Err: api.ErrOp, At: 4},
		"bool -1; ret; uint 0 1; uint 1 1; jump 6 | 0":    {Err: api.ErrOp, At: 4},
		"bool -1; ret; uint 0 1; uint 1 1; jump -1 | 0":   {Err: api.ErrOp, At: 4},
		"bool -1; ret; union 1; uint 0 1; uint 1 1 | 0":   {Err: api.ErrOp, At: 2},
		"bool -1; ret; uint 0 1; uint 1 1; call -1 1 | 0": {Err: api.ErrOp, At: 4},
		"call -1 0; ret | 0":                              bad(0),
	}
	for text, want := range decoder {
		p := written(false, text)
		if f := sound.Verify(p); f != want {
			t.Errorf("P15.2: Verify(%s) = %v, want %v", brief(p), f, want)
		}
		faultIs(t, p, want)
	}
	encoder := map[string]api.Fault{
		"ret | 0":                                          bad(0),
		"numbers 0 2 1; ret | 0":                           bad(0),
		"number 0 1; number 1 1; ret | 0":                  bad(1),
		"fields 2; number 0 1; ret | 0":                    bad(2),
		"fields 2; number 0 1; number 1 1 | 0":             bad(2),
		"fields 2; numbers 0 3 1; ret | 0":                 bad(1),
		"fields 2; number 0 1; number 1 1; number 2 1 | 0": bad(3),
		"many 2; number 0 1; number 1 1; ret | 0":          bad(1),
		"fields 2; number 0 1; number 1 1; ret | 1 0":      bad(2),
		"fields 2; number 0 1; number 1 1; ret | 4":        {Err: api.ErrPlace},
		"fields 2; number 0 1; number 1 5; ret | 0":        {Err: api.ErrOp, At: 2},
		"fields 2; number 0 1; number 16777216 1; ret | 0": {Err: api.ErrOp, At: 2},
		"fields 2; numbers 16777215 2 1; ret | 0":          {Err: api.ErrOp, At: 1},
		"fields 2; numbers 16777201 2 8; ret | 0":          {Err: api.ErrOp, At: 1},
		"fields 2; numbers 0 65 8; ret | 0":                {Err: api.ErrOp, At: 1},
		"fields 2; numbers 0 1 8; ret | 0":                 {Err: api.ErrOp, At: 1},
		"fields 2; numbers -1 2 8; ret | 0":                {Err: api.ErrOp, At: 1},
		"leb; ret; number 0 1; number 1 1; again 5 | 0":    {Err: api.ErrOp, At: 4},
	}
	for text, want := range encoder {
		p := written(true, text)
		if f := sound.Verify(p); f != want {
			t.Errorf("P15.2: Verify(%s) = %v, want %v", brief(p), f, want)
		}
		faultIs(t, p, want)
	}
}

// P19.1: with a fault the program is the zero one, whatever was answered ahead.
func TestZeroBesideError(t *testing.T) {
	for _, p := range []api.Program{everything(false), everything(true)} {
		for at := range p.Code {
			modelAll(t, p)
			with(&p.Code[at].Op, []int{0, 21, -1}, func() { faultIs(t, p, api.Fault{Err: api.ErrOp, At: formAt(p, at)}) })
		}
		for at := range p.Entry {
			with(&p.Entry[at], []int{-1, len(p.Code)}, func() { faultIs(t, p, api.Fault{Err: api.ErrPlace, At: at}) })
		}
	}
}

// formAt: where the form is missed, if one instruction is none: an arm is first missed by its union.
func formAt(p api.Program, at int) int {
	if owner := armOwner(p, at); owner >= 0 {
		return owner
	}
	return at
}

// filled: a program whose Split would have so many instructions: routines of structs of 64 fields, and others behind them.
func filled(encodes bool, n int) api.Program {
	p := api.Program{Encodes: encodes}
	routine := written(encodes, opening(encodes, 64)+several(encodes, 0, 64, 8)+"; ret")
	for ; n >= 66; n -= 66 {
		p.Entry = append(p.Entry, len(p.Code))
		p.Code = append(p.Code, routine.Code...)
	}
	for range n {
		p.Code = append(p.Code, api.Instr{Op: 19, B: p.Entry[len(p.Entry)-1] + 1})
	}
	return p
}

// tooLong holds a program that only Split refuses.
func tooLong(t *testing.T, p api.Program) {
	t.Helper()
	if q, f := fuse.Split(p); f != (api.Fault{Err: api.ErrLong}) || !isZero(q) {
		t.Errorf("P19.3: Split of %d instructions: %d, %v, want ErrLong at 0", len(p.Code), len(q.Code), f)
	}
	if q, f := fuse.Fuse(p); f != ok || sound.Verify(q) != ok || len(q.Code) > len(p.Code) {
		t.Errorf("P19.2: Fuse of %d instructions: %d, %v", len(p.Code), len(q.Code), f)
	}
}

// P19.3: an answer of MaxCode instructions, and one above.
func TestLongestSplit(t *testing.T) {
	for _, encodes := range []bool{false, true} {
		p := filled(encodes, api.MaxCode)
		q, f := fuse.Split(p)
		if want, _ := splitOf(p); f != ok || len(q.Code) != api.MaxCode || !code.Equal(q, want) {
			t.Fatalf("P19.3: Split of %d instructions: %d, %v", len(p.Code), len(q.Code), f)
		}
		if back, f := fuse.Fuse(q); f != ok || !code.Equal(back, p) {
			t.Errorf("P19.5: Fuse of Split of %d instructions: %d, %v", len(p.Code), len(back.Code), f)
		}
		if again, f := fuse.Split(q); f != ok || !code.Equal(again, q) {
			t.Errorf("P19.5: Split of Split of %d instructions: %d, %v", len(p.Code), len(again.Code), f)
		}
		tooLong(t, filled(encodes, api.MaxCode+1))
		tooLong(t, filled(encodes, api.MaxCode+64))
	}
}

// P19.3: of as many instructions as there may be none becomes more, one becomes two, all become MaxFields.
func TestSplitOfLongest(t *testing.T) {
	for _, encodes := range []bool{false, true} {
		p := written(encodes, head(encodes)+"| 0")
		p.Code = append(p.Code, slices.Repeat([]api.Instr{{Op: 20}}, api.MaxCode-len(p.Code))...)
		splitIs(t, p, p)
		joint := written(encodes, several(encodes, 0, 2, 1)).Code[0]
		p.Code[api.MaxCode-1] = joint
		tooLong(t, p)
		joint.B = 64
		copy(p.Code[2:], slices.Repeat([]api.Instr{joint}, api.MaxCode-2))
		tooLong(t, p)
	}
}

// P19.3: sound.Verify's fault comes ahead of ErrLong.
func TestFaultAheadOfLong(t *testing.T) {
	p := filled(false, api.MaxCode+70)
	last := p.Entry[len(p.Entry)-1]
	with(&p.Code[last+1].A, []int{1}, func() { faultIs(t, p, api.Fault{Err: api.ErrOp, At: last + 1}) })
	with(&p.Code[last], []api.Instr{{Op: 5}}, func() { faultIs(t, p, bad(last+1)) })
	with(&p.Entry[1], []int{len(p.Code)}, func() { faultIs(t, p, api.Fault{Err: api.ErrPlace, At: 1}) })
	tooLong(t, p)
	for len(p.Code) <= api.MaxCode {
		p.Code = append(p.Code, api.Instr{Op: 20})
	}
	faultIs(t, p, api.Fault{Err: api.ErrLong})
}
