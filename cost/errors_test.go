package cost_test

import (
	"slices"
	"testing"

	"mortise/api"
	"mortise/raise"
	"mortise/sound"
)

// P21.1: programs that sound.Verify doesn't take, each with its fault.
func TestRefused(t *testing.T) {
	for text, want := range map[string]api.Fault{
		"ret | 0":                             bad(0),
		"jump 0 | 0":                          bad(0),
		"jump 1; jump 0 | 0":                  bad(0),
		"jump 1; jump 2; ret | 0":             bad(2),
		"ret; ret; bool -1 | 2":               bad(2),
		"ret; ret; bool -1; bool -1; ret | 2": bad(3),
		"bool -1; ret; seq; jump 3 | 0 2":     bad(3),
		"bool -1; ret; seq; a: item 9 r; jump a; r: ret | 0 2": bad(3),
		"seq; a: less 9 b; ret; b: jump a | 0":                 bad(1),
		"seq; a: first 9 b; ret; b: jump a | 0":                bad(1),
		"ret; struct; uint 0 1; uint 0 1; ret | 1":             bad(3),
		"bool -1; ret; arm 7 0 | 0 2":                          bad(2),
		"option 3; uint 0 1; jump 1; ret | 0":                  bad(1),
		// Types that call themselves, or those behind; types without bytes where nothing was taken, and one behind the other.
		"call -1 0; ret | 0":                                            bad(0),
		"call -1 1; ret; bool -1; ret | 0 2":                            bad(0),
		"seq; ret; call -1 0; ret | 0 2":                                bad(2),
		"seq; ret; struct; call 0 0; ret | 0 2":                         bad(3),
		"seq; ret; struct; bool 0; call 1 0; call 2 0; ret | 0 2":       bad(5),
		"seq; ret; seq; a: item 9 r; call -1 0; jump a; r: ret | 0 2":   bad(3),
		"bool -1; ret; seq; offset 4; p: parts b; ret; b: jump p | 0 2": bad(4),

		"bool -1; ret | 2":                            {Err: api.ErrPlace},
		"bool -1; ret | 0 -1":                         {Err: api.ErrPlace, At: 1},
		"| 0":                                         {Err: api.ErrPlace},
		"bool -1; ret; jump 3 | 0":                    {Err: api.ErrOp, At: 2},
		"bool -1; ret; uint 0 3 | 0":                  {Err: api.ErrOp, At: 2},
		"bool -1; ret; union 1; ret | 0":              {Err: api.ErrOp, At: 2},
		"bool -1; ret; union 1 | 0":                   {Err: api.ErrOp, At: 2},
		"bool -1; ret; union 2; arm 1 0; arm 1 0 | 0": {Err: api.ErrOp, At: 2},
		"bool -1; ret; call 0 1 | 0":                  {Err: api.ErrOp, At: 2},
		"call 0 0":                                    {Err: api.ErrOp},
	} {
		p := written(false, text)
		if f := sound.Verify(p); f != want {
			t.Errorf("P15.2: Verify(%s) = %v, want %v", brief(p), f, want)
		}
		faultIs(t, p, want)
	}
}

// P21.1: programs that encode: ErrCode at 0, if sound.Verify takes them.
func TestEncoders(t *testing.T) {
	for _, text := range []string{"", "leb; ret | 0", "leb; ret", "ret; leb; ret | 1", "leb; ret; many 3; each 1 0; again 3; ret | 0 2"} {
		p := written(true, text)
		if f := sound.Verify(p); f != ok {
			t.Fatalf("the test's program is refused: %s: %v", brief(p), f)
		}
		faultIs(t, p, bad(0))
	}
	for _, text := range schemaTexts() {
		p, e := raise.Encoder(schemaOf(t, text))
		if e != api.OK {
			t.Fatalf("P17.2: Encoder of %q: %d", text, e)
		}
		faultIs(t, p, bad(0))
		faultIs(t, optimised(t, p), bad(0))
	}
	// One that either machine may run.
	p := written(false, "jump 0; arm 3 1; ret")
	costIs(t, p, api.Cost{})
	p.Encodes = true
	faultIs(t, p, bad(0))
}

// P21.1: the order of the errors: that a program encodes comes behind all that sound.Verify has against it.
func TestOrder(t *testing.T) {
	for text, want := range map[string]api.Fault{
		"ret; leb | 1":                               bad(1),
		"ret; fields 2; number 0 1; ret | 1":         bad(3),
		"ret; upto 3; number -1 1; again 2; ret | 1": bad(2),
		"leb; ret; many 9; jump 3 | 0 2":             bad(3),
		"leb; ret; maybe 4; append 1; ret | 0 2":     bad(3),
		"leb; ret | 0 2":                             {Err: api.ErrPlace, At: 1},
		"leb; ret; again 3 | 0":                      {Err: api.ErrOp, At: 2},
		"leb; ret; number 0 5 | 5":                   {Err: api.ErrOp, At: 2},
		"leb; ret; append 1 | 0":                     {Err: api.ErrOp, At: 2},
	} {
		p := written(true, text)
		if f := sound.Verify(p); f != want {
			t.Errorf("P15.2: Verify(%s) = %v, want %v", brief(p), f, want)
		}
		faultIs(t, p, want)
	}
	// A decoder that says that it encodes: its first instruction is none of an encoder's.
	p := whole()
	p.Encodes = true
	faultIs(t, p, api.Fault{Err: api.ErrOp})
	long := api.Program{Encodes: true, Code: slices.Repeat([]api.Instr{{Op: -1}}, api.MaxCode+1), Entry: []int{-1}}
	faultIs(t, long, api.Fault{Err: api.ErrLong})
	long.Code = long.Code[1:]
	faultIs(t, long, api.Fault{Err: api.ErrOp})
}

// P21.1: with an error the other answer is its zero value, whatever was answered ahead.
func TestZeroBesideError(t *testing.T) {
	for _, p := range []api.Program{whole(), everything()} {
		for at := range p.Code {
			modelAll(t, p)
			with(&p.Code[at].Op, []int{0, 21, -1}, func() { faultIs(t, p, api.Fault{Err: api.ErrOp, At: formAt(p, at)}) })
		}
		for at := range p.Entry {
			with(&p.Entry[at], []int{-1, len(p.Code)}, func() { faultIs(t, p, api.Fault{Err: api.ErrPlace, At: at}) })
		}
	}
}

// formAt: where the form is missed, if one instruction is none: an arm is first missed by its union.
func formAt(p api.Program, at int) int {
	if owner := armOwner(p, at); owner >= 0 {
		return owner
	}
	return at
}

// P21.1: more than MaxCode instructions or types are refused, however few are come to.
func TestTooLong(t *testing.T) {
	p := written(false, "bool -1; ret | 0")
	p.Code = append(p.Code, slices.Repeat([]api.Instr{{Op: 20}}, api.MaxCode-1)...)
	faultIs(t, p, api.Fault{Err: api.ErrLong})
	p.Code = p.Code[:api.MaxCode]
	straightIs(t, p, append([]int{1, 1}, make([]int, api.MaxCode-2)...))
	costIs(t, p, costOf("2 2 1"))
	p.Code, p.Entry = p.Code[:2], make([]int, api.MaxCode+1)
	faultIs(t, p, api.Fault{Err: api.ErrLong})
	p.Entry = p.Entry[1:]
	straightIs(t, p, []int{1, 1})
	costIs(t, p, costOf("2 2 1"))
}
