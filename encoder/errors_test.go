package encoder_test

import (
	"math"
	"testing"

	"mortise/api"
	"mortise/sound"
	"mortise/value"
)

// refused: programs that sound.Verify refuses, and its faults.
func refused() map[string]api.Fault {
	return map[string]api.Fault{
		"number 0 3; ret | 0":                                 fault(api.ErrOp, 0),
		"number 0 1; ret; number 0 1; number 0 9; ret | 0":    fault(api.ErrOp, 3),
		"number 0 1; ret | 2":                                 fault(api.ErrPlace, 0),
		"number 0 1; ret | 0 7":                               fault(api.ErrPlace, 1),
		"ret | 0":                                             fault(api.ErrCode, 0),
		"number 0 1; ret; number 0 1; number 0 1; ret | 0 2":  fault(api.ErrCode, 3),
		"number 0 1; ret; fields 2; number 0 1; ret | 0 2":    fault(api.ErrCode, 4),
		"number 0 1; ret; upto 3; x: jump x | 0 2":            fault(api.ErrCode, 3),
		"number 0 1; ret; upto 3; x: room 1; again x | 0 2":   fault(api.ErrCode, 4),
		"number 0 1; ret; append 1; ret | 0 2":                fault(api.ErrCode, 2),
		"number 0 1; ret; many 3; x: leb; again x; ret | 0 2": fault(api.ErrCode, 3),
	}
}

// P24.2: what sound.Verify refuses is refused with its fault, ahead of all else: whatever the type's number, the cap and the nodes.
func TestRefusedPrograms(t *testing.T) {
	for text, f := range refused() {
		p := written(text)
		if g := sound.Verify(p); g != f {
			t.Fatalf("P15.2: Verify(%s) = %v, want %v", text, g, f)
		}
		for _, n := range []int{0, 1, 2, -1} {
			for _, most := range []int{-1, 0, 9} {
				for _, l := range [][]api.Node{v(u(7)), nil, v(b(1)), v(u(1), u(2))} {
					runIs(t, p, n, l, most, nil, 0, f)
				}
			}
		}
	}
	p := written("number 0 1; ret | 0")
	p.Code = append(make([]api.Instr, 0, api.MaxCode+1), p.Code...)[:api.MaxCode+1]
	runIs(t, p, 0, v(u(7)), 9, nil, 0, fault(api.ErrLong, 0))
}

// P24.2: a program of the other machine: told as such, or as what it is not.
func TestDecodersPrograms(t *testing.T) {
	decoder := api.Program{Code: []api.Instr{{Op: 1, A: -1, B: 1}, {Op: 20}}, Entry: []int{0}}
	for _, n := range []int{0, 1, -1, math.MaxInt} {
		for _, most := range []int{0, 1, -1, math.MinInt} {
			for _, l := range [][]api.Node{v(u(7)), nil, v(b(2))} {
				runIs(t, decoder, n, l, most, nil, 0, fault(api.ErrCode, 0))
			}
		}
	}
	told := decoder
	told.Encodes = true
	runIs(t, told, 0, v(u(7)), 9, nil, 0, fault(api.ErrOp, 0))
	encodes := taken(t, chapter)
	encodes.Encodes = false
	runIs(t, encodes, 0, v(u(7)), 9, nil, 0, fault(api.ErrOp, 0))
	// Programs without instructions and types: nothing is refused but the number.
	runIs(t, api.Program{}, 0, v(u(7)), 9, nil, 0, fault(api.ErrCode, 0))
	runIs(t, api.Program{Encodes: true}, 0, v(u(7)), 9, nil, 0, fault(api.ErrPlace, 0))
	runIs(t, api.Program{Encodes: true}, -1, nil, 9, nil, 0, fault(api.ErrPlace, 0))
	// Of a decoder's program that is refused itself sound's fault comes first.
	decoder.Code = decoder.Code[:1]
	runIs(t, decoder, 7, nil, -1, nil, 0, fault(api.ErrCode, 0))
	decoder.Code = []api.Instr{{Op: 1, A: -1, B: 1}, {Op: 20}, {Op: 47}}
	runIs(t, decoder, 7, nil, -1, nil, 0, fault(api.ErrOp, 2))
}

// P24.2: type numbers and caps at their bounds, ahead of what is wrong with the nodes, and of what an instruction would say.
func TestNumbers(t *testing.T) {
	p := taken(t, chapter)
	bad := [][]api.Node{nil, v(b(2)), v(u(1), u(2)), v(s(1)), v(u(256))}
	for _, l := range append(bad, v(u(7))) {
		for _, n := range []int{math.MinInt, -2, -1, 4, 5, 9, 1 << 20, 1 << 32, 1<<32 + 1, math.MaxInt} {
			for _, most := range []int{-1, 0, 99} {
				runIs(t, p, n, l, most, nil, 0, fault(api.ErrPlace, 0))
			}
		}
		for _, most := range []int{math.MinInt, math.MinInt + 1, -1 << 32, -2, -1} {
			for n := range 4 {
				runIs(t, p, n, l, most, nil, 0, fault(api.ErrPlace, 0))
			}
		}
	}
	for n, of := range []string{"7", "7", "[]", "{7, [], 8}"} {
		if x := asModel(t, p, n, nodes(t, of)); x.fault != ok {
			t.Errorf("P24.2: type %d, %s: %v", n, of, x.fault)
		}
	}
	for _, most := range []int{1, 2, math.MaxInt32, math.MaxInt} {
		runIs(t, p, 0, v(u(7)), most, []byte{7}, 2, ok)
	}
	runIs(t, p, 0, v(u(7)), 0, nil, 0, fault(api.ErrLong, 0))
}

// P24.2: nodes that value.Check refuses, with its fault: ahead of the run, whatever would have been wrong there, and at every cap.
func TestNoValues(t *testing.T) {
	p := taken(t, chapter)
	for _, l := range [][]api.Node{
		nil, {}, v(u(1), u(2)), v(s(1)), v(s(2), u(1)), v(s(2), u(1), b(2)), v(b(1), b(1)), v(b(2)), v(st(0)), v(st(65)),
		v(st(3), u(1), s(0)), v(st(3), u(256), s(0)), v(st(3), b(1), s(0), u(2), u(3)), v(st(3), u(256), s(0), u(2), u(3)),
		v(c(256), u(7)), v(c(3)), v(o(2), u(7), u(7)), v(api.Node{}), v(api.Node{Kind: 7}), v(api.Node{Kind: -1}), v(api.Node{Kind: math.MaxInt, N: 9, Kids: math.MinInt}),
		v(s(-1)), v(s(api.MaxCount + 1)), v(s(api.MaxCount)), v(s(math.MaxInt)), v(api.Node{Kind: api.NodeUint, N: 7, Kids: 1}, u(7)), v(api.Node{Kind: api.NodeSeq, N: 1}),
	} {
		f := value.Check(l)
		if f.Err != api.ErrNode {
			t.Fatalf("the test's nodes are a value: %v", l)
		}
		for n := range 4 {
			for _, most := range []int{0, 1, 99, math.MaxInt} {
				runIs(t, p, n, l, most, nil, 0, f)
			}
		}
	}
	if f := value.Check(v(s(2), u(1), b(2))); f != fault(api.ErrNode, 2) {
		t.Errorf("P4.2: Check = %v", f)
	}
}

// P24.2, P24.5: the first error of the run is the answer, at every cap; ErrLong comes last.
func TestErrorsAheadOfTheCap(t *testing.T) {
	p := taken(t, chapter)
	for _, x := range []struct {
		n     int
		value string
		f     api.Fault
	}{
		{3, "{256, [true], false}", fault(api.ErrValue, 1)},
		{3, "{1, [5, true], false}", fault(api.ErrKind, 4)},
		{3, "{1, [1, 2, 3, 4, 5, 6, 7, 8, 9, 10], false}", fault(api.ErrItems, 2)},
		{3, "{1, [1, 2, 3, 4, 5, 6, 7, 8, 9], 256}", fault(api.ErrValue, 12)},
		{3, "{1, [], true}", fault(api.ErrKind, 3)},
		{3, "{1, {5}, 256}", fault(api.ErrKind, 2)},
		{3, "{true, [5, true]}", fault(api.ErrItems, 0)},
		{3, "[true, [5, true]]", fault(api.ErrKind, 0)},
		{2, "[1, 2, some 3]", fault(api.ErrKind, 3)},
	} {
		if is := asModel(t, p, x.n, nodes(t, x.value)); is.fault != x.f {
			t.Errorf("P24.2: of %s %v, want %v", x.value, is.fault, x.f)
		}
		for _, most := range []int{0, 1, 5, 6, 7, 99, math.MaxInt} {
			runIs(t, p, x.n, nodes(t, x.value), most, nil, 0, x.f)
		}
	}
}
