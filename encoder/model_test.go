package encoder_test

import (
	"encoding/binary"
	"math"
	"slices"
	"testing"

	"mortise/api"
	"mortise/encoder"
	"mortise/sound"
	"mortise/value"
)

// scene: the encoder's machine as chapter 14's words tell it. What it writes it keeps byte by byte, by places, so that zeros take no room.
type scene struct {
	p      api.Program
	v      []api.Node
	taken  int
	at     map[int]byte // of the output; what is not there is 0
	length int
	steps  int
	fault  api.Fault
}

// spot: a frame, and the instruction that it goes on with.
type spot struct{ at, base, node, next int }

// sceneOf: what becomes of a value whose nodes sound code walks.
func sceneOf(p api.Program, t int, v []api.Node) *scene {
	x := &scene{p: p, v: v, at: map[int]byte{}}
	x.routine(t, 0)
	if x.fault == ok && x.taken < len(v) {
		x.fault = fault(api.ErrNode, x.taken)
	}
	return x
}

// routine: from its beginning to its ret, unless there is an error.
func (x *scene) routine(t, base int) {
	f := spot{at: x.p.Entry[t], base: base, node: -1}
	for x.fault == ok {
		i := x.p.Code[f.at]
		f.at++
		x.do(&f, i)
		if x.fault == ok && !isCall(i) {
			x.steps++
		}
		if i.Op == 20 {
			return
		}
	}
}

func isCall(i api.Instr) bool { return i.Op >= 44 && i.Op <= 46 }

// call: is done ahead of what it calls.
func (x *scene) call(t, base int) {
	x.steps++
	x.routine(t, base)
}

// take: a node; whether there is one of this kind.
func (x *scene) take(kind int) (api.Node, bool) {
	if x.taken == len(x.v) {
		x.fault = fault(api.ErrNode, len(x.v))
		return api.Node{}, false
	}
	n := x.v[x.taken]
	if n.Kind != kind {
		x.fault = fault(api.ErrKind, x.taken)
		return api.Node{}, false
	}
	x.taken++
	return n, true
}

// wrong: of the node that was taken last.
func (x *scene) wrong(e api.Errno) { x.fault = fault(e, x.taken-1) }

func (x *scene) put(at int, bytes ...byte) {
	for k, c := range bytes {
		x.at[at+k] = c
	}
	x.length = max(x.length, at+len(bytes))
}

func (x *scene) number(at, width int) {
	n, is := x.take(api.NodeUint)
	switch {
	case !is:
	case width < 8 && n.N >= 1<<(8*width):
		x.wrong(api.ErrValue)
	default:
		x.put(at, binary.LittleEndian.AppendUint64(nil, n.N)[:width]...)
	}
}

func (x *scene) do(f *spot, i api.Instr) {
	switch nameOf(i.Op) {
	case "number":
		if i.A == -1 {
			i.A = i.B * f.next
			f.next++
		}
		x.number(f.base+i.A, i.B)
	case "numbers":
		for k := 0; k < i.B && x.fault == ok; k++ {
			x.number(f.base+i.A+k*i.C, i.C)
		}
	case "flag":
		if i.A == -1 {
			i.A = f.next
			f.next++
		}
		if n, is := x.take(api.NodeBool); is {
			x.put(f.base+i.A, byte(n.N))
		}
	case "leb":
		if n, is := x.take(api.NodeUint); is {
			x.put(x.length, binary.AppendUvarint(nil, n.N)...)
		}
	case "many", "upto", "fields":
		x.enter(f, i)
	case "maybe", "choice":
		x.tagged(f, i)
	case "room":
		if i.A == -1 {
			i.A = 4 * x.v[f.node].Kids
		}
		x.length = max(x.length, f.base+i.A)
	case "slot":
		if i.A == -1 {
			i.A = 4 * f.next
		}
		x.put(f.base+i.A, binary.LittleEndian.AppendUint64(nil, uint64(x.length-f.base))[:4]...)
	case "enter":
		x.call(i.C, f.base+i.A)
	case "each":
		f.next++
		x.call(i.C, f.base+i.A*(f.next-1))
	case "append":
		f.next++
		x.call(i.C, x.length)
	case "again":
		if f.next < x.v[f.node].Kids {
			f.at = i.B
		}
	case "jump":
		f.at = i.B
	}
}

func (x *scene) enter(f *spot, i api.Instr) {
	kind := api.NodeSeq
	if i.Op == 39 {
		kind = api.NodeStruct
	}
	n, is := x.take(kind)
	if is && (n.Kids > i.A || n.Kids < i.A && i.Op != 38) {
		x.wrong(api.ErrItems)
	}
	f.node, f.next = x.taken-1, 0
}

func (x *scene) tagged(f *spot, i api.Instr) {
	if i.Op == 40 {
		if n, is := x.take(api.NodeOption); is {
			x.put(f.base, byte(n.Kids))
			f.at = []int{i.B, f.at}[n.Kids]
		}
		return
	}
	n, is := x.take(api.NodeUnion)
	if !is {
		return
	}
	arms := x.p.Code[f.at : f.at+i.A]
	k := slices.IndexFunc(arms, func(arm api.Instr) bool { return uint64(arm.A) == n.N })
	if k < 0 {
		x.wrong(api.ErrArm)
		return
	}
	x.put(f.base, byte(n.N))
	f.at = arms[k].B
}

// bytes: of the output, which is not too long to be looked at.
func (x *scene) bytes() []byte {
	out := make([]byte, x.length)
	for at, c := range x.at {
		out[at] = c
	}
	return out
}

// over: the fault of a run that goes well but for its cap.
func (x *scene) over(most int) api.Fault {
	if x.fault == ok && x.length > most {
		return fault(api.ErrLong, 0)
	}
	return x.fault
}

// capsOf: the caps that a run is held against: about its length all, if it is short.
func capsOf(length int) []int {
	out := []int{0, 1, length / 2, length - 1, length, length + 1, length + 2, 2 * length, 1 << 20, api.MaxSize, api.MaxNumber, api.Huge, math.MaxInt - 1, math.MaxInt}
	for k := range min(length, 12) {
		out = append(out, k)
	}
	slices.Sort(out)
	out = slices.Compact(out)
	return slices.DeleteFunc(out, func(most int) bool { return most < 0 })
}

// asModel holds Run and Steps against the model, at many caps; of code that sound.Verify takes, and a value.
func asModel(t *testing.T, p api.Program, n int, v []api.Node) *scene {
	t.Helper()
	return asModelUnder(t, p, n, v, capsOf)
}

// asModelUnder: under caps which the length that the output comes to says.
func asModelUnder(t *testing.T, p api.Program, n int, v []api.Node, caps func(length int) []int) *scene {
	t.Helper()
	if f := sound.Verify(p); f != ok {
		t.Fatalf("the test's code is refused: %s: %v", brief(p), f)
	}
	if f := value.Check(v); f != ok {
		t.Fatalf("the test's value is none: %v: %v", v, f)
	}
	x := sceneOf(p, n, v)
	if x.fault.Err == api.ErrNode {
		t.Fatalf("P24.2: sound code loses its way: %s: %s: %v", brief(p), briefValue(v), x.fault)
	}
	var want []byte
	if x.fault == ok && x.length < 1<<24 {
		want = x.bytes()
	}
	for _, most := range caps(x.length) {
		// Bytes so many are answered elsewhere.
		if x.fault == ok && most >= x.length && x.length >= 1<<24 {
			continue
		}
		runIs(t, p, n, v, most, want, x.steps, x.over(most))
	}
	return x
}

// runIs: what Run and Steps answer.
func runIs(t *testing.T, p api.Program, n int, v []api.Node, most int, bytes []byte, steps int, f api.Fault) {
	t.Helper()
	if f != ok {
		bytes, steps = nil, 0
	}
	if is, g := encoder.Run(p, n, v, most); g != f || !slices.Equal(is, bytes) || f != ok && is != nil {
		t.Fatalf("P24.2: Run(%s, %d, %s, %d) = %s, %v, want %s, %v", brief(p), n, briefValue(v), most, briefBytes(is), g, briefBytes(bytes), f)
	}
	if is, g := encoder.Steps(p, n, v, most); g != f || is != steps {
		t.Fatalf("P24.3: Steps(%s, %d, %s, %d) = %d, %v, want %d, %v", brief(p), n, briefValue(v), most, is, g, steps, f)
	}
}

func checkOf(v []api.Node) api.Fault { return value.Check(v) }
