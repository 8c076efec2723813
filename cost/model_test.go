package cost_test

import (
	"fmt"
	"slices"
	"strconv"
	"strings"
	"testing"

	"mortise/api"
	"mortise/cost"
	"mortise/sound"
)

// What is counted: steps, or nodes.
const (
	inSteps = iota
	inNodes
)

// counted: how many of them an instruction is.
func counted(what int, i api.Instr) int {
	if what == inSteps || slices.Contains(strings.Fields("uint uints bool varint seq struct option union"), nameOf(i.Op)) {
		return 1
	}
	return 0
}

// isTaker: chapter 21's words 'instructions that take', first aside.
func isTaker(i api.Instr) bool {
	return slices.Contains(strings.Fields("uint uints bool varint option union offset"), nameOf(i.Op))
}

func isCall(i api.Instr) bool { return nameOf(i.Op) == "call" || nameOf(i.Op) == "part" }

// waysOf: chapter 15's table of where an instruction may go on.
func waysOf(p api.Program, at int) (out []int) {
	i := p.Code[at]
	switch nameOf(i.Op) {
	case "ret":
	case "jump":
		out = []int{i.B}
	case "union":
		for k := range i.A {
			out = append(out, p.Code[at+1+k].B)
		}
	case "option", "first", "slots", "item", "less", "parts":
		out = []int{at + 1, i.B}
	default:
		out = []int{at + 1}
	}
	return out
}

// withoutBytes: those of them on which nothing is taken, and parts isn't left to its target.
func withoutBytes(p api.Program, at int) []int {
	i := p.Code[at]
	switch {
	case isTaker(i):
		return nil
	case nameOf(i.Op) == "first":
		return []int{i.B}
	case nameOf(i.Op) == "parts":
		return []int{at + 1}
	}
	return waysOf(p, at)
}

// rounds: look is called again and again, till it has changed nothing.
func rounds(look func() (changed bool)) {
	for look() {
	}
}

// routineOf: the instructions to which ways lead from an entry on, and it itself.
func routineOf(p api.Program, entry int) []bool {
	out := make([]bool, len(p.Code))
	work := []int{entry}
	for len(work) > 0 {
		at := work[0]
		work = work[1:]
		if !out[at] {
			out[at] = true
			work = append(work, waysOf(p, at)...)
		}
	}
	return out
}

// words: chapter 21's words of a program, each told of every instruction, or type.
type words struct {
	inside []bool
	z, s   [2][]int // in steps, in nodes; z: -1, if there is no way without bytes
	depth  []int
}

// wordsOf: word by word, with nothing remembered but the numbers of the round ahead.
func wordsOf(p api.Program) words {
	n := len(p.Code)
	w := words{inside: make([]bool, n)}
	for _, entry := range p.Entry {
		depth := 1
		for at, is := range routineOf(p, entry) {
			w.inside[at] = w.inside[at] || is
			if is && isCall(p.Code[at]) {
				depth = max(depth, 1+w.depth[p.Code[at].C])
			}
		}
		w.depth = append(w.depth, depth)
	}
	for what := range 2 {
		w.z[what], w.s[what] = slices.Repeat([]int{-1}, n), make([]int, n)
		for _, round := range []func(what int, p api.Program, at int) bool{w.roundOfZ, w.roundOfS} {
			rounds(func() (changed bool) {
				for at, is := range w.inside {
					changed = is && round(what, p, at) || changed
				}
				return changed
			})
		}
	}
	return w
}

// roundOfZ: chapter 21's word 'Z', by those of the ways as they are known; whether it is another one.
func (w words) roundOfZ(what int, p api.Program, at int) bool {
	i, z := p.Code[at], -1
	own := counted(what, i)
	switch {
	case nameOf(i.Op) == "ret":
		z = own
	case isCall(i):
		if inner, behind := w.z[what][p.Entry[i.C]], w.z[what][at+1]; inner >= 0 && behind >= 0 {
			z = own + inner + behind
		}
	default:
		for _, to := range withoutBytes(p, at) {
			if behind := w.z[what][to]; behind >= 0 {
				z = max(z, own+behind)
			}
		}
	}
	was := w.z[what][at]
	w.z[what][at] = z
	return z != was
}

// roundOfS: the same of the word 'Straight'.
func (w words) roundOfS(what int, p api.Program, at int) bool {
	i := p.Code[at]
	own := counted(what, i)
	s := own
	if isCall(i) {
		entry := p.Entry[i.C]
		s = own + w.s[what][entry]
		if inner := w.z[what][entry]; inner >= 0 {
			s = max(s, own+inner+w.s[what][at+1])
		}
	} else {
		for _, to := range withoutBytes(p, at) {
			s = max(s, own+w.s[what][to])
		}
	}
	was := w.s[what][at]
	w.s[what][at] = s
	return s != was
}

// most: the greatest of numbers, 0 of none.
func most(l []int) int { return slices.Max(append(slices.Clone(l), 0)) }

// cost: P21.3, word by word. No program that is small enough for the model comes near to Huge.
func (w words) cost() api.Cost {
	depth := most(w.depth)
	return api.Cost{Steps: (depth + 1) * most(w.s[inSteps]), Nodes: (depth + 1) * most(w.s[inNodes]), Depth: depth}
}

// faultIs holds both calls against a program that is not taken.
func faultIs(t *testing.T, p api.Program, want api.Fault) {
	t.Helper()
	if c, f := cost.Of(p); f != want || c != (api.Cost{}) {
		t.Fatalf("P21.1: Of(%s) = %v, %v, want %v", brief(p), c, f, want)
	}
	if l, f := cost.Straight(p); f != want || l != nil {
		t.Fatalf("P21.1: Straight(%s) = %v, %v, want %v", brief(p), l, f, want)
	}
}

// straightIs holds Straight against a list.
func straightIs(t *testing.T, p api.Program, want []int) {
	t.Helper()
	if l, f := cost.Straight(p); f != ok || !slices.Equal(l, want) {
		t.Fatalf("P21.2: Straight(%s) = %.600s, %v, want %.600s", brief(p), fmt.Sprint(l), f, fmt.Sprint(want))
	}
}

// costIs holds Of against a cost.
func costIs(t *testing.T, p api.Program, want api.Cost) {
	t.Helper()
	if c, f := cost.Of(p); f != ok || c != want {
		t.Fatalf("P21.3: Of(%s) = %v, %v, want %v", brief(p), c, f, want)
	}
}

// modelAll holds both calls against the model, or against the fault that is due; the fault.
func modelAll(t *testing.T, p api.Program) api.Fault {
	t.Helper()
	f := sound.Verify(p)
	if f == ok && p.Encodes {
		f = bad(0)
	}
	if f != ok {
		faultIs(t, p, f)
		return f
	}
	w := wordsOf(p)
	straightIs(t, p, w.s[inSteps])
	costIs(t, p, w.cost())
	return ok
}

// numbersOf: those that a text tells, parted by blanks.
func numbersOf(text string) (out []int) {
	for _, w := range strings.Fields(text) {
		n, err := strconv.Atoi(w)
		if err != nil {
			panic("the test's numbers: " + text)
		}
		out = append(out, n)
	}
	return out
}

// rowsAre: of each a program's text, S of each instruction, and its Steps, Nodes and Depth.
func rowsAre(t *testing.T, rows [][3]string) {
	t.Helper()
	for _, r := range rows {
		p := written(false, r[0])
		if f := sound.Verify(p); f != ok {
			t.Errorf("the test's program is refused: %s: %v", brief(p), f)
			continue
		}
		c := numbersOf(r[2])
		straightIs(t, p, numbersOf(r[1]))
		costIs(t, p, api.Cost{Steps: c[0], Nodes: c[1], Depth: c[2]})
		modelAll(t, p)
		follows(t, p)
	}
}
