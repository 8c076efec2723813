package flow_test

import (
	"math"
	"slices"
	"testing"

	"mortise/api"
	"mortise/code"
	"mortise/flow"
	"mortise/sound"
)

// wordsOf: the chapter's word 'the successors', in the order in which it names them, as often as it does.
func wordsOf(p api.Program, at int) (out []int) {
	i := p.Code[at]
	switch nameOf(i.Op) {
	case "ret":
	case "jump", "arm":
		out = []int{i.B}
	case "union", "choice":
		for k := 1; k <= i.A; k++ {
			out = append(out, at+k)
		}
	case "option", "first", "slots", "item", "less", "parts", "maybe", "again":
		out = []int{at + 1, i.B}
	default:
		out = []int{at + 1}
	}
	return slices.DeleteFunc(out, func(n int) bool { return n < 0 || n >= len(p.Code) })
}

// successorsOf: the same, rising and none twice.
func successorsOf(p api.Program, at int) (out []int) {
	named := wordsOf(p, at)
	for n := range p.Code {
		if slices.Contains(named, n) {
			out = append(out, n)
		}
	}
	return out
}

// reachedOf: entries, and what is added till nothing more is.
func reachedOf(p api.Program) []bool {
	out := make([]bool, len(p.Code))
	for _, entry := range p.Entry {
		out[entry] = true
	}
	for grown := true; grown; {
		grown = false
		for at := range p.Code {
			if !out[at] {
				continue
			}
			for _, to := range wordsOf(p, at) {
				grown = grown || !out[to]
				out[to] = true
			}
		}
	}
	return out
}

// blocksOf: P18.4, word by word.
func blocksOf(p api.Program) (out []int) {
	reached := reachedOf(p)
	from := make([][]int, len(p.Code))
	for at := range p.Code {
		for _, to := range successorsOf(p, at) {
			if reached[at] {
				from[to] = append(from[to], at)
			}
		}
	}
	for at := range p.Code {
		entry := slices.Contains(p.Entry, at)
		fromElsewhere := slices.ContainsFunc(from[at], func(n int) bool { return n != at-1 })
		ahead := at > 0 && (!reached[at-1] || !slices.Equal(successorsOf(p, at-1), []int{at}))
		if reached[at] && (entry || fromElsewhere || ahead) {
			out = append(out, at)
		}
	}
	return out
}

// endOf: the chapter's word 'the end of a target'. As many jumps as there are instructions, and one more, go round in a ring.
func endOf(p api.Program, k int) int {
	at := k
	for range len(p.Code) + 1 {
		if nameOf(p.Code[at].Op) != "jump" {
			return at
		}
		at = p.Code[at].B
	}
	return k
}

// threadOf: P18.5, word by word.
func threadOf(p api.Program) api.Program {
	q := api.Program{Encodes: p.Encodes, Code: slices.Clone(p.Code), Entry: slices.Clone(p.Entry)}
	for at, i := range p.Code {
		if targeted(i.Op) {
			q.Code[at].B = endOf(p, i.B)
		}
	}
	for at, entry := range p.Entry {
		q.Entry[at] = endOf(p, entry)
	}
	return q
}

// someNumbers: those of all instructions, if they are few, and such as are none's.
func someNumbers(p api.Program) []int {
	out := []int{math.MinInt, -1 << 32, -2, -1, len(p.Code) - 1, len(p.Code), len(p.Code) + 1, api.MaxCode, 1 << 32, math.MaxInt}
	for at := range min(len(p.Code), 300) {
		out = append(out, at)
	}
	return out
}

// faultIs holds all calls against a program that is not taken.
func faultIs(t *testing.T, p api.Program, want api.Fault) {
	t.Helper()
	for _, at := range []int{math.MinInt, -1, 0, len(p.Code), math.MaxInt} {
		if l, e := flow.Targets(p, at); e != want.Err || l != nil {
			t.Fatalf("P18.2: Targets(%s, %d) = %v, %d, want error %d", brief(p), at, l, e, want.Err)
		}
	}
	if l, f := flow.Reach(p); f != want || l != nil {
		t.Fatalf("P18.3: Reach(%s) = %v, %v, want %v", brief(p), l, f, want)
	}
	if l, f := flow.Blocks(p); f != want || l != nil {
		t.Fatalf("P18.4: Blocks(%s) = %v, %v, want %v", brief(p), l, f, want)
	}
	if q, f := flow.Thread(p); f != want || q.Code != nil || q.Entry != nil || q.Encodes {
		t.Fatalf("P18.5: Thread(%s) = %s, %v, want %v", brief(p), brief(q), f, want)
	}
}

// targetsAre holds Targets against the successors of an instruction.
func targetsAre(t *testing.T, p api.Program, at int, want ...int) {
	t.Helper()
	if l, e := flow.Targets(p, at); e != api.OK || !slices.Equal(l, want) {
		t.Fatalf("P18.2: Targets(%s, %d) = %v, %d, want %v", brief(p), at, l, e, want)
	}
}

// nowhere holds Targets against a number that is no instruction's.
func nowhere(t *testing.T, p api.Program, at int) {
	t.Helper()
	if l, e := flow.Targets(p, at); e != api.ErrPlace || l != nil {
		t.Fatalf("P18.2: Targets(%s, %d) = %v, %d, want ErrPlace", brief(p), at, l, e)
	}
}

// reachIs holds Reach against the numbers of what is reached.
func reachIs(t *testing.T, p api.Program, want ...int) {
	t.Helper()
	l, f := flow.Reach(p)
	if f != ok || len(l) != len(p.Code) {
		t.Fatalf("P18.3: Reach(%s) = %v, %v", brief(p), l, f)
	}
	for at, is := range l {
		if is != slices.Contains(want, at) {
			t.Fatalf("P18.3: Reach(%s) = %v, want %v", brief(p), l, want)
		}
	}
}

// blocksAre holds Blocks against the numbers that begin one.
func blocksAre(t *testing.T, p api.Program, want ...int) {
	t.Helper()
	if l, f := flow.Blocks(p); f != ok || !slices.Equal(l, want) {
		t.Fatalf("P18.4: Blocks(%s) = %v, %v, want %v", brief(p), l, f, want)
	}
}

// threadIs holds Thread against a program.
func threadIs(t *testing.T, p, want api.Program) {
	t.Helper()
	if q, f := flow.Thread(p); f != ok || !code.Equal(q, want) {
		t.Fatalf("P18.5: Thread(%s) = %s, %v, want %s", brief(p), brief(q), f, brief(want))
	}
}

// modelAll holds all calls against the model, or against sound.Verify's fault; the fault.
func modelAll(t *testing.T, p api.Program) api.Fault {
	t.Helper()
	if f := sound.Verify(p); f != ok {
		faultIs(t, p, f)
		return f
	}
	for _, at := range someNumbers(p) {
		if at < 0 || at >= len(p.Code) {
			nowhere(t, p, at)
		} else {
			targetsAre(t, p, at, successorsOf(p, at)...)
		}
	}
	if l, f := flow.Reach(p); f != ok || !slices.Equal(l, reachedOf(p)) {
		t.Fatalf("P18.3: Reach(%s) = %v, %v, want %v", brief(p), l, f, reachedOf(p))
	}
	blocksAre(t, p, blocksOf(p)...)
	threadIs(t, p, threadOf(p))
	return ok
}
