package frames_test

import (
	"testing"

	"mortise/api"
)

// P22.2 to P22.8, P22.10, P22.11: scripts of calls thrown by chance, held against a plain stack, with a Save and a Load here and there.
func TestScripts(t *testing.T) {
	d := dice(41)
	for n := range 300 {
		x := newTwin(t, 1+n%12)
		for k := range 150 {
			d.step(x)
			if k%17 == n%17 {
				x = x.loaded()
			}
		}
		x.empty()
	}
}

// P22.11: scripts that go deep, and come back.
func TestDeepScripts(t *testing.T) {
	d := dice(42)
	for n := range 8 {
		x := newTwin(t, 400)
		for x.s.Len() < 300+n {
			d.step(x)
			x.push(d.frame())
		}
		for x.s.Len() > n {
			d.step(x)
			x.pop()
			x.pop()
		}
		x = x.loaded()
		x.empty()
		wantCounts(t, "Pop", x.s, 0, x.m.high)
	}
}

// P22.2 to P22.7: all scripts of a few calls.
func TestShortScripts(t *testing.T) {
	odd := exampleG()
	odd.End = -2
	calls := []func(x *twin){
		func(x *twin) { x.push(exampleF()) },
		func(x *twin) { x.push(exampleG()) },
		func(x *twin) { x.push(odd) },
		func(x *twin) { x.pop() },
		func(x *twin) { x.set(withTable(exampleF(), 9)) },
		func(x *twin) { x.goes(api.Frame{Routine: 9}) },
		func(x *twin) { x.goes(odd) },
		func(x *twin) { x.mark(0) },
		func(x *twin) { x.mark(-1) },
	}
	for most := 1; most <= 2; most++ {
		// Each number says a script, call by call, in as many digits as there are calls.
		for script := range 9 * 9 * 9 * 9 * 9 {
			x := newTwin(t, most)
			for left := script; left > 0; left /= len(calls) {
				calls[left%len(calls)](x)
			}
			x.loaded().empty()
		}
	}
}
