package decoder_test

import (
	"bytes"
	"slices"
	"testing"

	"mortise/api"
	"mortise/decoder"
)

func newMachine(t *testing.T, p api.Program, n int) *decoder.Machine {
	t.Helper()
	m, e := decoder.New(p, n)
	if m == nil || e != api.OK {
		t.Fatalf("P23.2: New(%s, %d) = %v, %d, want a machine", brief(p), n, m != nil, e)
	}
	if is := toldOf(m); is != (told{}) {
		t.Fatalf("P23.5: of a new machine %+v", is)
	}
	return m
}

func toldOf(m *decoder.Machine) told { return told{m.At(), m.Steps(), m.Nodes(), m.Depth()} }

// loaded: the machine that Load answers of what Save of it does; what it tells is the same.
func loaded(t *testing.T, p api.Program, m *decoder.Machine) *decoder.Machine {
	t.Helper()
	before := toldOf(m)
	other, f := decoder.Load(p, m.Save())
	if other == nil || f != ok {
		t.Fatalf("P23.6: Load of Save = %v, %v: %s", other != nil, f, brief(p))
	}
	if toldOf(other) != before || toldOf(m) != before {
		t.Fatalf("P23.6: of a loaded machine %+v, of the one that was saved %+v, it was %+v", toldOf(other), toldOf(m), before)
	}
	return other
}

// copied: the machine that Copy answers.
func copied(t *testing.T, m *decoder.Machine) *decoder.Machine {
	t.Helper()
	other := m.Copy()
	if other == nil || other == m || toldOf(other) != toldOf(m) {
		t.Fatalf("P23.6: of a Copy %+v, of the machine %+v", toldOf(other), toldOf(m))
	}
	return other
}

// feedIs: Feed answers what is wanted, and so do At and the others behind it.
func feedIs(t *testing.T, m *decoder.Machine, chunk []byte, want end, what string) {
	t.Helper()
	f := m.Feed(chunk)
	if f != want.fault || toldOf(m) != want.told {
		t.Fatalf("P23.3, P23.5: Feed(%s) = %v, %+v, want %s: %s", briefBytes(chunk), f, toldOf(m), want, what)
	}
}

// endIs: the same of End.
func endIs(t *testing.T, m *decoder.Machine, want end, what string) {
	t.Helper()
	v, f := m.End()
	if f != want.fault || toldOf(m) != want.told || !slices.Equal(v, want.value) {
		t.Fatalf("P23.4, P23.5: End() = %v, %s, %+v, want %s: %s", f, briefValue(v), toldOf(m), want, what)
	}
}

// staysAt: behind an answer: the same to every Feed and End, of machines that are copied and loaded too.
func staysAt(t *testing.T, p api.Program, m *decoder.Machine, want end, what string) {
	t.Helper()
	ahead := want
	if want.fault == ok {
		ahead.fault = fault(api.ErrEnded, want.told.at)
	}
	for k := range 2 {
		for _, chunk := range [][]byte{nil, {}, {0}, {1, 2, 3}} {
			feedIs(t, m, chunk, ahead, "behind an answer: "+what)
		}
		endIs(t, m, want, "behind an answer: "+what)
		if k == 0 {
			endIs(t, copied(t, m), want, "of a Copy behind an answer: "+what)
			m = loaded(t, p, m)
		}
	}
}

// goesThrough: a machine that is fed byte by byte; held against the model behind each, and ended there. Which machine goes on, the first one, a Copy or a loaded one, changes from byte to byte.
func goesThrough(t *testing.T, p api.Program, n int, b []byte) end {
	t.Helper()
	what := brief(p) + ": " + briefBytes(b)
	m := newMachine(t, p, n)
	// The machine that nothing is done to but to be fed.
	plainly := newMachine(t, p, n)
	chunk := []byte{0}
	for k := range len(b) + 1 {
		want := modelOf(p, n, b[:k], false)
		if k > 0 {
			chunk[0] = b[k-1]
			feedIs(t, m, chunk, want, what)
			feedIs(t, plainly, chunk, want, what)
			chunk[0] = ^b[k-1]
		}
		if want.fault == ok {
			over := modelOf(p, n, b[:k], true)
			endIs(t, m.Copy(), over, what)
			endIs(t, loaded(t, p, m), over, what)
		}
		switch k % 3 {
		case 1:
			m = copied(t, m)
		case 2:
			m = loaded(t, p, m)
		}
		feedIs(t, m, nil, want, what)
		if want.fault != ok {
			staysAt(t, p, m, want, what)
			staysAt(t, p, plainly, want, what)
			return want
		}
		if m.At() != k {
			t.Fatalf("P23.11: %s: Feed of %d bytes is OK, but At is %d", what, k, m.At())
		}
	}
	want := modelOf(p, n, b, true)
	endIs(t, plainly, want, what)
	endIs(t, m, want, what)
	staysAt(t, p, m, want, what)
	staysAt(t, p, plainly, want, what)
	return want
}

// runs: all at once, by Run, and by Feed and End.
func runs(t *testing.T, p api.Program, n int, b []byte) end {
	t.Helper()
	what := brief(p) + ": " + briefBytes(b)
	want := modelOf(p, n, b, true)
	v, f := decoder.Run(p, n, b)
	if f != want.fault || !slices.Equal(v, want.value) {
		t.Fatalf("P23.7: Run = %s, %v, want %s: %s", briefValue(v), f, want, what)
	}
	m := newMachine(t, p, n)
	feedIs(t, m, b, modelOf(p, n, b, false), what)
	endIs(t, m, want, what)
	return want
}

// cutRuns: in chunks as the dice say, empty ones among them, of which each is written over behind its call; copied, saved and loaded here and there.
func cutRuns(t *testing.T, d *dice, p api.Program, n int, b []byte, want end) {
	t.Helper()
	m := newMachine(t, p, n)
	memory := make([]byte, len(b))
	for from := 0; from < len(b) || d.below(3) == 0; {
		length := min(len(b)-from, d.oneOf(0, 0, 1, 1, 2, 3, 5, 9, 30))
		chunk := append(memory[:0], b[from:from+length]...)
		m.Feed(chunk)
		if !bytes.Equal(chunk, b[from:from+length]) {
			t.Fatalf("P23.1: Feed changes what is handed in")
		}
		for k := range memory {
			memory[k] = byte(d.below(256))
		}
		from += length
		switch d.below(6) {
		case 0:
			m = copied(t, m)
		case 1:
			m = loaded(t, p, m)
		}
	}
	endIs(t, m, want, "P23.8, P23.13: in chunks: "+brief(p)+": "+briefBytes(b))
}

// all: everything that is held against the model, of some bytes.
func all(t *testing.T, d *dice, p api.Program, n int, b []byte) end {
	t.Helper()
	want := runs(t, p, n, b)
	if is := goesThrough(t, p, n, b); is.fault != want.fault || is.told != want.told {
		t.Fatalf("P23.8: %s: %s: byte by byte %s, whole %s", brief(p), briefBytes(b), is, want)
	}
	for range 3 {
		cutRuns(t, d, p, n, b, want)
	}
	return want
}
