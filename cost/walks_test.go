package cost_test

import (
	"testing"
	"unicode/utf8"

	"mortise/api"
)

// fewWalks: how many walks, or spots, of one program are gone through at most; of one that has more, the first ones.
const fewWalks = 3000

// walk: all walks from an instruction on until one that takes has been done, or the routine's ret, every way tried; calls are gone into. left: how many walks may still end.
type walk struct {
	p    api.Program
	what int
	most int
	left int
}

// from: with so much behind it; below: where the calls go on.
func (w *walk) from(at, sum int, below []int) {
	if w.left == 0 {
		return
	}
	i := w.p.Code[at]
	sum += counted(w.what, i)
	switch {
	case isTaker(i), nameOf(i.Op) == "ret" && len(below) == 0:
		w.end(sum)
	case nameOf(i.Op) == "ret":
		last := len(below) - 1
		w.from(below[last], sum, below[:last:last])
	case isCall(i):
		w.from(w.p.Entry[i.C], sum, append(below, at+1))
	default:
		if nameOf(i.Op) == "first" {
			w.end(sum)
		}
		for _, to := range withoutBytes(w.p, at) {
			w.from(to, sum, below)
		}
	}
}

func (w *walk) end(sum int) {
	w.left--
	w.most = max(w.most, sum)
}

// walksAreStraight: P21.2, P21.4: from each instruction on the longest walk is as long as S, or N, says; that of a program with very many is no longer.
func walksAreStraight(t *testing.T, p api.Program) {
	t.Helper()
	words := wordsOf(p)
	for what := range 2 {
		for at, is := range words.inside {
			if !is {
				continue
			}
			w := walk{p: p, what: what, left: fewWalks}
			w.from(at, 0, nil)
			if want := words.s[what][at]; w.most > want || w.most < want && w.left > 0 {
				t.Fatalf("P21.2: %s: from %d on a walk makes %d (steps, nodes: %d), but the words say %d", brief(p), at, w.most, what, want)
			}
		}
	}
}

// spot: where a machine may be: at an instruction, and where the frames below go on, a letter each.
type spot struct {
	at    int
	below string
}

// segments: what a program makes between two instructions that take.
type segments struct {
	p      api.Program
	longer map[spot][2]int // the most steps and nodes from a spot on
	met    map[spot]bool
	starts []spot // where something has just been taken
	frames int    // the most
}

// start: behind something that was taken, or at an entry.
func (s *segments) start(at int, below string) {
	if x := (spot{at, below}); !s.met[x] {
		s.met[x] = true
		s.starts = append(s.starts, x)
	}
}

// from: the most steps and nodes from a spot on until something is taken, a round of parts begins, or the program is through. Here nothing stops at a routine's ret.
func (s *segments) from(x spot) [2]int {
	if n, is := s.longer[x]; is {
		return n
	}
	s.frames = max(s.frames, 1+utf8.RuneCountInString(x.below))
	i := s.p.Code[x.at]
	own := [2]int{counted(inSteps, i), counted(inNodes, i)}
	n := own
	on := func(to spot) {
		behind := s.from(to)
		n = [2]int{max(n[0], own[0]+behind[0]), max(n[1], own[1]+behind[1])}
	}
	switch {
	case isTaker(i):
		for _, to := range waysOf(s.p, x.at) {
			s.start(to, x.below)
		}
	case isCall(i):
		on(spot{s.p.Entry[i.C], x.below + string(rune(x.at+1))})
	case nameOf(i.Op) == "ret":
		if next, size := utf8.DecodeLastRuneInString(x.below); size > 0 {
			on(spot{int(next), x.below[:len(x.below)-size]})
		}
	default:
		if nameOf(i.Op) == "first" {
			s.start(x.at+1, x.below)
		}
		if nameOf(i.Op) == "parts" {
			s.start(i.B, x.below)
		}
		for _, to := range withoutBytes(s.p, x.at) {
			on(spot{to, x.below})
		}
	}
	s.longer[x] = n
	return n
}

// segmentsAreWithin: P21.4: from every type's entry on, every way tried: between two instructions that take there are at most Steps steps and Nodes nodes, and there are never more than Depth frames.
func segmentsAreWithin(t *testing.T, p api.Program) {
	t.Helper()
	c := wordsOf(p).cost()
	s := segments{p: p, longer: map[spot][2]int{}, met: map[spot]bool{}}
	for _, entry := range p.Entry {
		s.start(entry, "")
	}
	for len(s.starts) > 0 && len(s.met) < fewWalks {
		x := s.starts[0]
		s.starts = s.starts[1:]
		if n := s.from(x); n[0] > c.Steps || n[1] > c.Nodes || s.frames > c.Depth {
			t.Fatalf("P21.4: %s: from %v on %v steps and nodes, with at most %d frames, but it costs %v", brief(p), x, n, s.frames, c)
		}
	}
	if len(s.starts) == 0 && s.frames != c.Depth {
		t.Fatalf("P21.3: %s: there are never more than %d frames, but Depth is %d", brief(p), s.frames, c.Depth)
	}
}

// standIn: a machine that has no bytes: what they would say is thrown. Of it the steps, nodes and bytes are counted, and its frames.
type standIn struct {
	p                  api.Program
	d                  *dice
	still              int // how often of eight a way without bytes is gone
	frames             []seat
	steps, nodes, read int
}

// seat: a frame: where it goes on, its Next, how many positions its table has, and how many the first one asks for.
type seat struct{ at, next, table, slots int }

// kid: Next grows, if the kid comes by it.
func (f *seat) kid(a int) {
	if a == -1 {
		f.next++
	}
}

// step: does an instruction; false, if the bytes are at fault here, or it is through.
func (m *standIn) step() bool {
	f := &m.frames[len(m.frames)-1]
	i := m.p.Code[f.at]
	still := m.d.below(8) < m.still
	m.steps++
	m.nodes += counted(inNodes, i)
	f.at++
	switch nameOf(i.Op) {
	case "uint":
		m.read += i.B
		f.kid(i.A)
	case "uints":
		m.read += i.B * i.C
		m.nodes += i.B - 1
	case "bool", "varint":
		m.read++
		f.kid(i.A)
	case "option":
		m.read++
		if still {
			f.at = i.B
		}
	case "union":
		m.read++
		f.at = m.p.Code[f.at+m.d.below(i.A)].B
	case "offset":
		m.read += 4
		if f.table == 0 {
			f.slots = i.A / 4
		}
		f.table++
	case "first":
		if still {
			f.at = i.B
			break
		}
		m.read += 4
		f.table, f.slots = 1, 1+m.d.below(min(i.A, 5))
	case "jump":
		f.at = i.B
	case "slots":
		if f.table < f.slots {
			f.at = i.B
		}
	case "item":
		if still {
			f.at = i.B
		} else if f.next >= i.A {
			return false
		}
	case "less":
		if f.next < i.A {
			f.at = i.B
		}
	case "parts":
		if f.next < f.table {
			f.at = i.B
		}
	case "call", "part":
		f.kid(i.A)
		m.frames = append(m.frames, seat{at: m.p.Entry[i.C]})
	case "ret":
		m.frames = m.frames[:len(m.frames)-1]
	}
	return len(m.frames) > 0
}

// paidIsWithin: P21.4, by runs of a machine whose bytes are thrown: at every time it has made at most Steps (n + 1) steps and Nodes (n + 1) nodes of the n bytes so far, and has at most Depth frames.
func paidIsWithin(t *testing.T, p api.Program) {
	t.Helper()
	c := wordsOf(p).cost()
	d := dice(len(p.Code))
	for _, entry := range p.Entry {
		for still := range 9 {
			m := standIn{p: p, d: &d, still: still, frames: []seat{{at: entry}}}
			for on := true; on && m.steps < 300; {
				on = m.step()
				if n := m.read + 1; m.steps > c.Steps*n || m.nodes > c.Nodes*n || len(m.frames) > c.Depth {
					t.Fatalf("P21.4: %s: of %d bytes %d steps, %d nodes, %d frames, but it costs %v", brief(p), m.read, m.steps, m.nodes, len(m.frames), c)
				}
			}
		}
	}
}
