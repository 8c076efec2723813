package frames_test

import (
	"bytes"
	"encoding/binary"
	"encoding/hex"
	"fmt"
	"math"
	"slices"
	"strings"
	"testing"

	"mortise/api"
	"mortise/frames"
)

// huge and many: the document's bounds, written out.
const (
	huge     = 1 << 62
	many     = 1 << 20
	mostCode = 1 << 20
)

// exampleF and exampleG: the frames of the chapter's worked examples.
func exampleF() api.Frame { return api.Frame{Routine: 3, At: 7, End: -1, Node: -1} }

func exampleG() api.Frame {
	return api.Frame{Routine: 3, At: 7, Base: 9, End: 300, Next: 2, Table: []int{12, 300}}
}

// withTable: a frame with another Table.
func withTable(f api.Frame, table ...int) api.Frame {
	f.Table = table
	return f
}

// fields: a frame's numbers in the order of its bytes, but for the Table's.
func fields(f *api.Frame) []*int {
	return []*int{&f.Routine, &f.At, &f.Base, &f.End, &f.Node, &f.Next}
}

// strangeNumbers: those at which something begins or ends, and those at which sums wrap.
func strangeNumbers() []int {
	return []int{math.MinInt, math.MinInt + 1, -huge - 1, -huge, -1 << 32, -1 << 31, -3, -2, -1, 0, 1, 2, 3, 127, 128, many - 1, many, many + 1, 1<<31 - 1, 1 << 31, 1 << 32, huge - 1, huge, huge + 1, huge + 2, math.MaxInt - 1, math.MaxInt}
}

// edges: the bounds, and what lies beside them.
func edges() []int { return []int{math.MinInt, -2, -1, 0, huge, huge + 1, math.MaxInt} }

func isFrom(least, n int) bool { return least <= n && n <= huge }

// isRight: the chapter's words 'a frame is right'.
func isRight(f api.Frame) bool {
	for _, n := range f.Table {
		if !isFrom(0, n) {
			return false
		}
	}
	return len(f.Table) <= many && isFrom(0, f.Routine) && isFrom(0, f.At) && isFrom(0, f.Base) && isFrom(-1, f.End) && isFrom(-1, f.Node) && isFrom(0, f.Next)
}

// same: nil and empty Tables are one.
func same(a, b api.Frame) bool {
	for k, n := range fields(&a) {
		if *n != *fields(&b)[k] {
			return false
		}
	}
	return slices.Equal(a.Table, b.Table)
}

// own: with a Table that nobody else writes to.
func own(f api.Frame) api.Frame { return withTable(f, slices.Clone(f.Table)...) }

// model: a stack as the chapter's words tell it.
type model struct {
	most, high int
	frames     []api.Frame
}

func (m *model) last() *api.Frame { return &m.frames[len(m.frames)-1] }

func (m *model) clone() *model {
	out := &model{most: m.most, high: m.high}
	for _, f := range m.frames {
		out.frames = append(out.frames, own(f))
	}
	return out
}

// changed: what a call does to the last frame, if there is one and nothing else is amiss.
func (m *model) changed(do func(last *api.Frame), amiss ...api.Errno) api.Errno {
	if len(m.frames) == 0 {
		return api.ErrFrames
	}
	for _, e := range amiss {
		if e != api.OK {
			return e
		}
	}
	do(m.last())
	return api.OK
}

// unless: the error, if that isn't so.
func unless(so bool, e api.Errno) api.Errno { return either(so, api.OK, e) }

// either: the one if that is so, else the other.
func either(so bool, one, other api.Errno) api.Errno {
	if so {
		return one
	}
	return other
}

func (m *model) push(f api.Frame) api.Errno {
	if len(m.frames) == m.most {
		return api.ErrFrames
	}
	if !isRight(f) {
		return api.ErrPlace
	}
	m.frames = append(m.frames, own(f))
	if len(m.frames) > m.high {
		m.high = len(m.frames)
	}
	return api.OK
}

func (m *model) pop() (f api.Frame, e api.Errno) {
	e = m.changed(func(last *api.Frame) { f = *last })
	if e == api.OK {
		m.frames = m.frames[:len(m.frames)-1]
	}
	return f, e
}

func (m *model) top() (f api.Frame, e api.Errno) {
	e = m.changed(func(last *api.Frame) { f = own(*last) })
	return f, e
}

func (m *model) set(f api.Frame) api.Errno {
	return m.changed(func(last *api.Frame) { *last = own(f) }, unless(isRight(f), api.ErrPlace))
}

func (m *model) head() (f api.Frame, e api.Errno) {
	e = m.changed(func(last *api.Frame) { f = withTable(*last) })
	return f, e
}

func (m *model) goes(f api.Frame) api.Errno {
	return m.changed(func(last *api.Frame) { *last = withTable(f, last.Table...) }, unless(isRight(withTable(f)), api.ErrPlace))
}

func (m *model) mark(at int) api.Errno {
	room := len(m.frames) == 0 || len(m.last().Table) < many
	return m.changed(func(last *api.Frame) { last.Table = append(last.Table, at) }, unless(isFrom(0, at), api.ErrPlace), unless(room, api.ErrMany))
}

func (m *model) slot(k int) (n int, e api.Errno) {
	there := len(m.frames) > 0 && k >= 0 && k < len(m.last().Table)
	e = m.changed(func(last *api.Frame) { n = last.Table[k] }, unless(there, api.ErrPlace))
	return n, e
}

func (m *model) slots() int {
	if len(m.frames) == 0 {
		return 0
	}
	return len(m.last().Table)
}

// numbers: all that stands in its bytes behind the first one.
func (m *model) numbers() []uint64 {
	out := []uint64{uint64(m.most), uint64(len(m.frames)), uint64(m.high)}
	for _, f := range m.frames {
		out = append(out, uint64(f.Routine), uint64(f.At), uint64(f.Base), uint64(f.End+1), uint64(f.Node+1), uint64(f.Next), uint64(len(f.Table)))
		for _, at := range f.Table {
			out = append(out, uint64(at))
		}
	}
	return out
}

func (m *model) bytes() []byte { return bytesOf(m.numbers()...) }

// bytesOf: the first byte, and these numbers behind it.
func bytesOf(numbers ...uint64) []byte {
	b := []byte{0x66}
	for _, n := range numbers {
		b = binary.AppendUvarint(b, n)
	}
	return b
}

// twin: a stack, and what it should be: each call is made of both.
type twin struct {
	t *testing.T
	s *frames.Stack
	m *model
	// Of stacks that hold very much not all is looked at behind every call.
	brief bool
}

func newTwin(t *testing.T, most int, fs ...api.Frame) *twin {
	t.Helper()
	s, e := frames.New(most)
	if s == nil || e != api.OK {
		t.Fatalf("P22.2: New(%d) = %v, %d, want a stack", most, s != nil, e)
	}
	x := &twin{t: t, s: s, m: &model{most: most}}
	for _, f := range fs {
		x.push(f)
	}
	return x
}

// loaded: the stack that Load answers of its bytes, beside a model of its own.
func (x *twin) loaded() *twin {
	x.t.Helper()
	s, f := frames.Load(x.s.Save())
	if s == nil || f != (api.Fault{}) {
		x.t.Fatalf("P22.10: Load of Save = %v, %v: %s", s != nil, f, x)
	}
	y := &twin{t: x.t, s: s, m: x.m.clone(), brief: x.brief}
	y.look("Load of Save")
	return y
}

func (x *twin) String() string {
	if len(x.m.frames) > 9 {
		return fmt.Sprintf("most %d, high %d, %d frames", x.m.most, x.m.high, len(x.m.frames))
	}
	return fmt.Sprintf("most %d, high %d, frames %s", x.m.most, x.m.high, brief(x.m.frames...))
}

func brief(fs ...api.Frame) string {
	var out []string
	for _, f := range fs {
		if len(f.Table) > 9 {
			out = append(out, fmt.Sprint(withTable(f, f.Table[:9]...), " and ", len(f.Table)-9, " more"))
			continue
		}
		out = append(out, fmt.Sprint(f))
	}
	return strings.Join(out, "; ")
}

// errorIs: what a call answered that is handed a frame or a number. (The text is put together only if it must be told.)
func (x *twin) errorIs(what string, handed any, e, want api.Errno) {
	x.t.Helper()
	if e != want {
		if f, ok := handed.(api.Frame); ok {
			handed = brief(f)
		}
		x.t.Fatalf("%s(%v) = %d, want %d; then %s", what, handed, e, want, x)
	}
	x.look(what)
}

// frameIs: what a call answered, an error's frame too.
func (x *twin) frameIs(what string, f, want api.Frame, e, wantError api.Errno) {
	x.t.Helper()
	if e != wantError || !same(f, want) {
		x.t.Fatalf("%s = %s, %d, want %s, %d; then %s", what, brief(f), e, brief(want), wantError, x)
	}
	x.look(what)
}

func (x *twin) push(f api.Frame) api.Errno {
	x.t.Helper()
	e := x.s.Push(f)
	x.errorIs("P22.3: Push", f, e, x.m.push(f))
	return e
}

func (x *twin) pop() (api.Frame, api.Errno) {
	x.t.Helper()
	f, e := x.s.Pop()
	want, wantError := x.m.pop()
	x.frameIs("P22.3: Pop()", f, want, e, wantError)
	return f, e
}

func (x *twin) top() {
	x.t.Helper()
	f, e := x.s.Top()
	want, wantError := x.m.top()
	x.frameIs("P22.4: Top()", f, want, e, wantError)
}

func (x *twin) set(f api.Frame) api.Errno {
	x.t.Helper()
	e := x.s.Set(f)
	x.errorIs("P22.4: Set", f, e, x.m.set(f))
	return e
}

func (x *twin) head() {
	x.t.Helper()
	f, e := x.s.Head()
	want, wantError := x.m.head()
	x.frameIs("P22.5: Head()", f, want, e, wantError)
}

func (x *twin) goes(f api.Frame) api.Errno {
	x.t.Helper()
	e := x.s.Go(f)
	x.errorIs("P22.5: Go", f, e, x.m.goes(f))
	return e
}

func (x *twin) mark(at int) api.Errno {
	x.t.Helper()
	e := x.s.Mark(at)
	x.errorIs("P22.6: Mark", at, e, x.m.mark(at))
	return e
}

func (x *twin) slot(k int) {
	x.t.Helper()
	n, e := x.s.Slot(k)
	want, wantError := x.m.slot(k)
	if n != want || e != wantError {
		x.t.Fatalf("P22.6: Slot(%d) = %d, %d, want %d, %d: %s", k, n, e, want, wantError, x)
	}
	x.look("P22.6: Slot")
}

// look: holds all that can be seen of a stack against the model.
func (x *twin) look(behind string) {
	x.t.Helper()
	if is, high, slots := x.s.Len(), x.s.High(), x.s.Slots(); is != len(x.m.frames) || high != x.m.high || slots != x.m.slots() {
		x.t.Fatalf("P22.7: behind %s: Len %d, High %d, Slots %d: %s", behind, is, high, slots, x)
	}
	if x.brief {
		return
	}
	f, e := x.s.Top()
	if want, wantError := x.m.top(); !same(f, want) || e != wantError {
		x.t.Fatalf("P22.4: behind %s: Top = %s, %d: %s", behind, brief(f), e, x)
	}
	f, e = x.s.Head()
	if want, wantError := x.m.head(); !same(f, want) || e != wantError {
		x.t.Fatalf("P22.5: behind %s: Head = %s, %d: %s", behind, brief(f), e, x)
	}
	for k := -1; k <= x.m.slots(); k++ {
		n, e := x.s.Slot(k)
		if want, wantError := x.m.slot(k); n != want || e != wantError {
			x.t.Fatalf("P22.6: behind %s: Slot(%d) = %d, %d: %s", behind, k, n, e, x)
		}
	}
	if b := x.s.Save(); !bytes.Equal(b, x.m.bytes()) {
		x.t.Fatalf("P22.8: behind %s: Save = % x, want % x: %s", behind, b, x.m.bytes(), x)
	}
}

// empty: takes all frames off, each held against the model.
func (x *twin) empty() {
	x.t.Helper()
	for len(x.m.frames) > 0 {
		x.pop()
	}
	x.pop()
}

// reading: of a stack's bytes, by the words of P22.9. Behind a fault it reads nothing.
type reading struct {
	b     []byte
	at    int
	fault api.Fault
}

func (r *reading) refuse(e api.Errno, at int) {
	if r.fault.Err == api.OK {
		r.fault = api.Fault{Err: e, At: at}
	}
}

// number: by chapter 2's words which byte shows a fault.
func (r *reading) number(least, most uint64) int {
	from, n := r.at, uint64(0)
	for nth := 0; r.fault.Err == api.OK; nth++ {
		if r.at == len(r.b) {
			r.refuse(api.ErrShort, r.at)
			return 0
		}
		c := r.b[r.at]
		if nth > 0 && c == 0 || nth == 9 && c > 1 {
			r.refuse(api.ErrForm, r.at)
			return 0
		}
		n += uint64(c%128) << (7 * nth)
		r.at++
		if c < 128 {
			break
		}
	}
	if n < least || n > most {
		r.refuse(api.ErrState, from)
	}
	return int(n)
}

func (r *reading) frame() (f api.Frame) {
	f.Routine = r.number(0, huge)
	f.At = r.number(0, huge)
	f.Base = r.number(0, huge)
	f.End = r.number(0, huge+1) - 1
	f.Node = r.number(0, huge+1) - 1
	f.Next = r.number(0, huge)
	length := r.number(0, many)
	for len(f.Table) < length && r.fault.Err == api.OK {
		f.Table = append(f.Table, r.number(0, huge))
	}
	return f
}

// loadOf: what Load should answer.
func loadOf(b []byte) (*model, api.Fault) {
	switch {
	case len(b) == 0:
		return nil, api.Fault{Err: api.ErrShort}
	case b[0] != 0x66:
		return nil, api.Fault{Err: api.ErrState}
	}
	r := reading{b: b, at: 1}
	m := &model{most: r.number(1, mostCode)}
	length := r.number(0, uint64(m.most))
	m.high = r.number(uint64(length), uint64(m.most))
	for len(m.frames) < length && r.fault.Err == api.OK {
		m.frames = append(m.frames, r.frame())
	}
	if r.at < len(b) {
		r.refuse(api.ErrTail, r.at)
	}
	if r.fault.Err != api.OK {
		return nil, r.fault
	}
	return m, api.Fault{}
}

// loadIs: Load answers what the model does; and what it takes, saved again, is the bytes.
func loadIs(t *testing.T, b []byte) api.Fault {
	t.Helper()
	m, want := loadOf(b)
	s, f := frames.Load(b)
	if f != want || (s == nil) != (m == nil) {
		t.Fatalf("P22.9: Load(%s) = %v, %v, want %v", briefBytes(b), s != nil, f, want)
	}
	if s != nil {
		x := &twin{t: t, s: s, m: m, brief: len(b) > 1000}
		x.look("Load of " + briefBytes(b))
		if again := s.Save(); !bytes.Equal(again, b) {
			t.Fatalf("P22.10: Load(%s), saved again: % x", briefBytes(b), again)
		}
	}
	return f
}

// refusedIs: Load answers the fault, by a row written out, and no stack.
func refusedIs(t *testing.T, b []byte, e api.Errno, at int) {
	t.Helper()
	if f := loadIs(t, b); f != (api.Fault{Err: e, At: at}) {
		t.Fatalf("P22.9: Load(%s) = %v, want error %d at %d", briefBytes(b), f, e, at)
	}
}

func briefBytes(b []byte) string {
	if len(b) > 200 {
		return fmt.Sprintf("% x and %d more", b[:200], len(b)-200)
	}
	return fmt.Sprintf("% x", b)
}

// unhex: blanks and strokes part bytes, and say nothing.
func unhex(s string) []byte {
	b, err := hex.DecodeString(strings.NewReplacer(" ", "", "|", "").Replace(s))
	if err != nil {
		panic(err)
	}
	return b
}

type dice uint64

func (d *dice) below(n int) int {
	*d = *d*6364136223846793005 + 1442695040888963407
	return int(uint64(*d)>>33) % n
}

func (d *dice) oneOf(l ...int) int { return l[d.below(len(l))] }

// number: from least to huge, small ones and edges more often.
func (d *dice) number(least int) int {
	switch d.below(4) {
	case 0:
		return d.oneOf(least, 0, 1, huge-1, huge)
	case 1:
		return d.below(1<<30) << 30 >> d.below(60)
	default:
		return d.below(300)
	}
}

// frame: a right one.
func (d *dice) frame() api.Frame {
	f := api.Frame{Routine: d.number(0), At: d.number(0), Base: d.number(0), End: d.number(-1), Node: d.number(-1), Next: d.number(0)}
	for range d.below(5) {
		f.Table = append(f.Table, d.number(0))
	}
	return f
}

// anyFrame: one that may not be right.
func (d *dice) anyFrame() api.Frame {
	f := d.frame()
	switch d.below(8) {
	case 0:
		*fields(&f)[d.below(6)] = d.oneOf(strangeNumbers()...)
	case 1:
		f.Table = append(f.Table, d.oneOf(strangeNumbers()...))
		f.Table = append(f.Table, d.frame().Table...)
	}
	return f
}

// step: one call, the same of each stack.
func (d *dice) step(stacks ...*twin) {
	what, f, n, k := d.below(24), d.anyFrame(), d.number(0), d.below(9)-2
	if d.below(9) == 0 {
		n = d.oneOf(strangeNumbers()...)
	}
	for _, x := range stacks {
		x.t.Helper()
		switch what {
		case 0, 1, 2, 3, 4:
			x.push(f)
		case 5, 6, 7:
			x.pop()
		case 8:
			x.top()
		case 9, 10:
			x.set(f)
		case 11:
			x.head()
		case 12, 13, 14:
			x.goes(f)
		case 15, 16, 17, 18:
			x.mark(n)
		case 19, 20:
			x.slot(k)
		case 21:
			x.slot(n)
		default:
			x.look("nothing")
		}
	}
}

// chanceStack: that some steps have been made of.
func (d *dice) chanceStack(t *testing.T, most, steps int) *twin {
	t.Helper()
	x := newTwin(t, most)
	for range steps {
		d.step(x)
	}
	return x
}
