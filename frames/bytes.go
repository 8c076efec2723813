package frames

import (
	"mortise/api"
	"mortise/varint"
)

// mark: the byte that a stack's bytes begin with.
const mark = 0x66

// Save: its bytes.
func (s *Stack) Save() []byte {
	b := []byte{mark}
	put := func(n int) { b = append(b, varint.Put(uint64(n))...) }
	put(s.most)
	put(len(s.frames))
	put(s.high)
	for _, f := range s.frames {
		// Of End and Node 1 more: -1 has no varint.
		for _, n := range [...]int{f.Routine, f.At, f.Base, f.End + 1, f.Node + 1, f.Next, len(f.Table)} {
			put(n)
		}
		for _, at := range f.Table {
			put(at)
		}
	}
	return b
}

// Load: back.
func Load(b []byte) (s *Stack, f api.Fault) {
	defer func() {
		if given := recover(); given != nil {
			s, f = nil, given.(api.Fault)
		}
	}()
	r := reader{bytes: b}
	return r.stack(), api.Fault{}
}

// reader: of a stack's bytes. Its methods give up by panic with an api.Fault.
type reader struct {
	bytes []byte
	at    int
}

func giveUp(e api.Errno, at int) {
	panic(api.Fault{Err: e, At: at})
}

func (r *reader) stack() *Stack {
	r.mark()
	s := &Stack{most: r.number(1, api.MaxCode)}
	count := r.number(0, s.most)
	s.high = r.number(count, s.most)
	for range count {
		s.frames = append(s.frames, r.frame())
	}
	if r.at < len(r.bytes) {
		giveUp(api.ErrTail, r.at)
	}
	return s
}

func (r *reader) mark() {
	if len(r.bytes) == 0 {
		giveUp(api.ErrShort, 0)
	}
	if r.bytes[0] != mark {
		giveUp(api.ErrState, 0)
	}
	r.at = 1
}

// frame: its numbers in the order in which they are written here.
func (r *reader) frame() api.Frame {
	f := api.Frame{
		Routine: r.position(),
		At:      r.position(),
		Base:    r.position(),
		End:     r.positionOrNone(),
		Node:    r.positionOrNone(),
		Next:    r.position(),
	}
	// Bytes may say that more follow than there are: room is taken for those alone that have been read.
	for range r.number(0, api.MaxCount) {
		f.Table = append(f.Table, r.position())
	}
	return f
}

func (r *reader) position() int { return r.number(0, api.Huge) }

func (r *reader) positionOrNone() int { return r.number(0, api.Huge+1) - 1 }

// number: the one that comes next, if it lies in these bounds.
func (r *reader) number(least, most int) int {
	n, used, e := varint.Get(r.bytes[r.at:])
	if e != api.OK {
		giveUp(e, r.at+used)
	}
	if n < uint64(least) || n > uint64(most) {
		giveUp(api.ErrState, r.at)
	}
	r.at += used
	return int(n)
}
