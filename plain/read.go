package plain

import (
	"math"

	"mortise/api"
	"mortise/le"
	"mortise/value"
	"mortise/varint"
)

// open: the end of a value that may go on as far as the input does: above all positions.
const open = math.MaxInt

// spot: where a node belongs: its parent's number in the arena, and which kid it is.
type spot struct {
	parent, k int
}

// reader takes bytes in order. Its methods give up by panic with an api.Fault: an error and its place, or none, if the reading waits.
type reader struct {
	shape
	bytes []byte
	ended bool // no more bytes come
	at    int  // the position of the byte that comes next
	// Variable fields come behind fixed ones that have later nodes: the arena takes them in any order.
	arena *value.Arena
}

func giveUp(e api.Errno, at int) {
	panic(api.Fault{Err: e, At: at})
}

// missing: what comes next has not come: it never will, or the reading waits for it.
func (r *reader) missing() {
	if r.ended {
		giveUp(api.ErrShort, r.at)
	}
	giveUp(api.OK, 0)
}

// next takes the byte that is wanted, within an end.
func (r *reader) next(end int) byte {
	if r.at == end {
		giveUp(api.ErrShort, r.at)
	}
	if r.at == len(r.bytes) {
		r.missing()
	}
	r.at++
	return r.bytes[r.at-1]
}

// atEnd: is nothing left? Of an open end only a byte or the input's end tells.
func (r *reader) atEnd(end int) bool {
	if end != open {
		return r.at == end
	}
	if r.at == len(r.bytes) && !r.ended {
		r.missing()
	}
	return r.at == len(r.bytes)
}

// part reads a value that must go up to its end: a variable part, or the whole message. (Behind a variable part whose end is open nothing but the input's end may come.)
func (r *reader) part(number, end int, s spot) {
	r.value(number, end, s)
	if !r.atEnd(end) {
		giveUp(api.ErrTail, r.at)
	}
}

// add: a node; its number. (Nothing is read that the arena has no room for.)
func (r *reader) add(s spot, kind int, n uint64) int {
	number, _ := r.arena.Add(s.parent, s.k, kind, n)
	return number
}

// value reads one of a type, within an end.
func (r *reader) value(number, end int, s spot) {
	t := r.types[number]
	switch t.Kind {
	case api.KindUint:
		r.add(s, api.NodeUint, r.fixed(t.N, end))
	case api.KindBool:
		r.add(s, api.NodeBool, r.flag(end, api.ErrBool))
	case api.KindVarint:
		r.add(s, api.NodeUint, r.varint(end))
	case api.KindVector:
		r.row(t, t.N, end, r.add(s, api.NodeSeq, 0))
	case api.KindList:
		r.list(t, end, r.add(s, api.NodeSeq, 0))
	case api.KindOption:
		node := r.add(s, api.NodeOption, 0)
		if r.flag(end, api.ErrTag) == 1 {
			r.value(t.Elem, end, spot{node, 0})
		}
	case api.KindUnion:
		r.union(t, end, s)
	case api.KindStruct:
		r.row(t, len(t.Parts), end, r.add(s, api.NodeStruct, 0))
	}
}

// fixed reads a number of so many bytes, the lowest first.
func (r *reader) fixed(width, end int) uint64 {
	for range width {
		r.next(end)
	}
	n, _ := le.Get(r.bytes, r.at-width, width)
	return n
}

// flag reads 00 or 01; any other byte shows the error.
func (r *reader) flag(end int, e api.Errno) uint64 {
	c := r.next(end)
	if c > 1 {
		giveUp(e, r.at-1)
	}
	return uint64(c)
}

func (r *reader) varint(end int) uint64 {
	number := varint.New()
	for {
		done, e := number.Byte(r.next(end))
		if e != api.OK {
			giveUp(e, r.at-1)
		}
		if done {
			return number.N()
		}
	}
}

func (r *reader) union(t api.Type, end int, s spot) {
	tag := uint64(r.next(end))
	k := arm(t, tag)
	if k < 0 {
		giveUp(api.ErrTag, r.at-1)
	}
	r.value(t.Parts[k].Type, end, spot{r.add(s, api.NodeUnion, tag), 0})
}

// list reads the items of a list, whose node is there.
func (r *reader) list(t api.Type, end, node int) {
	if !r.extents[t.Elem].Fixed {
		r.listOfVariable(t, end, node)
		return
	}
	for k := 0; !r.atEnd(end); k++ {
		if k == t.N {
			giveUp(api.ErrCount, r.at)
		}
		r.value(t.Elem, end, spot{node, k})
	}
}

// listOfVariable: its first offset tells how many items there are; with that it is a vector, and is read as one, from its beginning.
func (r *reader) listOfVariable(t api.Type, end, node int) {
	if r.atEnd(end) {
		return
	}
	begin := r.at
	length := r.offset(begin, end)
	if length == 0 || length%offsetBytes != 0 {
		giveUp(api.ErrOffset, begin)
	}
	if length/offsetBytes > t.N {
		giveUp(api.ErrCount, begin)
	}
	r.at = begin
	r.row(t, length/offsetBytes, end, node)
}

// offset reads one, counted from a position: it may not lead behind the end.
func (r *reader) offset(from, end int) int {
	at := r.at
	n := int(r.fixed(offsetBytes, end))
	if n > end-from {
		giveUp(api.ErrOffset, at)
	}
	return n
}

// row reads the items of a vector, the fields of a struct, whose node is there: the fixed part first, then the variable ones, each up to where the next one begins.
func (r *reader) row(t api.Type, count, end, node int) {
	begin := r.at
	behind := le.Plus(begin, r.fixedPart(t, count))
	var kids, starts []int // of the variable ones
	for k := range count {
		number := kid(t, k)
		if r.extents[number].Fixed {
			r.value(number, end, spot{node, k})
			continue
		}
		at := r.at
		start := begin + r.offset(begin, end)
		if !mayStart(start, starts, behind) {
			giveUp(api.ErrOffset, at)
		}
		kids, starts = append(kids, k), append(starts, start)
	}
	starts = append(starts, end)
	for i, k := range kids {
		r.part(kid(t, k), starts[i+1], spot{node, k})
	}
}

// mayStart: may a variable part begin there, when those ahead of it begin at these positions, and the fixed part ends behind?
func mayStart(start int, ahead []int, behind int) bool {
	if len(ahead) == 0 {
		return start == behind
	}
	return start >= ahead[len(ahead)-1]
}
