package plain

import (
	"mortise/api"
	"mortise/le"
	"mortise/varint"
)

// writer writes a value of its type. It goes through the nodes in their order, which is not that of the bytes: a variable field's stand behind the fixed part. So room is made for a fixed part when it begins, and filled as its nodes come.
type writer struct {
	shape
	nodes []api.Node // those that are still to come
	bytes []byte
}

// part writes the value that comes next behind all that is written.
func (w *writer) part(number int) {
	at := len(w.bytes)
	w.bytes = append(w.bytes, make([]byte, w.head(w.types[number], w.nodes[0]))...)
	w.fill(number, at)
}

// head: how many bytes of a value stand ahead of its variable parts.
func (w *writer) head(t api.Type, n api.Node) int {
	switch t.Kind {
	case api.KindUint:
		return t.N
	case api.KindVarint:
		return varint.Size(n.N)
	case api.KindVector, api.KindList, api.KindStruct:
		return w.fixedPart(t, n.Kids)
	}
	// A bool; an option's or a union's byte.
	return 1
}

// fill writes the value that comes next, its head into the room that has been made at a place.
func (w *writer) fill(number, at int) {
	t, n := w.types[number], w.nodes[0]
	w.nodes = w.nodes[1:]
	switch t.Kind {
	case api.KindUint:
		le.Put(w.bytes, at, t.N, n.N)
	case api.KindBool:
		w.bytes[at] = byte(n.N)
	case api.KindVarint:
		copy(w.bytes[at:], varint.Put(n.N))
	case api.KindOption:
		w.bytes[at] = byte(n.Kids)
		if n.Kids > 0 {
			w.part(t.Elem)
		}
	case api.KindUnion:
		w.bytes[at] = byte(n.N)
		w.part(t.Parts[arm(t, n.N)].Type)
	case api.KindVector, api.KindList, api.KindStruct:
		w.row(t, n.Kids, at)
	}
}

// row writes the items of a vector or list, the fields of a struct, whose fixed part has its room at a place.
func (w *writer) row(t api.Type, count, begin int) {
	at := begin
	for k := range count {
		number := kid(t, k)
		if w.extents[number].Fixed {
			w.fill(number, at)
		} else {
			le.Put(w.bytes, at, offsetBytes, uint64(len(w.bytes)-begin))
			w.part(number)
		}
		at += w.slot(number)
	}
}
