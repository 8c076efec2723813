package code

import (
	"mortise/api"
	"mortise/varint"
)

// mark: the byte that a program's bytes begin with.
const mark = 0x6d

// mostNumber: of an entry, and of an operand as it is written (itself and one). What lies above might be no int, or wrap.
const mostNumber = 1 << 31

// Encode: its bytes.
func Encode(p api.Program) ([]byte, api.Fault) {
	if f := Check(p); f.Err != api.OK {
		return nil, f
	}
	b := []byte{mark, machineByte(p.Encodes)}
	put := func(n int) { b = append(b, varint.Put(uint64(n))...) }
	put(len(p.Entry))
	for _, entry := range p.Entry {
		put(entry)
	}
	put(len(p.Code))
	for _, i := range p.Code {
		put(i.Op)
		eachNamed(i, func(n int) { put(n + 1) })
	}
	return b, api.Fault{}
}

func machineByte(encodes bool) byte {
	if encodes {
		return 1
	}
	return 0
}

// eachNamed: does something with each of the operands that the instruction's row names.
func eachNamed(i api.Instr, do func(n int)) {
	of := kindsOf(i.Op)
	for nth, n := range operands(i) {
		if of[nth] != unnamed {
			do(n)
		}
	}
}

// Decode: back.
func Decode(b []byte) (api.Program, api.Fault) {
	r := reader{bytes: b}
	p := r.program()
	if r.fault.Err != api.OK {
		return api.Program{}, r.fault
	}
	switch f := Check(p); f.Err {
	case api.OK:
		return p, f
	case api.ErrOp:
		return api.Program{}, api.Fault{Err: f.Err, At: r.codeAt[f.At]}
	default:
		return api.Program{}, api.Fault{Err: f.Err, At: r.entryAt[f.At]}
	}
}

// reader: of a program's bytes. Behind the first fault it reads nothing more.
type reader struct {
	bytes []byte
	at    int
	fault api.Fault
	// Where each one began: Check tells its fault by the number alone.
	entryAt, codeAt []int
}

// refuse: only the first fault is told.
func (r *reader) refuse(e api.Errno, at int) {
	if r.going() {
		r.fault = api.Fault{Err: e, At: at}
	}
}

func (r *reader) going() bool { return r.fault.Err == api.OK }

// program: as far as the bytes tell it; its form is asked behind.
func (r *reader) program() (p api.Program) {
	r.oneOf(mark, mark)
	p.Encodes = r.oneOf(machineByte(false), machineByte(true)) == machineByte(true)
	for left := r.count(); left > 0 && r.going(); left-- {
		r.entryAt = append(r.entryAt, r.at)
		p.Entry = append(p.Entry, r.number())
	}
	for left := r.count(); left > 0 && r.going(); left-- {
		r.codeAt = append(r.codeAt, r.at)
		p.Code = append(p.Code, r.instr(p.Encodes))
	}
	if r.at < len(r.bytes) {
		r.refuse(api.ErrTail, r.at)
	}
	return p
}

// oneOf: a byte that must be from the least to the greatest.
func (r *reader) oneOf(least, most byte) byte {
	if !r.going() {
		return least
	}
	if r.at == len(r.bytes) {
		r.refuse(api.ErrShort, r.at)
		return least
	}
	c := r.bytes[r.at]
	if c < least || c > most {
		r.refuse(api.ErrCode, r.at)
	}
	r.at++
	return c
}

// count: how many there are of something.
func (r *reader) count() int {
	return r.varint(api.ErrLong, func(n uint64) bool { return n <= api.MaxCode })
}

// number: an entry, or an operand as it is written.
func (r *reader) number() int {
	return r.varint(api.ErrPlace, func(n uint64) bool { return n <= mostNumber })
}

// instr: its number says which operands are there.
func (r *reader) instr(encodes bool) api.Instr {
	op := r.varint(api.ErrOp, func(n uint64) bool { return n <= opAgain && isOf(int(n), encodes) })
	var have [3]int
	for nth, kind := range kindsOf(op) {
		if kind != unnamed {
			have[nth] = r.number() - 1
		}
	}
	return api.Instr{Op: op, A: have[0], B: have[1], C: have[2]}
}

// varint: the number that comes next, if it may be; else the error at its first byte, and 0.
func (r *reader) varint(e api.Errno, may func(n uint64) bool) int {
	if !r.going() {
		return 0
	}
	from := r.at
	n, used, wrong := varint.Get(r.bytes[from:])
	r.at += used
	switch {
	case wrong != api.OK:
		r.refuse(wrong, r.at)
		return 0
	case !may(n):
		r.refuse(e, from)
		return 0
	}
	return int(n)
}
