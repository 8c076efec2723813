package code_test

import (
	"bytes"
	"encoding/binary"
	"math"
	"testing"

	"mortise/api"
	"mortise/code"
)

// refusedIs: Decode of the bytes answers the fault, and no program.
func refusedIs(t *testing.T, b string, e api.Errno, at int) {
	t.Helper()
	decodeIs(t, unhex(b), api.Program{}, api.Fault{Err: e, At: at})
}

// P14.4: the rows of the chapter's first table.
func TestDecodeExamples(t *testing.T) {
	decodeIs(t, unhex("6d 00 01 00 02 01 00 03 14"), small(), api.Fault{})
	refusedIs(t, "6d 00 01 00 02 01 00 03", api.ErrShort, 8)
	refusedIs(t, "6d 00 01 00 02 01 00 03 14 00", api.ErrTail, 9)
	refusedIs(t, "6d 02", api.ErrCode, 1)
	refusedIs(t, "6c", api.ErrCode, 0)
	refusedIs(t, "", api.ErrShort, 0)
	refusedIs(t, "6d 00 80 00", api.ErrForm, 3)
	refusedIs(t, "6d 00 01 00 02 01 00 04 14", api.ErrOp, 5)
	refusedIs(t, "6d 00 01 05 02 01 00 03 14", api.ErrPlace, 3)
	refusedIs(t, "6d 00 00 01 21", api.ErrOp, 4)
	decodeIs(t, nil, api.Program{}, api.Fault{Err: api.ErrShort})
}

// P14.4: all first bytes, and all second ones, with nothing, and with right bytes behind them.
func TestDecodeFirstBytes(t *testing.T) {
	for c := range 256 {
		for d := range 256 {
			for _, behind := range []string{"", "00", "00 00", "ff"} {
				b := append([]byte{byte(c), byte(d)}, unhex(behind)...)
				switch {
				case c != 0x6d:
					decodeIs(t, b, api.Program{}, api.Fault{Err: api.ErrCode})
				case d > 1:
					decodeIs(t, b, api.Program{}, api.Fault{Err: api.ErrCode, At: 1})
				case behind == "00 00":
					decodeIs(t, b, api.Program{Encodes: d == 1}, api.Fault{})
				default:
					decodeIs(t, b, api.Program{}, api.Fault{Err: api.ErrShort, At: len(b)})
				}
			}
		}
		if c != 0x6d {
			decodeIs(t, []byte{byte(c)}, api.Program{}, api.Fault{Err: api.ErrCode})
		}
	}
	refusedIs(t, "6d", api.ErrShort, 1)
}

// numberPlaces: bytes ahead of a number: of types, of an entry, of instructions, of one, of each operand of one, and of those behind.
func numberPlaces() []string {
	return []string{
		"6d 00", "6d 00 01", "6d 00 02 00", "6d 00 01 00", "6d 01 00", "6d 00 01 00 02", "6d 01 01 00 01", "6d 00 01 00 02 01", "6d 00 01 00 02 01 00", "6d 00 01 00 02 01 00 03",
		"6d 00 00 01 02", "6d 00 00 01 02 01", "6d 00 00 01 02 01 03", "6d 01 01 00 09 2d", "6d 01 01 00 09 2d 09", "6d 00 ac 02", "6d 00 00 ac 02",
	}
}

// P14.4: at each number varint's faults, at the byte that shows them, whatever else the number would be.
func TestDecodeVarints(t *testing.T) {
	for _, ahead := range numberPlaces() {
		n := len(unhex(ahead))
		refusedIs(t, ahead, api.ErrShort, n)
		refusedIs(t, ahead+"80", api.ErrShort, n+1)
		refusedIs(t, ahead+"ff ff", api.ErrShort, n+2)
		refusedIs(t, ahead+"80 00", api.ErrForm, n+1)
		refusedIs(t, ahead+"81 00 14 14 14", api.ErrForm, n+1)
		refusedIs(t, ahead+"ff ff ff ff ff ff ff ff ff", api.ErrShort, n+9)
		refusedIs(t, ahead+"80 80 80 80 80 80 80 80 80", api.ErrShort, n+9)
		refusedIs(t, ahead+"ff ff ff ff ff ff ff ff ff 02", api.ErrForm, n+9)
		refusedIs(t, ahead+"ff ff ff ff ff ff ff ff ff 80 01", api.ErrForm, n+9)
		refusedIs(t, ahead+"80 80 80 80 80 80 80 80 80 00", api.ErrForm, n+9)
		refusedIs(t, ahead+"80 80 80 80 00", api.ErrForm, n+4)
	}
}

// numberAt: bytes, and a number behind them.
func numberAt(ahead string, n uint64) []byte { return binary.AppendUvarint(unhex(ahead), n) }

// great: numbers of which the greatest would be below 0, or small, if they were taken for an int of 32 or 64 bits.
func great() []uint64 {
	return []uint64{1<<31 + 1, 1<<31 + 2, 1<<32 - 1, 1 << 32, 1<<32 + 1, 1<<32 + 20, 1<<62 + 1, 1<<63 - 1, 1 << 63, 1<<63 + 1, 1<<63 + 20, math.MaxUint64 - 1, math.MaxUint64}
}

// P14.4: how many there are, at MaxCode and above it.
func TestDecodeCounts(t *testing.T) {
	for _, ahead := range []string{"6d 00", "6d 01", "6d 00 00", "6d 01 00", "6d 00 02 00 80 01"} {
		n := len(unhex(ahead))
		for _, many := range append(great(), 1<<20+1, 1<<20+2, 1<<21, 1<<31-1, 1<<31) {
			decodeIs(t, numberAt(ahead, many), api.Program{}, api.Fault{Err: api.ErrLong, At: n})
			decodeIs(t, append(numberAt(ahead, many), 0, 20, 20), api.Program{}, api.Fault{Err: api.ErrLong, At: n})
		}
		for _, many := range []uint64{1, 2, 127, 128, 1<<20 - 1, 1 << 20} {
			b := numberAt(ahead, many)
			decodeIs(t, b, api.Program{}, api.Fault{Err: api.ErrShort, At: len(b)})
		}
	}
}

// P14.4: an instruction's number that is none of its machine's, the other one's among them, the greatest too.
func TestDecodeNumbers(t *testing.T) {
	for at, ahead := range []string{"6d 00 00 02", "6d 01 00 02", "6d 00 00 02 13 01", "6d 01 00 02 24"} {
		encodes, from := at%2 == 1, len(unhex(ahead))
		look := func(n uint64) {
			b := numberAt(ahead, n)
			if _, ok := rowOf(int(n), encodes); n < 100 && ok {
				decodeAll(t, b)
				return
			}
			decodeIs(t, b, api.Program{}, api.Fault{Err: api.ErrOp, At: from})
			decodeIs(t, append(b, 0, 0), api.Program{}, api.Fault{Err: api.ErrOp, At: from})
		}
		for n := range 1000 {
			look(uint64(n))
		}
		for _, n := range append(great(), 1<<31, 1<<31-1, 1<<20, 1<<16, 1<<16+20, 1<<8+20) {
			look(n)
			look(n + 9)
		}
	}
}

// P14.4: entries and operands at 2^31 and above it. Those that are not above are read, and then have no form.
func TestDecodeGreat(t *testing.T) {
	for _, ahead := range []string{"6d 00 01", "6d 01 03 00 00", "6d 00 01 00 02 01", "6d 00 01 00 02 01 00", "6d 00 00 01 13", "6d 00 00 01 02 01 03", "6d 01 00 01 2a", "6d 01 00 01 2f", "6d 01 00 02 24 2e"} {
		n := len(unhex(ahead))
		for _, x := range great() {
			decodeIs(t, numberAt(ahead, x), api.Program{}, api.Fault{Err: api.ErrPlace, At: n})
			decodeIs(t, append(numberAt(ahead, x), 0x80, 0), api.Program{}, api.Fault{Err: api.ErrPlace, At: n})
		}
	}
	for _, x := range []uint64{1<<31 - 1, 1 << 31} {
		b := append(numberAt("6d 00 02 00", x), 1, 20)
		decodeIs(t, b, api.Program{}, api.Fault{Err: api.ErrPlace, At: 4})
		decodeIs(t, append(b, 0), api.Program{}, api.Fault{Err: api.ErrTail, At: len(b)})
		b = append(numberAt("6d 00 00 03 14 13", x), 20)
		decodeIs(t, b, api.Program{}, api.Fault{Err: api.ErrOp, At: 5})
		decodeIs(t, append(b, 0), api.Program{}, api.Fault{Err: api.ErrTail, At: len(b)})
		decodeIs(t, b[:len(b)-1], api.Program{}, api.Fault{Err: api.ErrShort, At: len(b) - 1})
		b = numberAt("6d 01 00 02 24 2a", x)
		decodeIs(t, b, api.Program{}, api.Fault{Err: api.ErrOp, At: 5})
	}
}

// P14.4: of what is wrong the first byte's, and Check's fault behind all others.
func TestDecodeOrder(t *testing.T) {
	refusedIs(t, "6c 02", api.ErrCode, 0)
	refusedIs(t, "6d 02 80 00", api.ErrCode, 1)
	refusedIs(t, "6d 00 01 05 02 01 00 04 14", api.ErrOp, 5)
	refusedIs(t, "6d 00 01 05 02 01 00 04 14 00", api.ErrTail, 9)
	refusedIs(t, "6d 00 01 05 02 01 00 04 14 80 00", api.ErrTail, 9)
	refusedIs(t, "6d 00 01 05 02 01 00 04", api.ErrShort, 8)
	refusedIs(t, "6d 00 01 05 02 01 00 04 21", api.ErrOp, 8)
	refusedIs(t, "6d 00 01 05 02 01 00 04 94 00", api.ErrForm, 9)
	refusedIs(t, "6d 00 01 05 02 01 81 80 80 80 08 04 14", api.ErrPlace, 6)
	refusedIs(t, "6d 00 01 81 80 80 80 08 81 80 40", api.ErrPlace, 3)
	refusedIs(t, "6d 00 81 80 40 81 80 80 80 08", api.ErrLong, 2)
	refusedIs(t, "6d 00 02 00 07 81 80 40", api.ErrLong, 5)
	refusedIs(t, "6d 00 03 00 09 08 01 14", api.ErrPlace, 4)
	refusedIs(t, "6d 00 03 00 00 01 01 14", api.ErrPlace, 5)
	refusedIs(t, "6d 00 01 00 03 14 13 05 13 05", api.ErrOp, 6)
	refusedIs(t, "6d 00 01 00 03 14 13 03 13 05", api.ErrOp, 8)
	refusedIs(t, "6d 00 00 02 08 02 14", api.ErrOp, 4)
	refusedIs(t, "6d 00 00 03 08 03 09 05 01 09 05 01", api.ErrOp, 4)
	refusedIs(t, "6d 00 00 03 08 03 09 05 01 09 81 02 01", api.ErrOp, 9)
	refusedIs(t, "6d 00 00 01 11 00 01 01", api.ErrOp, 4)
	refusedIs(t, "6d 01 00 01 2a 01", api.ErrOp, 4)
}

// P14.4: Check's faults at the byte where each instruction and each entry begins, the ones ahead having bytes of all lengths.
func TestDecodePlaces(t *testing.T) {
	d := dice(4)
	for n := range 300 {
		p := chance(&d, n%2 == 0, 200+d.below(100), 1+d.below(200))
		b := bytesOf(p)
		for range 10 {
			at := d.below(len(p.Entry))
			turned(&p.Entry[at], []int{len(p.Code), 1<<31 - 1}, func() {
				begins := len(binary.AppendUvarint(nil, uint64(len(p.Entry)))) + 2
				for _, e := range p.Entry[:at] {
					begins += len(binary.AppendUvarint(nil, uint64(e)))
				}
				decodeIs(t, bytesOf(p), api.Program{}, api.Fault{Err: api.ErrPlace, At: begins})
			})
			at = d.below(len(p.Code))
			r, _ := rowOf(p.Code[at].Op, p.Encodes)
			for k, word := range r.words {
				if word == "-" {
					continue
				}
				behind := bytesOf(api.Program{Encodes: p.Encodes, Code: p.Code[at:]})
				begins := len(b) - len(behind) + 3 + len(binary.AppendUvarint(nil, uint64(len(p.Code)-at)))
				turned(operand(&p.Code[at], k), []int{1<<31 - 1}, func() {
					decodeIs(t, bytesOf(p), api.Program{}, api.Fault{Err: api.ErrOp, At: begins})
				})
			}
		}
	}
}

// P14.4: bytes of programs with one of them another, one less, one more, or two of another program behind.
func TestDecodeChanged(t *testing.T) {
	d := dice(5)
	taken := 0
	for _, p := range []api.Program{small(), everything(false), everything(true), chance(&d, false, 12, 2), chance(&d, true, 12, 2), {}, {Encodes: true}} {
		b := bytesOf(p)
		for at := range b {
			for c := range 256 {
				x := bytes.Clone(b)
				x[at] = byte(c)
				if decodeAll(t, x) {
					taken++
				}
			}
			decodeAll(t, append(bytes.Clone(b[:at]), b[at+1:]...))
			for _, c := range []byte{0, 1, 2, 9, 20, 33, 0x6d, 0x7f, 0x80, 0x81, 0xff} {
				decodeAll(t, append(append(bytes.Clone(b[:at]), c), b[at:]...))
			}
		}
	}
	if taken < 1000 {
		t.Errorf("only %d were programs", taken)
	}
}

// P14.4: all bytes of up to five behind the first two, from a few.
func TestDecodeAllShort(t *testing.T) {
	few := []byte{0, 1, 2, 3, 9, 20, 36, 0x80, 0xff}
	var down func(b []byte, left int)
	taken := 0
	down = func(b []byte, left int) {
		if decodeAll(t, b) {
			taken++
		}
		if left == 0 {
			return
		}
		for _, c := range few {
			down(append(b[:len(b):len(b)], c), left-1)
		}
	}
	down([]byte{0x6d, 0}, 5)
	down([]byte{0x6d, 1}, 5)
	if taken < 20 {
		t.Errorf("only %d were programs", taken)
	}
}

// P14.4: bytes that look like chance, behind the first two.
func TestDecodeChance(t *testing.T) {
	d := dice(6)
	for n := range 30000 {
		b := []byte{0x6d, byte(n % 2)}
		for range d.below(30) {
			b = append(b, byte(d.below(1+d.below(256))))
		}
		decodeAll(t, b)
	}
	if _, f := code.Decode(bytes.Repeat([]byte{0x6d}, 1000)); f != (api.Fault{Err: api.ErrCode, At: 1}) {
		t.Errorf("P14.4: %v", f)
	}
}
