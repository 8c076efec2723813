package frames_test

import (
	"bytes"
	"encoding/binary"
	"math"
	"runtime"
	"slices"
	"testing"

	"mortise/api"
	"mortise/frames"
)

// P22.9: the chapter's worked examples.
func TestLoadExamples(t *testing.T) {
	refusedIs(t, nil, api.ErrShort, 0)
	refusedIs(t, unhex("67"), api.ErrState, 0)
	refusedIs(t, unhex("66 00"), api.ErrState, 1)
	refusedIs(t, unhex("66 02 03 03"), api.ErrState, 2)
	refusedIs(t, unhex("66 02 01 00"), api.ErrState, 3)
	refusedIs(t, unhex("66 02 00 02 00"), api.ErrTail, 4)
	refusedIs(t, unhex("66 80 00 00"), api.ErrForm, 2)
	s, f := frames.Load(unhex("66 02 00 02"))
	if s == nil || f != (api.Fault{}) || s.Len() != 0 || s.High() != 2 || s.Slots() != 0 {
		t.Fatalf("P22.9: Load(66 02 00 02) = %v, %v", s != nil, f)
	}
	wantError(t, "P22.9: Push", s.Push(exampleF()), api.OK)
	wantError(t, "P22.9: Push", s.Push(exampleF()), api.OK)
	wantError(t, "P22.9: Push", s.Push(exampleF()), api.ErrFrames)
}

// P22.9: all first bytes, alone, and with right and wrong bytes behind them.
func TestLoadFirstByte(t *testing.T) {
	for c := range 256 {
		for _, behind := range []string{"", "01 00 00", "00", "80 00", "02 00 02 00", "ff ff ff ff ff ff ff ff ff ff"} {
			b := append([]byte{byte(c)}, unhex(behind)...)
			if c != 0x66 {
				refusedIs(t, b, api.ErrState, 0)
				continue
			}
			loadIs(t, b)
		}
	}
	refusedIs(t, []byte{}, api.ErrShort, 0)
	refusedIs(t, []byte{0x66}, api.ErrShort, 1)
}

// numberOf: of a stack's bytes, and its bounds.
type numberOf struct {
	what        string
	n           uint64
	least, most uint64
}

// sample: the numbers of a stack that may have 9 frames, has 3, had 5.
func sample() []numberOf {
	frame := func(numbers ...uint64) (out []numberOf) {
		for k, what := range []string{"Routine", "At", "Base", "End and 1", "Node and 1", "Next", "the Table's length"} {
			most := uint64(4611686018427387904)
			switch k {
			case 3, 4:
				most++
			case 6:
				most = 1048576
			}
			out = append(out, numberOf{what, numbers[k], 0, most})
		}
		for _, at := range numbers[7:] {
			out = append(out, numberOf{"a position", at, 0, 4611686018427387904})
		}
		return out
	}
	return slices.Concat(
		[]numberOf{{"most", 9, 1, 1048576}, {"how many there are", 3, 0, 9}, {"how many there were", 5, 3, 9}},
		frame(3, 7, 0, 0, 0, 0, 0),
		frame(300, 1<<40, 9, 301, 1, 2, 2, 12, 300),
		frame(0, 1, 2, 3, 1<<62, 5, 1, 0),
	)
}

// laidOut: their bytes, and where each one begins.
func laidOut(l []numberOf) (b []byte, at []int) {
	b = []byte{0x66}
	for _, x := range l {
		at = append(at, len(b))
		b = binary.AppendUvarint(b, x.n)
	}
	return b, at
}

// great: numbers that would be below 0, or small, if they were taken for another kind of number.
func great() []uint64 {
	return []uint64{1<<62 + 2, 1<<63 - 1, 1 << 63, 1<<63 + 1, 1<<63 + 7, math.MaxUint64 - 1, math.MaxUint64}
}

// P22.9: each number at its bounds and beyond them, with right bytes behind, with none, and with some that are wrong too.
func TestLoadBounds(t *testing.T) {
	for k, x := range sample() {
		l := sample()
		_, at := laidOut(l)
		beyond := append(great(), x.most+1, x.most+2, 2*x.most+1)
		if x.least > 0 {
			beyond = append(beyond, x.least-1, 0)
		}
		for _, n := range beyond {
			l[k].n = n
			b, _ := laidOut(l)
			refusedIs(t, b, api.ErrState, at[k])
			end := at[k] + len(binary.AppendUvarint(nil, n))
			refusedIs(t, b[:end], api.ErrState, at[k])
			refusedIs(t, append(bytes.Clone(b[:end]), 0x80, 0), api.ErrState, at[k])
			refusedIs(t, append(bytes.Clone(b[:end]), bytes.Repeat([]byte{0xff}, 20)...), api.ErrState, at[k])
			for cut := at[k]; cut < end; cut++ {
				refusedIs(t, b[:cut], api.ErrShort, cut)
			}
		}
		for _, n := range []uint64{x.least, x.least + 1, x.most - 1, x.most} {
			l[k].n = n
			b, _ := laidOut(l)
			// Of other counts other numbers would have to stand behind.
			if f := loadIs(t, b); k > 2 && x.what != "the Table's length" && f != (api.Fault{}) {
				t.Errorf("P22.9: %s %d: %v", x.what, n, f)
			}
			if f := loadIs(t, b); f.Err == api.ErrState && f.At == at[k] {
				t.Errorf("P22.9: %s %d: %v", x.what, n, f)
			}
		}
	}
}

// P22.9: counts against one another: how many there may be, are, were.
func TestLoadCounts(t *testing.T) {
	for most := range uint64(9) {
		for length := range uint64(9) {
			for high := range uint64(9) {
				b := bytesOf(most, length, high)
				for range length {
					b = append(b, 1, 2, 3, 0, 4, 5, 0)
				}
				switch {
				case most == 0:
					refusedIs(t, b, api.ErrState, 1)
				case length > most:
					refusedIs(t, b, api.ErrState, 2)
				case high < length || high > most:
					refusedIs(t, b, api.ErrState, 3)
				default:
					if f := loadIs(t, b); f != (api.Fault{}) {
						t.Errorf("P22.9: Load(% x) = %v", b, f)
					}
				}
			}
		}
	}
	refusedIs(t, bytesOf(mostCode+1, 0, 0), api.ErrState, 1)
	refusedIs(t, bytesOf(mostCode, mostCode+1, 0), api.ErrState, 4)
	refusedIs(t, bytesOf(mostCode, 0, mostCode+1), api.ErrState, 5)
	refusedIs(t, bytesOf(mostCode, 1, mostCode), api.ErrShort, 8)
	if f := loadIs(t, bytesOf(mostCode, 0, mostCode)); f != (api.Fault{}) {
		t.Errorf("P22.9: Load of a stack that was full = %v", f)
	}
}

// P22.9: varint's faults of each number, at the byte that shows them, whatever else the number would be.
func TestLoadForms(t *testing.T) {
	b, at := laidOut(sample())
	for k, from := range at {
		ahead := func(hex string) []byte { return append(bytes.Clone(b[:from]), unhex(hex)...) }
		refusedIs(t, ahead(""), api.ErrShort, from)
		refusedIs(t, ahead("80"), api.ErrShort, from+1)
		refusedIs(t, ahead("ff ff"), api.ErrShort, from+2)
		refusedIs(t, ahead("ff ff ff ff ff ff ff ff ff"), api.ErrShort, from+9)
		refusedIs(t, ahead("80 00"), api.ErrForm, from+1)
		refusedIs(t, ahead("81 00 14 14"), api.ErrForm, from+1)
		refusedIs(t, ahead("ff ff ff ff ff ff 00"), api.ErrForm, from+6)
		refusedIs(t, ahead("ff ff ff ff ff ff ff ff ff 02"), api.ErrForm, from+9)
		refusedIs(t, ahead("ff ff ff ff ff ff ff ff ff 00 01 01"), api.ErrForm, from+9)
		refusedIs(t, ahead("80 80 80 80 80 80 80 80 80 80 01"), api.ErrForm, from+9)
		// The right number with a group more than it needs, and with two, and with all that there may be.
		for groups := range 9 {
			own := binary.AppendUvarint(nil, sample()[k].n)
			if len(own)+groups > 9 {
				break
			}
			own[len(own)-1] |= 0x80
			own = append(append(own, bytes.Repeat([]byte{0x80}, groups)...), 0)
			behind := b[from+len(own)-groups-1:]
			refusedIs(t, slices.Concat(b[:from], own, behind), api.ErrForm, from+len(own)-1)
			refusedIs(t, slices.Concat(b[:from], own), api.ErrForm, from+len(own)-1)
		}
	}
}

// spoiling: bytes in a number's place that show a fault, which one, and how far in.
type spoiling struct {
	b  []byte
	e  api.Errno
	in int
}

func spoiled(x numberOf) []spoiling {
	return []spoiling{
		{unhex("80 00"), api.ErrForm, 1},
		{unhex("ff ff ff ff ff ff ff ff ff 02"), api.ErrForm, 9},
		{binary.AppendUvarint(nil, x.most+1), api.ErrState, 0},
		{binary.AppendUvarint(nil, math.MaxUint64), api.ErrState, 0},
	}
}

// P22.9: of two faults that of the number that comes first is told; and ErrTail behind all others.
func TestLoadOrder(t *testing.T) {
	l := sample()
	b, at := laidOut(l)
	end := func(k int) int { return at[k] + len(binary.AppendUvarint(nil, l[k].n)) }
	for second := range l {
		for _, y := range spoiled(l[second]) {
			alone := slices.Concat(b[:at[second]], y.b, b[end(second):])
			refusedIs(t, alone, y.e, at[second]+y.in)
			refusedIs(t, append(bytes.Clone(alone), 0, 0x80), y.e, at[second]+y.in)
			refusedIs(t, alone[:at[second]+len(y.b)], y.e, at[second]+y.in)
			refusedIs(t, append([]byte{0x67}, alone[1:]...), api.ErrState, 0)
			for first := range second {
				for _, x := range spoiled(l[first]) {
					both := slices.Concat(b[:at[first]], x.b, b[end(first):at[second]], y.b, b[end(second):])
					refusedIs(t, both, x.e, at[first]+x.in)
				}
			}
		}
	}
}

// roomOf: how many bytes of memory a call takes.
func roomOf(call func()) uint64 {
	var ahead, behind runtime.MemStats
	runtime.ReadMemStats(&ahead)
	call()
	runtime.ReadMemStats(&behind)
	return behind.TotalAlloc - ahead.TotalAlloc
}

// P22.9: a length that says more than there are bytes behind takes no room ahead of its positions, nor does a number of frames.
func TestLengthsThatLie(t *testing.T) {
	frame := []byte{0, 0, 0, 1, 1, 0}
	long := binary.AppendUvarint(nil, many)
	counts := bytesOf(mostCode, mostCode, mostCode)
	var inputs [][]byte
	for _, some := range [][]byte{nil, {5}, {5, 6, 7}, bytes.Repeat([]byte{7}, 40)} {
		inputs = append(inputs, slices.Concat(counts, some))
		inputs = append(inputs, slices.Concat(counts, frame, long, some))
		inputs = append(inputs, slices.Concat(counts, frame, []byte{2, 5, 6}, frame, []byte{0}, frame, long, some))
		inputs = append(inputs, slices.Concat(bytesOf(1, 1, 1), frame, long, some))
		inputs = append(inputs, slices.Concat(counts, bytes.Repeat(slices.Concat(frame, []byte{0}), 20), frame, long, some))
	}
	for _, b := range inputs {
		refusedIs(t, b, api.ErrShort, len(b))
		if room := roomOf(func() { frames.Load(b) }); room > 1<<16 {
			t.Errorf("P22.9: Load(%s) takes %d bytes of memory", briefBytes(b), room)
		}
		bad := append(bytes.Clone(b), 0x80, 0)
		refusedIs(t, bad, api.ErrForm, len(bad)-1)
		if room := roomOf(func() { frames.Load(bad) }); room > 1<<16 {
			t.Errorf("P22.9: Load(%s) takes %d bytes of memory", briefBytes(bad), room)
		}
	}
}

// P22.9, P22.10: bytes of a stack of which one is changed, is gone, or is there twice.
func TestLoadChanged(t *testing.T) {
	d := dice(31)
	taken, refused := 0, 0
	look := func(b []byte) {
		if loadIs(t, b) == (api.Fault{}) {
			taken++
		} else {
			refused++
		}
	}
	for n := range 60 {
		b := d.chanceStack(t, 1+n%9, n/2).s.Save()
		for at := range b {
			was := b[at]
			for c := range 256 {
				b[at] = byte(c)
				look(b)
			}
			b[at] = was
			look(slices.Delete(bytes.Clone(b), at, at+1))
			look(slices.Insert(bytes.Clone(b), at, was))
			look(slices.Insert(bytes.Clone(b), at, 0))
			look(slices.Insert(bytes.Clone(b), at, 0x80))
			from := d.below(at + 1)
			look(slices.Delete(bytes.Clone(b), from, at))
		}
	}
	if taken < 1000 || refused < 1000 {
		t.Errorf("only %d were taken, %d refused", taken, refused)
	}
}

// P22.1, P22.9, P22.10: all short bytes of a few.
func TestLoadShortBytes(t *testing.T) {
	few := []byte{0, 1, 2, 3, 7, 0x40, 0x66, 0x7f, 0x80, 0x81, 0xff}
	var fill func(b []byte, left int)
	fill = func(b []byte, left int) {
		loadIs(t, b)
		if left == 0 {
			return
		}
		for _, c := range few {
			fill(append(b[:len(b):len(b)], c), left-1)
		}
	}
	fill(nil, 2)
	fill([]byte{0x66}, 5)
	fill([]byte{0x66, 1, 1, 1}, 3)
	fill([]byte{0x66, 1, 1, 1, 0, 0, 0, 0, 0}, 3)
	fill([]byte{0x66, 9, 0, 9}, 2)
	fill([]byte{0x66, 3, 2, 2, 0, 0, 0, 0, 0, 0, 1, 5, 1, 1, 1, 1, 1, 1}, 3)
}

// chanceBytes: numbers as they might stand in a stack's bytes, mostly.
func (d *dice) chanceBytes(n int) []byte {
	b := []byte{0x66}
	for range n {
		switch d.below(12) {
		case 0:
			b = append(b, byte(d.below(256)))
		case 1:
			b = binary.AppendUvarint(b, uint64(d.number(0)))
		case 2:
			b = binary.AppendUvarint(b, uint64(d.oneOf(strangeNumbers()...)))
		default:
			b = append(b, byte(d.below(4)))
		}
	}
	return b
}

// P22.1, P22.9, P22.10: bytes that look like chance.
func TestLoadChance(t *testing.T) {
	d := dice(32)
	taken := 0
	for n := range 60000 {
		if loadIs(t, d.chanceBytes(n%40)) == (api.Fault{}) {
			taken++
		}
		b := make([]byte, n%30)
		for k := range b {
			b[k] = byte(d.below(256))
		}
		loadIs(t, b)
	}
	if taken < 100 {
		t.Errorf("only %d were taken", taken)
	}
}

// P22.1, P22.9: many bytes of one kind.
func TestLoadManyBytes(t *testing.T) {
	for _, n := range []int{1, 100, 1 << 20} {
		for _, c := range []byte{0, 1, 2, 0x66, 0x7f, 0x80, 0xff} {
			same := bytes.Repeat([]byte{c}, n)
			loadIs(t, same)
			loadIs(t, append([]byte{0x66}, same...))
			loadIs(t, append(bytesOf(mostCode, mostCode, mostCode), same...))
			loadIs(t, append(bytesOf(1, 1, 1, 0, 0, 0, 0, 0, 0, many), same...))
			loadIs(t, append(bytesOf(9, 2, 2, 0, 0, 0, 0, 0, 0, uint64(n)), same...))
		}
	}
}

// P22.9: a Table of as many positions as there may be, and of one more.
func TestLoadLongTable(t *testing.T) {
	for _, length := range []uint64{many - 1, many, many + 1, many + 2} {
		head := bytesOf(1, 1, 1, 0, 0, 0, 0, 0, 0)
		b := append(binary.AppendUvarint(bytes.Clone(head), length), bytes.Repeat([]byte{3}, int(length))...)
		if length > 1048576 {
			refusedIs(t, b, api.ErrState, len(head))
			continue
		}
		if f := loadIs(t, b); f != (api.Fault{}) {
			t.Errorf("P22.9: Load of a Table of %d positions = %v", length, f)
		}
		refusedIs(t, b[:len(b)-1], api.ErrShort, len(b)-1)
		refusedIs(t, append(b, 3), api.ErrTail, len(b))
	}
}
