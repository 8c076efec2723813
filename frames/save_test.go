package frames_test

import (
	"bytes"
	"testing"

	"mortise/api"
	"mortise/frames"
)

// savedIs: Save's bytes are these, written out; Load takes them, and Save of what it answers is the same.
func savedIs(t *testing.T, x *twin, hex string) {
	t.Helper()
	want := unhex(hex)
	if b := x.s.Save(); !bytes.Equal(b, want) {
		t.Errorf("P22.8: Save = % x, want % x", b, want)
	}
	if f := loadIs(t, want); f != (api.Fault{}) {
		t.Errorf("P22.10: Load(% x) = %v", want, f)
	}
}

// P22.8: the chapter's worked example.
func TestSaveExample(t *testing.T) {
	savedIs(t, newTwin(t, 2, exampleF(), exampleG()), "66 02 02 02 | 03 07 00 00 00 00 00 | 03 07 09 ad 02 01 02 02 0c ac 02")
}

// P22.8: what stands ahead of the frames: most, how many there are, how many there were.
func TestSaveCounts(t *testing.T) {
	savedIs(t, newTwin(t, 1), "66 01 00 00")
	savedIs(t, newTwin(t, 127), "66 7f 00 00")
	savedIs(t, newTwin(t, 128), "66 80 01 00 00")
	savedIs(t, newTwin(t, mostCode), "66 80 80 40 00 00")
	x := newTwin(t, 300, exampleF())
	savedIs(t, x, "66 ac 02 01 01 | 03 07 00 00 00 00 00")
	x.push(api.Frame{})
	x.push(api.Frame{})
	savedIs(t, x, "66 ac 02 03 03 | 03 07 00 00 00 00 00 | 00 00 00 01 01 00 00 | 00 00 00 01 01 00 00")
	x.pop()
	x.pop()
	savedIs(t, x, "66 ac 02 01 03 | 03 07 00 00 00 00 00")
	x.pop()
	savedIs(t, x, "66 ac 02 00 03")
	for range 300 {
		x.push(api.Frame{})
	}
	x.empty()
	savedIs(t, x, "66 ac 02 00 ac 02")
}

// P22.8: each number of a frame by itself, at its bounds.
func TestSaveFields(t *testing.T) {
	const hugest = "80 80 80 80 80 80 80 80 40"
	savedIs(t, newTwin(t, 9, api.Frame{Routine: 5}), "66 09 01 01 | 05 00 00 01 01 00 00")
	savedIs(t, newTwin(t, 9, api.Frame{At: 5}), "66 09 01 01 | 00 05 00 01 01 00 00")
	savedIs(t, newTwin(t, 9, api.Frame{Base: 5}), "66 09 01 01 | 00 00 05 01 01 00 00")
	savedIs(t, newTwin(t, 9, api.Frame{End: 5}), "66 09 01 01 | 00 00 00 06 01 00 00")
	savedIs(t, newTwin(t, 9, api.Frame{Node: 5}), "66 09 01 01 | 00 00 00 01 06 00 00")
	savedIs(t, newTwin(t, 9, api.Frame{Next: 5}), "66 09 01 01 | 00 00 00 01 01 05 00")
	savedIs(t, newTwin(t, 9, api.Frame{Table: []int{5}}), "66 09 01 01 | 00 00 00 01 01 00 01 05")
	savedIs(t, newTwin(t, 9, api.Frame{End: -1, Node: -1}), "66 09 01 01 | 00 00 00 00 00 00 00")
	savedIs(t, newTwin(t, 9, api.Frame{End: 127, Node: 128}), "66 09 01 01 | 00 00 00 80 01 81 01 00 00")
	savedIs(t, newTwin(t, 9, api.Frame{Routine: huge}), "66 09 01 01 |"+hugest+"00 00 01 01 00 00")
	savedIs(t, newTwin(t, 9, api.Frame{At: huge}), "66 09 01 01 | 00"+hugest+"00 01 01 00 00")
	savedIs(t, newTwin(t, 9, api.Frame{Base: huge}), "66 09 01 01 | 00 00"+hugest+"01 01 00 00")
	savedIs(t, newTwin(t, 9, api.Frame{End: huge}), "66 09 01 01 | 00 00 00 81 80 80 80 80 80 80 80 40 01 00 00")
	savedIs(t, newTwin(t, 9, api.Frame{Node: huge}), "66 09 01 01 | 00 00 00 01 81 80 80 80 80 80 80 80 40 00 00")
	savedIs(t, newTwin(t, 9, api.Frame{Next: huge}), "66 09 01 01 | 00 00 00 01 01"+hugest+"00")
	savedIs(t, newTwin(t, 9, api.Frame{Table: []int{0, huge, 127, 128, 300}}), "66 09 01 01 | 00 00 00 01 01 00 05 00"+hugest+"7f 80 01 ac 02")
}

// P22.8: frames one behind the other, the first one first, each as it was set last.
func TestSaveOrder(t *testing.T) {
	x := newTwin(t, 9)
	for k := range 4 {
		x.push(api.Frame{Routine: k, Table: []int{10 + k}})
	}
	savedIs(t, x, "66 09 04 04 | 00 00 00 01 01 00 01 0a | 01 00 00 01 01 00 01 0b | 02 00 00 01 01 00 01 0c | 03 00 00 01 01 00 01 0d")
	x.mark(20)
	savedIs(t, x, "66 09 04 04 | 00 00 00 01 01 00 01 0a | 01 00 00 01 01 00 01 0b | 02 00 00 01 01 00 01 0c | 03 00 00 01 01 00 02 0d 14")
	x.goes(api.Frame{Next: 6})
	x.pop()
	x.goes(api.Frame{Next: 7})
	savedIs(t, x, "66 09 03 04 | 00 00 00 01 01 00 01 0a | 01 00 00 01 01 00 01 0b | 00 00 00 01 01 07 01 0c")
	x.set(api.Frame{At: 8})
	savedIs(t, x, "66 09 03 04 | 00 00 00 01 01 00 01 0a | 01 00 00 01 01 00 01 0b | 00 08 00 01 01 00 00")
}

// P22.8: Save changes nothing, and answers the same again.
func TestSaveAgain(t *testing.T) {
	d := dice(21)
	for n := range 200 {
		x := d.chanceStack(t, 1+n%9, n)
		b := x.s.Save()
		if again := x.s.Save(); !bytes.Equal(b, again) {
			t.Fatalf("P22.8: Save = % x, and then % x", b, again)
		}
		x.empty()
	}
}

// P22.8, P22.10: Tables of as many positions as there may be, in more frames than one.
func TestSaveLongTables(t *testing.T) {
	table := make([]int, many)
	for k := range table {
		table[k] = k * k
	}
	x := newTwin(t, 3)
	x.brief = true
	x.push(withTable(exampleG(), table...))
	x.push(exampleF())
	x.push(withTable(exampleF(), table[1:]...))
	b := x.s.Save()
	if !bytes.Equal(b, x.m.bytes()) {
		t.Fatal("P22.8: Save of long Tables")
	}
	if f := loadIs(t, b); f != (api.Fault{}) {
		t.Fatalf("P22.10: Load of long Tables = %v", f)
	}
	y := x.loaded()
	wantError(t, "P22.6: Mark", y.mark(5), api.OK)
	wantError(t, "P22.6: Mark", y.mark(5), api.ErrMany)
	x.empty()
	y.empty()
	refusedIs(t, b[:len(b)-1], api.ErrShort, len(b)-1)
	refusedIs(t, append(b, 0), api.ErrTail, len(b))
}

// P22.10: of a stack and of what Load answers of its bytes the same calls answer the same from then on.
func TestThereAndBack(t *testing.T) {
	d := dice(22)
	for n := range 150 {
		x := d.chanceStack(t, 1+n%8, n)
		stacks := []*twin{x, x.loaded()}
		for range 60 {
			d.step(stacks...)
			if d.below(20) == 0 {
				stacks = append(stacks[:min(len(stacks), 3)], stacks[d.below(len(stacks))].loaded())
			}
		}
		for _, y := range stacks {
			y.empty()
		}
	}
}

// P22.10: most is kept too: the loaded stack may have as many frames, and no more.
func TestLoadedMost(t *testing.T) {
	for most := 1; most <= 20; most++ {
		for count := range most + 1 {
			x := newTwin(t, most)
			for range count {
				x.push(exampleG())
			}
			y := x.loaded()
			for range most - count {
				wantError(t, "P22.10: Push", y.push(exampleF()), api.OK)
			}
			wantError(t, "P22.10: Push, one more", y.push(exampleF()), api.ErrFrames)
			wantCounts(t, "Push", y.s, most, most)
		}
	}
}

// P22.12: bytes that are cut, at every place, and bytes behind the end.
func TestCut(t *testing.T) {
	d := dice(23)
	stacks := []*twin{newTwin(t, 1), newTwin(t, mostCode), newTwin(t, 2, exampleF(), exampleG()), newTwin(t, 2, api.Frame{Routine: huge, At: huge, Base: huge, End: huge, Node: huge, Next: huge, Table: []int{huge, huge}})}
	for n := range 100 {
		stacks = append(stacks, d.chanceStack(t, 1+n*n, n))
	}
	for _, x := range stacks {
		b := x.s.Save()
		for at := range b {
			if s, f := frames.Load(b[:at]); s != nil || f != (api.Fault{Err: api.ErrShort, At: at}) {
				t.Fatalf("P22.12: Load(% x) = %v, %v, want ErrShort at %d", b[:at], s != nil, f, at)
			}
		}
		for c := range 256 {
			for _, behind := range [][]byte{{byte(c)}, {byte(c), 0}, {byte(c), 0x66, 0xff}, bytes.Repeat([]byte{byte(c)}, 12)} {
				long := append(bytes.Clone(b), behind...)
				if s, f := frames.Load(long); s != nil || f != (api.Fault{Err: api.ErrTail, At: len(b)}) {
					t.Fatalf("P22.12: Load(% x) = %v, %v, want ErrTail at %d", long, s != nil, f, len(b))
				}
			}
		}
		refusedIs(t, append(bytes.Clone(b), b...), api.ErrTail, len(b))
	}
}
