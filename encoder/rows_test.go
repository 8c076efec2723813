package encoder_test

import (
	"fmt"
	"math"
	"strings"
	"testing"

	"mortise/api"
)

// rowIs: what a type's routine makes of a value: bytes or a fault, and steps; at every cap, and by the model too.
func rowIs(t *testing.T, text string, n int, v []api.Node, want string, steps int, f api.Fault) {
	t.Helper()
	p := taken(t, text)
	x := asModel(t, p, n, v)
	if x.fault != f {
		t.Errorf("P24.2: %s: of %s %v, want %v", text, briefValue(v), x.fault, f)
		return
	}
	runIs(t, p, n, v, 1<<20, unhex(want), steps, f)
}

// goesWell: a row whose answer is bytes.
func goesWell(t *testing.T, text string, n int, v []api.Node, want string, steps int) {
	t.Helper()
	rowIs(t, text, n, v, want, steps, ok)
}

// isAmiss: a row whose answer is a fault.
func isAmiss(t *testing.T, text string, n int, v []api.Node, e api.Errno, at int) {
	t.Helper()
	rowIs(t, text, n, v, "", 0, fault(e, at))
}

// kinds: a value of each kind.
func kinds() [][]api.Node {
	return [][]api.Node{v(u(1)), v(b(1)), v(s(1), u(1)), v(st(1), u(1)), v(o(1), u(1)), v(c(1), u(1)), v(s(0)), v(o(0))}
}

// P24.2: each instruction that takes a node: ErrKind of every other kind, as the root, and as a kid: of a struct, of a sequence.
func TestKinds(t *testing.T) {
	for _, x := range []struct {
		text string
		kind int
	}{
		{"number 0 1; ret", api.NodeUint}, {"number 3 8; ret", api.NodeUint}, {"leb; ret", api.NodeUint}, {"flag 0; ret", api.NodeBool},
		{"many 1; x: number - 1; again x; ret", api.NodeSeq}, {"upto 1; jump y; x: number - 1; y: again x; ret", api.NodeSeq},
		{"fields 1; number 0 1; ret", api.NodeStruct}, {"maybe y; number 1 1; y: ret", api.NodeOption}, {"choice 1; arm 1 y; y: number 1 1; ret", api.NodeUnion},
	} {
		for _, l := range kinds() {
			if l[0].Kind == x.kind {
				if is := asModel(t, taken(t, x.text+" | 0"), 0, l); is.fault != ok && is.fault.Err != api.ErrItems {
					t.Errorf("P24.2: %s of %v: %v", x.text, l, is.fault)
				}
				continue
			}
			isAmiss(t, x.text+" | 0", 0, l, api.ErrKind, 0)
			inside := x.text + "; t: fields 3; leb; leb; append 0; ret; l: upto 9; jump m; k: append 0; m: again k; ret | 0 t l"
			isAmiss(t, inside, 1, append(v(st(3), u(300), u(300)), l...), api.ErrKind, 3)
			isAmiss(t, inside, 2, append(v(s(1)), l...), api.ErrKind, 1)
		}
	}
	// Of numbers each one may be the one.
	for k := range 3 {
		for _, l := range kinds()[1:] {
			list := append(v(st(3), u(1), u(2))[:k+1], l...)
			for range 2 - k {
				list = append(list, u(3))
			}
			isAmiss(t, "fields 3; numbers 0 3 1; ret | 0", 0, list, api.ErrKind, k+1)
		}
	}
	// Of the kids by turns.
	isAmiss(t, "many 3; x: number - 2; again x; ret | 0", 0, v(s(3), u(1), b(1), u(1)), api.ErrKind, 2)
	isAmiss(t, "many 3; x: flag -; again x; ret | 0", 0, v(s(3), b(1), b(0), u(1)), api.ErrKind, 3)
}

// bounds: of each width the least numbers and the greatest one that it holds, and such as it doesn't hold.
func bounds(width int) (in, out []uint64) {
	most := uint64(math.MaxUint64) >> (64 - 8*width)
	in = []uint64{0, 1, most/2 + 1, most - 1, most}
	if width < 8 {
		out = []uint64{most + 1, most + 2, 2*most + 2, 1 << 63, math.MaxUint64}
	}
	return in, out
}

// little: a number's bytes, the lowest first, in hex digits.
func little(n uint64, width int) string {
	out := ""
	for range width {
		out += fmt.Sprintf("%02x", n%256)
		n /= 256
	}
	return out
}

// P24.2: numbers at each bound of their widths: number, at a place, by turns; numbers.
func TestWidths(t *testing.T) {
	for _, w := range []int{1, 2, 4, 8} {
		in, out := bounds(w)
		for _, n := range in {
			goesWell(t, fmt.Sprintf("number 0 %d; ret | 0", w), 0, v(u(n)), little(n, w), 2)
			goesWell(t, fmt.Sprintf("number 3 %d; ret | 0", w), 0, v(u(n)), "000000"+little(n, w), 2)
			goesWell(t, fmt.Sprintf("fields 3; numbers 1 3 %d; ret | 0", w), 0, v(st(3), u(n), u(0), u(n)), "00"+little(n, w)+little(0, w)+little(n, w), 3)
			goesWell(t, fmt.Sprintf("many 3; x: number - %d; again x; ret | 0", w), 0, v(s(3), u(n), u(0), u(n)), little(n, w)+little(0, w)+little(n, w), 8)
		}
		for _, n := range out {
			isAmiss(t, fmt.Sprintf("number 0 %d; ret | 0", w), 0, v(u(n)), api.ErrValue, 0)
			isAmiss(t, fmt.Sprintf("number 99 %d; ret | 0", w), 0, v(u(n)), api.ErrValue, 0)
			for k := range 3 {
				for _, code := range []string{"fields 3; numbers 1 3 %d; ret | 0", "fields 3; number 0 %[1]d; number 1 %[1]d; number 2 %[1]d; ret | 0", "many 3; x: number - %d; again x; ret | 0"} {
					l := v(st(3), u(1), u(2), u(3))
					if strings.HasPrefix(code, "many") {
						l[0] = s(3)
					}
					l[1+k].N = n
					isAmiss(t, fmt.Sprintf(code, w), 0, l, api.ErrValue, 1+k)
				}
			}
		}
	}
}

// P24.2: varints at each length, as the root, and behind what there is.
func TestVarints(t *testing.T) {
	for _, x := range []struct {
		n    uint64
		want string
	}{
		{0, "00"}, {1, "01"}, {127, "7f"}, {128, "8001"}, {300, "ac02"}, {16383, "ff7f"}, {16384, "808001"}, {1<<21 - 1, "ffff7f"}, {1 << 21, "80808001"},
		{1<<28 - 1, "ffffff7f"}, {1 << 28, "8080808001"}, {1<<35 - 1, "ffffffff7f"}, {1 << 35, "808080808001"}, {1<<42 - 1, "ffffffffff7f"}, {1 << 42, "80808080808001"},
		{1<<49 - 1, "ffffffffffff7f"}, {1 << 49, "8080808080808001"}, {1<<56 - 1, "ffffffffffffff7f"}, {1 << 56, "808080808080808001"}, {1<<63 - 1, "ffffffffffffffff7f"},
		{1 << 63, "80808080808080808001"}, {math.MaxUint64, "ffffffffffffffffff01"}, {1<<63 + 1, "81808080808080808001"},
	} {
		goesWell(t, "leb; ret | 0", 0, v(u(x.n)), x.want, 2)
		goesWell(t, "fields 3; number 4 1; leb; leb; ret | 0", 0, v(st(3), u(5), u(x.n), u(x.n)), "00000000 05"+x.want+x.want, 5)
	}
}

// P24.2: how many kids there may be: many, upto, fields.
func TestItems(t *testing.T) {
	for most := 1; most <= 4; most++ {
		for kids := range 7 {
			list := []api.Node{s(kids)}
			want, short := "", ""
			for k := range kids {
				list = append(list, u(uint64(k)))
				want, short = want+little(uint64(k), 2), short+little(uint64(k), 1)
			}
			many := fmt.Sprintf("many %d; x: number - 2; again x; ret | 0", most)
			upto := fmt.Sprintf("upto %d; jump y; x: number - 2; y: again x; ret | 0", most)
			fields := fmt.Sprintf("fields %d; %sret | 0", most, strings.Repeat("leb; ", most))
			if kids == most {
				goesWell(t, many, 0, list, want, 2+2*kids)
			} else {
				isAmiss(t, many, 0, list, api.ErrItems, 0)
			}
			if kids <= most {
				goesWell(t, upto, 0, list, want, 4+2*kids)
			} else {
				isAmiss(t, upto, 0, list, api.ErrItems, 0)
			}
			if kids == 0 {
				continue
			}
			list[0].Kind = api.NodeStruct
			if kids == most {
				goesWell(t, fields, 0, list, short, 2+kids)
			} else {
				isAmiss(t, fields, 0, list, api.ErrItems, 0)
			}
		}
	}
	// In others.
	isAmiss(t, "many 2; x: number - 1; again x; ret; t: fields 2; enter 0 0; append 0; ret | 0 t", 1, v(st(2), s(2), u(1), u(2), s(3), u(1), u(2), u(3)), api.ErrItems, 4)
	isAmiss(t, "upto 2; jump y; x: number - 1; y: again x; ret; l: upto 2; jump n; m: append 0; n: again m; ret | 0 l", 1, v(s(2), s(0), s(3), u(1), u(2), u(3)), api.ErrItems, 2)
	isAmiss(t, "fields 1; leb; ret; l: upto 2; jump n; m: append 0; n: again m; ret | 0 l", 1, v(s(2), st(1), u(9), st(2), u(1), u(2)), api.ErrItems, 3)
	// The kind comes ahead of the number.
	isAmiss(t, "many 2; x: number - 1; again x; ret | 0", 0, v(st(3), u(1), u(2), u(3)), api.ErrKind, 0)
	isAmiss(t, "fields 2; leb; leb; ret | 0", 0, v(s(3), u(1), u(2), u(3)), api.ErrKind, 0)
	// The number comes ahead of the kids.
	isAmiss(t, "fields 2; leb; leb; ret | 0", 0, v(st(3), b(1), u(2), u(3)), api.ErrItems, 0)
}

// P24.2: flag: both bytes, at places, by turns.
func TestFlags(t *testing.T) {
	goesWell(t, "flag 0; ret | 0", 0, v(b(0)), "00", 2)
	goesWell(t, "flag 0; ret | 0", 0, v(b(1)), "01", 2)
	goesWell(t, "flag 5; ret | 0", 0, v(b(1)), "0000000000 01", 2)
	goesWell(t, "flag 5; ret | 0", 0, v(b(0)), "0000000000 00", 2)
	goesWell(t, "fields 2; flag 1; flag 0; ret | 0", 0, v(st(2), b(1), b(0)), "00 01", 4)
	goesWell(t, "many 4; x: flag -; again x; ret | 0", 0, v(s(4), b(1), b(0), b(0), b(1)), "01 00 00 01", 10)
	goesWell(t, "many 3; x: flag -; again x; ret; t: fields 2; enter 2 0; append 0; ret | 0 t", 1, v(st(2), s(3), b(1), b(0), b(1), s(3), b(0), b(1), b(1)), "00 00 01 00 01 00 01 01", 20)
}

// P24.2: maybe and choice: what stands at place 0, and where they lead.
func TestTags(t *testing.T) {
	maybe := "maybe y; leb; y: ret; t: fields 2; enter 3 0; append 0; ret | 0 t"
	goesWell(t, maybe, 0, v(o(0)), "00", 2)
	goesWell(t, maybe, 0, v(o(1), u(300)), "01 ac02", 3)
	goesWell(t, maybe, 1, v(st(2), o(1), u(300), o(1), u(5)), "00 00 00 01 ac02 01 05", 10)
	goesWell(t, maybe, 1, v(st(2), o(0), o(0)), "00 00 00 00 00", 8)
	// Without a kid it goes on at the target, wherever that is.
	goesWell(t, "ret; maybe 0; leb; ret | 1", 0, v(o(0)), "00", 2)
	goesWell(t, "maybe y; leb; jump z; y: room 3; z: ret | 0", 0, v(o(0)), "00 00 00", 3)
	goesWell(t, "maybe y; leb; jump z; y: room 3; z: ret | 0", 0, v(o(1), u(7)), "01 07", 4)
	// At place 0, whatever is there.
	goesWell(t, "leb; ret; maybe y; number 0 2; y: ret | 0 2", 1, v(o(1), u(0x0302)), "02 03", 3)
	goesWell(t, "number 0 4; ret; x: maybe y; leb; y: ret; t: fields 2; number 0 4; enter 1 1; ret | 0 x t", 2, v(st(2), u(0xffffffff), o(0)), "ff 00 ff ff", 6)
	goesWell(t, "number 0 4; ret; x: choice 1; arm 9 y; y: leb; ret; t: fields 2; number 0 4; enter 1 1; ret | 0 x t", 2, v(st(2), u(0xffffffff), c(9), u(8)), "ff 09 ff ff 08", 7)

	choice := "choice 3; arm 0 x; arm 255 y; arm 7 z; x: leb; ret; y: number 1 2; ret; z: number 3 1; ret; t: fields 2; enter 1 0; append 0; ret | 0 t"
	goesWell(t, choice, 0, v(c(0), u(300)), "00 ac02", 3)
	goesWell(t, choice, 0, v(c(255), u(300)), "ff 2c01", 3)
	goesWell(t, choice, 0, v(c(7), u(9)), "07 00 00 09", 3)
	goesWell(t, choice, 1, v(st(2), c(7), u(9), c(0), u(1)), "00 07 00 00 09 00 01", 10)
	for _, tag := range []uint64{1, 6, 8, 254} {
		isAmiss(t, choice, 0, v(c(tag), u(1)), api.ErrArm, 0)
		isAmiss(t, choice, 0, v(c(tag), b(1)), api.ErrArm, 0)
		isAmiss(t, choice, 1, v(st(2), c(7), u(9), c(tag), u(1)), api.ErrArm, 3)
	}
	isAmiss(t, choice, 0, v(c(7), u(256)), api.ErrValue, 1)
	isAmiss(t, choice, 0, v(c(7), b(1)), api.ErrKind, 1)
	// Only as many arms are asked as it says; an arm behind them is another one's.
	two := "choice 1; arm 1 x; arm 2 y; x: leb; ret; y: leb; ret | 0"
	isAmiss(t, two, 0, v(c(2), u(1)), api.ErrArm, 0)
	goesWell(t, two, 0, v(c(1), u(1)), "01 01", 3)
	// The most arms that there may be.
	most := "choice 64; "
	for tag := range 64 {
		most += fmt.Sprintf("arm %d x; ", 255-3*tag)
	}
	for tag := range 256 {
		if over := 255 - tag; over%3 == 0 && over/3 < 64 {
			goesWell(t, most+"x: leb; ret | 0", 0, v(c(uint64(tag)), u(5)), fmt.Sprintf("%02x 05", tag), 3)
		} else {
			isAmiss(t, most+"x: leb; ret | 0", 0, v(c(uint64(tag)), u(5)), api.ErrArm, 0)
		}
	}
}

// P24.2: room grows, and never cuts; with - it is four bytes for each kid.
func TestRoom(t *testing.T) {
	goesWell(t, "fields 1; room 5; leb; ret | 0", 0, v(st(1), u(7)), "0000000000 07", 4)
	goesWell(t, "fields 1; leb; room 5; ret | 0", 0, v(st(1), u(7)), "07 00000000", 4)
	goesWell(t, "fields 2; number 6 1; room 5; leb; ret | 0", 0, v(st(2), u(7), u(8)), "000000000000 07 08", 5)
	goesWell(t, "fields 2; number 6 1; room 7; leb; ret | 0", 0, v(st(2), u(7), u(8)), "000000000000 07 08", 5)
	goesWell(t, "fields 2; number 6 1; room 8; leb; ret | 0", 0, v(st(2), u(7), u(8)), "000000000000 07 00 08", 5)
	goesWell(t, "fields 1; room 1; leb; ret; t: fields 3; leb; append 0; enter 6 0; ret | 0 t", 1, v(st(3), u(1), st(1), u(2), st(1), u(3)), "01 00 02 00000000 03", 13)
	list := "leb; ret; upto 9; room -; jump y; x: append 0; y: again x; room -; ret; t: fields 2; leb; append 1; ret | 0 2 t"
	goesWell(t, strings.Replace(list, "room -; ret", "ret", 1), 1, v(s(0)), "", 5)
	goesWell(t, strings.Replace(list, "room -; ret", "ret", 1), 1, v(s(2), u(1), u(2)), "0000000000000000 01 02", 13)
	goesWell(t, strings.Replace(list, "room -; ret", "ret", 1), 2, v(st(2), u(300), s(2), u(1), u(2)), "ac02 0000000000000000 01 02", 17)
	// Behind the kids as well: it asks how many there are, not how many are left.
	goesWell(t, "leb; ret; upto 9; jump y; z: room -; append 0; y: again z; ret | 0 2", 1, v(s(3), u(1), u(2), u(3)), "000000000000000000000000 01 02 03", 19)
	goesWell(t, "upto 9; room 3; jump y; x: number - 1; y: again x; ret | 0", 0, v(s(2), u(1), u(2)), "01 02 00", 9)
	goesWell(t, "upto 9; room 3; jump y; x: number - 1; y: again x; ret | 0", 0, v(s(4), u(1), u(2), u(3), u(4)), "01 02 03 04", 13)
}

// P24.2: slot: the output's length less Base, ahead of the slot itself; at a place, by turns; its lowest 32 bits, if the frame begins behind the output.
func TestSlots(t *testing.T) {
	goesWell(t, "leb; ret; fields 1; slot 0; append 0; ret | 0 2", 1, v(st(1), u(5)), "00000000 05", 6)
	goesWell(t, "leb; ret; fields 1; room 4; slot 0; append 0; ret | 0 2", 1, v(st(1), u(5)), "04000000 05", 7)
	goesWell(t, "leb; ret; fields 1; room 9; slot 3; append 0; ret | 0 2", 1, v(st(1), u(5)), "000000 09000000 0000 05", 7)
	goesWell(t, "leb; ret; fields 1; room 300; slot 2; append 0; ret | 0 2", 1, v(st(1), u(5)), "0000 2c010000"+strings.Repeat("00", 294)+"05", 7)
	goesWell(t, "leb; ret; fields 2; room 8; slot 0; append 0; slot 4; append 0; ret; t: fields 2; leb; append 1; ret | 0 2 t", 2, v(st(2), u(300), st(2), u(300), u(1)), "ac02 08000000 0a000000 ac02 01", 15)
	// A slot by turns, and none of them takes a turn.
	goesWell(t, "leb; ret; many 2; room -; x: slot -; slot -; append 0; again x; ret | 0 2", 1, v(s(2), u(300), u(1)), "08000000 0a000000 ac02 01", 15)
	// Behind others it is written over what is there.
	goesWell(t, "fields 2; number 0 8; slot 2; leb; ret | 0", 0, v(st(2), u(math.MaxUint64), u(1)), "ffff 08000000 ffff 01", 5)
	// Frames that begin behind the output.
	goesWell(t, "leb; ret; fields 1; slot 0; append 0; ret; t: fields 1; enter 1 1; ret | 0 2 t", 2, v(st(1), st(1), u(5)), "00 ffffffff 05", 9)
	goesWell(t, "leb; ret; fields 1; slot 1; append 0; ret; t: fields 2; leb; enter 258 1; ret | 0 2 t", 2, v(st(2), u(7), st(1), u(5)), "07"+strings.Repeat("00", 258)+"fffeffff"+"05", 10)
}

// P24.2: where what is called begins, and what it leaves of the frame that called it.
func TestCalls(t *testing.T) {
	leb := "leb; ret; number 0 2; ret; "
	goesWell(t, leb+"t: fields 3; enter 4 1; enter 0 1; enter 2 1; ret | 0 2 t", 2, v(st(3), u(1), u(2), u(3)), "0200 0300 0100", 11)
	goesWell(t, leb+"t: fields 3; append 1; append 1; append 0; ret | 0 2 t", 2, v(st(3), u(1), u(2), u(3)), "0100 0200 03", 11)
	goesWell(t, leb+"t: many 3; x: each 2 1; again x; ret | 0 2 t", 2, v(s(3), u(1), u(2), u(3)), "0100 0200 0300", 14)
	goesWell(t, leb+"t: many 3; x: each 1 1; again x; ret | 0 2 t", 2, v(s(3), u(0x0201), u(0x0403), u(0x0605)), "01 03 05 06", 14)
	goesWell(t, leb+"t: many 3; x: each 5 1; again x; ret | 0 2 t", 2, v(s(3), u(1), u(2), u(3)), "0100000000 0200000000 0300", 14)
	// Each frame has its own Next: of the one below the turn is what it was.
	goesWell(t, "many 2; x: number - 1; again x; ret; t: many 2; y: each 2 0; again y; ret; w: many 2; z: each 4 1; again z; ret | 0 t w", 2, v(s(2), s(2), s(2), u(1), u(2), s(2), u(3), u(4), s(2), s(2), u(5), u(6), s(2), u(7), u(8)), "01 02 03 04 05 06 07 08", 42)
	// Append grows Next too: a slot or a number behind it is the next one's.
	goesWell(t, leb+"t: many 3; append 0; again x; jump z; x: number - 1; again x; z: ret | 0 2 t", 2, v(s(3), u(300), u(7), u(8)), "ac 07 08", 10)
	goesWell(t, leb+"t: many 3; x: each 3 1; again y; jump z; y: append 0; again x; z: ret | 0 2 t", 2, v(s(3), u(1), u(300), u(3)), "0100 ac02 00 00 0300", 15)
	// A routine may begin with a call.
	goesWell(t, leb+"t: enter 2 1; ret; w: append 2; ret; o: maybe q; append 3; q: ret | 0 2 t w o", 4, v(o(1), u(258)), "01 0000 0201", 9)
	// What is called runs in its own frame, and the base is the caller's again behind it.
	goesWell(t, leb+"t: fields 2; append 1; number 2 1; ret; w: fields 3; leb; enter 1 2; number 4 1; ret | 0 2 t w", 3, v(st(3), u(9), st(2), u(258), u(7), u(8)), "0902 01 07 08", 11)
}

// P24.2: again and jump, forth and back; instructions that are never come to may be any.
func TestTurns(t *testing.T) {
	goesWell(t, "jump z; x: number - 1; again x; ret; z: upto 5; jump y; w: number - 1; y: again w; ret | 0", 0, v(s(3), u(1), u(2), u(3)), "01 02 03", 11)
	goesWell(t, "jump z; y: number 0 1; ret; z: jump y | 0", 0, v(u(7)), "07", 4)
	goesWell(t, "number 0 1; jump z; arm 3 0; choice 1; arm 9 0; z: ret | 0", 0, v(u(7)), "07", 3)
	goesWell(t, "many 3; x: number - 1; again y; ret; y: jump x | 0", 0, v(s(3), u(1), u(2), u(3)), "01 02 03", 10)
	goesWell(t, "many 5; x: number - 1; again y; ret; y: number - 2; again x; ret | 0", 0, v(s(5), u(1), u(2), u(3), u(4), u(5)), "01 00 03 00 05 00 04 00", 12)
}

// P24.2: of two faults the one whose node is taken first is the answer, wherever their bytes stand.
func TestFirstOfTwo(t *testing.T) {
	code := "fields 4; number 3 1; flag 2; leb; number 0 1; ret | 0"
	goesWell(t, code, 0, v(st(4), u(1), b(1), u(2), u(3)), "03 00 01 01 02", 6)
	for k, want := range []api.Fault{fault(api.ErrValue, 1), fault(api.ErrKind, 2), fault(api.ErrKind, 3), fault(api.ErrValue, 4)} {
		good, bad := v(st(4), u(1), b(1), u(2), u(3)), v(st(4), u(256), u(2), b(1), u(300))
		copy(bad[1:], good[1:k+1])
		isAmiss(t, code, 0, bad, want.Err, want.At)
		good[k+1] = bad[k+1]
		isAmiss(t, code, 0, good, want.Err, want.At)
	}
	isAmiss(t, "fields 3; numbers 0 3 1; ret | 0", 0, v(st(3), u(1), u(256), b(1)), api.ErrValue, 2)
	isAmiss(t, "fields 3; numbers 0 3 1; ret | 0", 0, v(st(3), u(1), b(1), u(256)), api.ErrKind, 2)
}
