package code_test

import (
	"bytes"
	"encoding/hex"
	"fmt"
	"slices"
	"strings"
	"testing"

	"mortise/api"
	"mortise/code"
)

// unhex: bytes as the chapter writes them.
func unhex(s string) []byte {
	b, err := hex.DecodeString(strings.ReplaceAll(s, " ", ""))
	if err != nil {
		panic(err)
	}
	return b
}

// writtenIs holds a program against its bytes and its text, there and back.
func writtenIs(t *testing.T, p api.Program, want []byte, text string) {
	t.Helper()
	if b, f := code.Encode(p); f != (api.Fault{}) || !bytes.Equal(b, want) {
		t.Errorf("P14.3: Encode(%s) = % x, %v, want % x", brief(p), b, f, want)
	}
	if s, f := code.Print(p); f != (api.Fault{}) || s != text {
		t.Errorf("P14.5: Print(%s) = %q, %v, want %q", brief(p), s, f, text)
	}
	decodeIs(t, want, p, api.Fault{})
}

// P14.3, P14.5: the chapter's first table, and programs of next to nothing.
func TestWrittenExamples(t *testing.T) {
	writtenIs(t, small(), unhex("6d 00 01 00 02 01 00 03 14"), "decoder\ntype 0 0\n0 uint - 2\n1 ret\n")
	writtenIs(t, api.Program{}, unhex("6d 00 00 00"), "decoder\n")
	writtenIs(t, api.Program{Encodes: true}, unhex("6d 01 00 00"), "encoder\n")
	writtenIs(t, api.Program{Encodes: true, Code: []api.Instr{{Op: 20}}}, unhex("6d 01 00 01 14"), "encoder\n0 ret\n")
	writtenIs(t, api.Program{Entry: []int{1, 0, 1}, Code: []api.Instr{{Op: 19, B: 1}, {Op: 20}}}, unhex("6d 00 03 01 00 01 02 13 02 14"), "decoder\ntype 0 1\ntype 1 0\ntype 2 1\n0 jump 1\n1 ret\n")
}

// line: an instruction, its bytes and its text behind its number.
type line struct {
	i     api.Instr
	bytes string
	text  string
}

// decoderLines: every instruction, with -1 where it may be, and with great numbers; of programs of 300 instructions and types.
func decoderLines() []line {
	return []line{
		{api.Instr{Op: 1, A: -1, B: 1}, "01 00 02", "uint - 1"},
		{api.Instr{Op: 1, A: 63, B: 8}, "01 40 09", "uint 63 8"},
		{api.Instr{Op: 2, A: 0, B: 64, C: 8}, "02 01 41 09", "uints 0 64 8"},
		{api.Instr{Op: 2, A: 62, B: 2, C: 4}, "02 3f 03 05", "uints 62 2 4"},
		{api.Instr{Op: 3, A: -1}, "03 00", "bool -"},
		{api.Instr{Op: 3, A: 5}, "03 06", "bool 5"},
		{api.Instr{Op: 4, A: -1}, "04 00", "varint -"},
		{api.Instr{Op: 4, A: 0}, "04 01", "varint 0"},
		{api.Instr{Op: 5}, "05", "seq"},
		{api.Instr{Op: 6}, "06", "struct"},
		{api.Instr{Op: 7, B: 0}, "07 01", "option 0"},
		{api.Instr{Op: 7, B: 299}, "07 ac 02", "option 299"},
		{api.Instr{Op: 9, A: 0, B: 126}, "09 01 7f", "arm 0 126"},
		{api.Instr{Op: 9, A: 255, B: 127}, "09 80 02 80 01", "arm 255 127"},
		{api.Instr{Op: 10, A: 4}, "0a 05", "offset 4"},
		{api.Instr{Op: 10, A: 1 << 24}, "0a 81 80 80 08", "offset 16777216"},
		{api.Instr{Op: 11, A: 1, B: 2}, "0b 02 03", "first 1 2"},
		{api.Instr{Op: 11, A: 1 << 20, B: 299}, "0b 81 80 40 ac 02", "first 1048576 299"},
		{api.Instr{Op: 12, B: 128}, "0c 81 01", "slots 128"},
		{api.Instr{Op: 13, A: 9, B: 0}, "0d 0a 01", "item 9 0"},
		{api.Instr{Op: 13, A: 1 << 20, B: 1}, "0d 81 80 40 02", "item 1048576 1"},
		{api.Instr{Op: 14, A: 3, B: 1}, "0e 04 02", "less 3 1"},
		{api.Instr{Op: 14, A: 1<<20 - 1, B: 299}, "0e 80 80 40 ac 02", "less 1048575 299"},
		{api.Instr{Op: 15, B: 7}, "0f 08", "parts 7"},
		{api.Instr{Op: 16, A: -1, C: 0}, "10 00 01", "call - 0"},
		{api.Instr{Op: 16, A: 63, C: 299}, "10 40 ac 02", "call 63 299"},
		{api.Instr{Op: 17, A: -1, B: -1, C: 4}, "11 00 00 05", "part - - 4"},
		{api.Instr{Op: 17, A: 63, B: 0, C: 299}, "11 40 01 ac 02", "part 63 0 299"},
		{api.Instr{Op: 18, A: -1}, "12 00", "tail -"},
		{api.Instr{Op: 18, A: 63}, "12 40", "tail 63"},
		{api.Instr{Op: 19, B: 299}, "13 ac 02", "jump 299"},
		{api.Instr{Op: 20}, "14", "ret"},
	}
}

// encoderLines: likewise.
func encoderLines() []line {
	return []line{
		{api.Instr{Op: 33, A: -1, B: 2}, "21 00 03", "number - 2"},
		{api.Instr{Op: 33, A: 1<<24 - 1, B: 8}, "21 80 80 80 08 09", "number 16777215 8"},
		{api.Instr{Op: 34, A: 0, B: 2, C: 1}, "22 01 03 02", "numbers 0 2 1"},
		{api.Instr{Op: 34, A: 1<<24 - 512, B: 64, C: 8}, "22 81 fc ff 07 41 09", "numbers 16776704 64 8"},
		{api.Instr{Op: 35, A: -1}, "23 00", "flag -"},
		{api.Instr{Op: 35, A: 127}, "23 80 01", "flag 127"},
		{api.Instr{Op: 36}, "24", "leb"},
		{api.Instr{Op: 37, A: 1}, "25 02", "many 1"},
		{api.Instr{Op: 37, A: 1 << 20}, "25 81 80 40", "many 1048576"},
		{api.Instr{Op: 38, A: 9}, "26 0a", "upto 9"},
		{api.Instr{Op: 38, A: 1 << 20}, "26 81 80 40", "upto 1048576"},
		{api.Instr{Op: 39, A: 1}, "27 02", "fields 1"},
		{api.Instr{Op: 39, A: 64}, "27 41", "fields 64"},
		{api.Instr{Op: 40, B: 0}, "28 01", "maybe 0"},
		{api.Instr{Op: 40, B: 299}, "28 ac 02", "maybe 299"},
		{api.Instr{Op: 9, A: 127, B: 299}, "09 80 01 ac 02", "arm 127 299"},
		{api.Instr{Op: 42, A: -1}, "2a 00", "room -"},
		{api.Instr{Op: 42, A: 1 << 24}, "2a 81 80 80 08", "room 16777216"},
		{api.Instr{Op: 43, A: -1}, "2b 00", "slot -"},
		{api.Instr{Op: 43, A: 0}, "2b 01", "slot 0"},
		{api.Instr{Op: 44, A: 0, C: 299}, "2c 01 ac 02", "enter 0 299"},
		{api.Instr{Op: 44, A: 1<<24 - 1, C: 0}, "2c 80 80 80 08 01", "enter 16777215 0"},
		{api.Instr{Op: 45, A: 5, C: 3}, "2d 06 04", "each 5 3"},
		{api.Instr{Op: 45, A: 1 << 24, C: 299}, "2d 81 80 80 08 ac 02", "each 16777216 299"},
		{api.Instr{Op: 46, C: 1}, "2e 02", "append 1"},
		{api.Instr{Op: 47, B: 298}, "2f ab 02", "again 298"},
		{api.Instr{Op: 19, B: 0}, "13 01", "jump 0"},
		{api.Instr{Op: 20}, "14", "ret"},
	}
}

// linesAre: a program of these, and rets up to 300 instructions.
func linesAre(t *testing.T, encodes bool, lines ...line) {
	t.Helper()
	b, text := unhex("6d 00"), "decoder\n"
	if encodes {
		b, text = unhex("6d 01"), "encoder\n"
	}
	p := api.Program{Encodes: encodes, Entry: make([]int, 300)}
	b = append(b, 0xac, 2)
	for k := range p.Entry {
		p.Entry[k] = 299 - k
		e := 299 - k
		if e < 128 {
			b = append(b, byte(e))
		} else {
			b = append(b, byte(e%128+128), byte(e/128))
		}
		text += fmt.Sprintf("type %d %d\n", k, e)
	}
	b = append(b, 0xac, 2)
	for k := range 300 {
		l := line{api.Instr{Op: 20}, "14", "ret"}
		if k < len(lines) {
			l = lines[k]
		}
		p.Code = append(p.Code, l.i)
		b = append(b, unhex(l.bytes)...)
		text += fmt.Sprintf("%d %s\n", k, l.text)
	}
	writtenIs(t, p, b, text)
}

// P14.3, P14.5: every instruction's bytes and text, alone and all together.
func TestWrittenLines(t *testing.T) {
	for at, lines := range [][]line{decoderLines(), encoderLines()} {
		for _, l := range lines {
			linesAre(t, at == 1, l)
		}
		linesAre(t, at == 1, lines...)
		arms := []line{{api.Instr{Op: []int{8, 41}[at], A: 2}, []string{"08 03", "29 03"}[at], []string{"union 2", "choice 2"}[at]}, {api.Instr{Op: 9, A: 200, B: 0}, "09 c9 01 01", "arm 200 0"}, {api.Instr{Op: 9, A: 0, B: 3}, "09 01 04", "arm 0 3"}}
		linesAre(t, at == 1, arms...)
		linesAre(t, at == 1, slices.Concat(lines, arms, arms, lines)...)
		have := map[int]int{arms[0].i.Op: 1}
		for _, l := range lines {
			have[l.i.Op]++
		}
		if len(have) != len(machineRows(at == 1)) {
			t.Errorf("%d instructions are asked", len(have))
		}
	}
}

// P14.3, P14.5: the most arms.
func TestWrittenMostArms(t *testing.T) {
	for at, name := range []string{"union 64", "choice 64"} {
		lines := []line{{api.Instr{Op: []int{8, 41}[at], A: 64}, []string{"08 41", "29 41"}[at], name}}
		for k := range 64 {
			lines = append(lines, line{api.Instr{Op: 9, A: k + 20, B: k}, fmt.Sprintf("09 %02x %02x", k+21, k+1), fmt.Sprintf("arm %d %d", k+20, k)})
		}
		linesAre(t, at == 1, lines...)
	}
}

// made: of the chapter's last table: a routine's decoder and encoder, in programs of types 0 (T, or b's) and 1 (this one), T's routine being a ret.
type made struct {
	what             string
	decoder, encoder []api.Instr
	decoderBytes     string
	encoderBytes     string
	decoderText      string
	encoderText      string
}

func madeRows() []made {
	return []made{
		{"u16",
			[]api.Instr{{Op: 1, A: -1, B: 2}, {Op: 20}}, []api.Instr{{Op: 33, A: 0, B: 2}, {Op: 20}},
			"01 00 03 14", "21 01 03 14",
			"1 uint - 2/2 ret/", "1 number 0 2/2 ret/"},
		{"vector<u8, 3>",
			[]api.Instr{{Op: 5}, {Op: 1, A: -1, B: 1}, {Op: 14, A: 3, B: 2}, {Op: 20}}, []api.Instr{{Op: 37, A: 3}, {Op: 33, A: -1, B: 1}, {Op: 47, B: 2}, {Op: 20}},
			"05 01 00 02 0e 04 03 14", "25 04 21 00 02 2f 03 14",
			"1 seq/2 uint - 1/3 less 3 2/4 ret/", "1 many 3/2 number - 1/3 again 2/4 ret/"},
		{"list<T, 9>, T fixed",
			[]api.Instr{{Op: 5}, {Op: 13, A: 9, B: 5}, {Op: 16, A: -1}, {Op: 19, B: 2}, {Op: 20}}, []api.Instr{{Op: 38, A: 9}, {Op: 19, B: 4}, {Op: 45, A: 5}, {Op: 47, B: 3}, {Op: 20}},
			"05 0d 0a 06 10 00 01 13 03 14", "26 0a 13 05 2d 06 01 2f 04 14",
			"1 seq/2 item 9 5/3 call - 0/4 jump 2/5 ret/", "1 upto 9/2 jump 4/3 each 5 0/4 again 3/5 ret/"},
		{"list<T, 9>, T variable",
			[]api.Instr{{Op: 5}, {Op: 11, A: 9, B: 10}, {Op: 19, B: 5}, {Op: 10, A: 4}, {Op: 12, B: 4}, {Op: 19, B: 9}, {Op: 17, A: -1, B: -1}, {Op: 18, A: -1}, {Op: 15, B: 7}, {Op: 20}}, []api.Instr{{Op: 38, A: 9}, {Op: 42, A: -1}, {Op: 19, B: 6}, {Op: 43, A: -1}, {Op: 46}, {Op: 47, B: 4}, {Op: 20}},
			"05 0b 0a 0b 13 06 0a 05 0c 05 13 0a 11 00 00 01 12 00 0f 08 14", "26 0a 2a 00 13 07 2b 00 2e 01 2f 05 14",
			"1 seq/2 first 9 10/3 jump 5/4 offset 4/5 slots 4/6 jump 9/7 part - - 0/8 tail -/9 parts 7/10 ret/", "1 upto 9/2 room -/3 jump 6/4 slot -/5 append 0/6 again 4/7 ret/"},
		{"struct {a: u8, b: list .., c: u8}",
			[]api.Instr{{Op: 6}, {Op: 1, A: 0, B: 1}, {Op: 10, A: 6}, {Op: 1, A: 2, B: 1}, {Op: 17, A: 1}, {Op: 18}, {Op: 20}}, []api.Instr{{Op: 39, A: 3}, {Op: 42, A: 6}, {Op: 33, B: 1}, {Op: 43, A: 1}, {Op: 46}, {Op: 33, A: 5, B: 1}, {Op: 20}},
			"06 01 01 02 0a 07 01 03 02 11 02 01 01 12 01 14", "27 04 2a 07 21 01 02 2b 02 2e 01 21 06 02 14",
			"1 struct/2 uint 0 1/3 offset 6/4 uint 2 1/5 part 1 0 0/6 tail 0/7 ret/", "1 fields 3/2 room 6/3 number 0 1/4 slot 1/5 append 0/6 number 5 1/7 ret/"},
		{"option<T>",
			[]api.Instr{{Op: 7, B: 3}, {Op: 16}, {Op: 20}}, []api.Instr{{Op: 40, B: 3}, {Op: 46}, {Op: 20}},
			"07 04 10 01 01 14", "28 04 2e 01 14",
			"1 option 3/2 call 0 0/3 ret/", "1 maybe 3/2 append 0/3 ret/"},
	}
}

// P14.2, P14.3, P14.5: the chapter's last table.
func TestWrittenMade(t *testing.T) {
	for _, m := range madeRows() {
		for _, encodes := range []bool{false, true} {
			l, b, text, head := m.decoder, m.decoderBytes, m.decoderText, "decoder"
			if encodes {
				l, b, text, head = m.encoder, m.encoderBytes, m.encoderText, "encoder"
			}
			p := api.Program{Encodes: encodes, Entry: []int{0, 1}, Code: append([]api.Instr{{Op: 20}}, l...)}
			want := append(bytesOf(api.Program{Encodes: encodes})[:2], 2, 0, 1, byte(len(p.Code)), 0x14)
			faultIs(t, p, api.Fault{})
			writtenIs(t, p, append(want, unhex(b)...), head+"\ntype 0 0\ntype 1 1\n0 ret\n"+strings.ReplaceAll(text, "/", "\n"))
		}
	}
}

// P14.3, P14.5: programs that look like chance.
func TestWrittenChance(t *testing.T) {
	d := dice(2)
	for n := range 600 {
		programAll(t, chance(&d, n%2 == 0, 1+d.below(n+1), d.below(n+1)))
	}
	programAll(t, everything(false))
	programAll(t, everything(true))
}

// P14.3, P14.4, P14.5: the longest programs.
func TestWrittenLongest(t *testing.T) {
	d := dice(3)
	for _, encodes := range []bool{false, true} {
		programAll(t, chance(&d, encodes, api.MaxCode, api.MaxCode))
	}
}
