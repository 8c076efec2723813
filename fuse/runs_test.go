package fuse_test

import (
	"fmt"
	"strconv"
	"strings"
	"testing"

	"mortise/api"
)

// ones: n fields from one on, each by its own instruction.
func ones(encodes bool, from, n, width int) string {
	var out []string
	for k := range n {
		if encodes {
			out = append(out, fmt.Sprintf("number %d %d", from+k*width, width))
		} else {
			out = append(out, fmt.Sprintf("uint %d %d", from+k, width))
		}
	}
	return strings.Join(out, "; ")
}

// several: n fields from one on, by one instruction.
func several(encodes bool, from, n, width int) string {
	if n == 1 {
		return ones(encodes, from, 1, width)
	}
	name := "uints"
	if encodes {
		name = "numbers"
	}
	return fmt.Sprintf("%s %d %d %d", name, from, n, width)
}

// opening: what a routine of so many fields begins with.
func opening(encodes bool, n int) string {
	if encodes {
		return "fields " + strconv.Itoa(n) + "; "
	}
	return "struct; "
}

// head: a routine ahead of instructions that no entry leads to.
func head(encodes bool) string {
	if encodes {
		return "leb; ret; "
	}
	return "bool -1; ret; "
}

var widths = []int{1, 2, 4, 8}

// P19.2, P19.3: runs of one field, two, few and as many as there may be, of every width, run and never come to.
func TestLengths(t *testing.T) {
	for _, encodes := range []bool{false, true} {
		for _, n := range []int{1, 2, 3, 4, 7, 63, 64} {
			for _, w := range widths {
				for _, text := range []string{opening(encodes, n) + "%s; ret | 0", head(encodes) + "%s; ret | 0", head(encodes) + "%s | 0", "%s; a: " + head(encodes) + "| a", "%s"} {
					single, joined := fmt.Sprintf(text, ones(encodes, 0, n, w)), fmt.Sprintf(text, several(encodes, 0, n, w))
					rows(t, encodes, [][3]string{{single, joined, single}, {joined, joined, single}})
				}
			}
		}
	}
}

// P19.2: more fields than one instruction may have: the first MaxFields are one, and the next run begins behind them.
func TestMoreThanMaxFields(t *testing.T) {
	for _, w := range widths {
		for _, n := range []int{65, 66, 127, 128, 129, 200} {
			var joined []string
			for k := 0; k < n; k += 64 {
				joined = append(joined, several(true, k*w, min(64, n-k), w))
			}
			single := head(true) + ones(true, 0, n, w) + " | 0"
			rows(t, true, [][3]string{{single, head(true) + strings.Join(joined, "; ") + " | 0", single}})
		}
	}
	row := func(before, after string, from, n, w int) {
		t.Helper()
		rows(t, true, [][3]string{{head(true) + before + " | 0", head(true) + after + " | 0", head(true) + ones(true, from, n, w) + " | 0"}})
	}
	row("numbers 0 40 1; numbers 40 24 1", "numbers 0 64 1", 0, 64, 1)
	row("numbers 0 40 1; numbers 40 25 1", "numbers 0 40 1; numbers 40 25 1", 0, 65, 1)
	row("numbers 0 40 1; numbers 40 40 1; number 80 1; number 81 1", "numbers 0 40 1; numbers 40 42 1", 0, 82, 1)
	row("numbers 0 63 2; number 126 2; number 128 2", "numbers 0 64 2; number 128 2", 0, 65, 2)
	row("numbers 0 64 8; number 512 8; number 520 8", "numbers 0 64 8; numbers 512 2 8", 0, 66, 8)
	row("numbers 7 64 8; numbers 519 64 8", "numbers 7 64 8; numbers 519 64 8", 7, 128, 8)
	row("number 3 4; numbers 7 63 4", "numbers 3 64 4", 3, 64, 4)
	row("number 3 4; numbers 7 64 4", "number 3 4; numbers 7 64 4", 3, 65, 4)
	row("numbers 3 63 4; numbers 255 2 4; numbers 263 62 4", "numbers 3 63 4; numbers 255 64 4", 3, 127, 4)
	// Greedy: the second run isn't looked for another cut that would make fewer.
	row("numbers 0 33 1; numbers 33 31 1; numbers 64 33 1; numbers 97 32 1", "numbers 0 64 1; numbers 64 33 1; numbers 97 32 1", 0, 129, 1)
	row("numbers 0 33 1; numbers 33 32 1; numbers 65 32 1; numbers 97 32 1", "numbers 0 33 1; numbers 33 64 1; numbers 97 32 1", 0, 129, 1)
}

// P19.2, P19.3: of a decoder no kid is behind MaxFields - 1: runs that end there, from every kid on.
func TestLastKids(t *testing.T) {
	for from := range 64 {
		single, joined := ones(false, from, 64-from, 4), several(false, from, 64-from, 4)
		rows(t, false, [][3]string{
			{head(false) + single + " | 0", head(false) + joined + " | 0", head(false) + single + " | 0"},
			{head(false) + single + "; uint 0 4 | 0", head(false) + joined + "; uint 0 4 | 0", head(false) + single + "; uint 0 4 | 0"},
		})
	}
	for _, cut := range []int{1, 2, 31, 62, 63} {
		single := "struct; " + ones(false, 0, 64, 8) + "; ret | 0"
		rows(t, false, [][3]string{{"struct; " + several(false, 0, cut, 8) + "; " + several(false, cut, 64-cut, 8) + "; ret | 0", "struct; uints 0 64 8; ret | 0", single}})
	}
}

// P19.2: an encoder's fields of which the last ends at MaxSize, ahead of it and beyond it, run and never come to.
func TestEndOfPlaces(t *testing.T) {
	for _, w := range widths {
		for _, n := range []int{2, 3, 64} {
			for beyond := -2; beyond < w; beyond++ {
				from := api.MaxSize - n*w + beyond
				single := ones(true, from, n, w)
				joined := several(true, from, n, w)
				if beyond > 0 {
					joined = several(true, from, n-1, w) + "; " + ones(true, from+(n-1)*w, 1, w)
				}
				for _, text := range []string{opening(true, n) + "%s; ret | 0", head(true) + "%s | 0"} {
					single, joined := fmt.Sprintf(text, single), fmt.Sprintf(text, joined)
					rows(t, true, [][3]string{{single, joined, single}})
				}
			}
		}
	}
	// A single one may reach beyond MaxSize by itself.
	last := fmt.Sprintf("fields 1; number %d 8; ret | 0", api.MaxSize-1)
	rows(t, true, [][3]string{{last, last, last}})
	// Several at once, ahead of one that ends beyond.
	rows(t, true, [][3]string{{
		"fields 4; numbers 16777190 3 8; number 16777214 8; ret | 0",
		"fields 4; numbers 16777190 3 8; number 16777214 8; ret | 0",
		"fields 4; number 16777190 8; number 16777198 8; number 16777206 8; number 16777214 8; ret | 0",
	}})
}

// P19.2: neighbours of other widths, in every pair.
func TestOtherWidths(t *testing.T) {
	for _, encodes := range []bool{false, true} {
		for _, v := range widths {
			for _, w := range widths {
				second := 2
				if encodes {
					second = 2 * v
				}
				single := opening(encodes, 4) + ones(encodes, 0, 2, v) + "; " + ones(encodes, second, 2, w) + "; ret | 0"
				joined := opening(encodes, 4) + several(encodes, 0, 2, v) + "; " + several(encodes, second, 2, w) + "; ret | 0"
				want := joined
				if v == w {
					want = opening(encodes, 4) + several(encodes, 0, 4, v) + "; ret | 0"
				}
				rows(t, encodes, [][3]string{{single, want, single}, {joined, want, single}})
			}
		}
	}
}

// same: programs of which neither call makes another one.
func same(t *testing.T, encodes bool, l ...string) {
	t.Helper()
	for _, text := range l {
		rows(t, encodes, [][3]string{{text, text, text}})
	}
}

// P19.2: fields that don't go on: in another order, with a gap, the same one twice, with something between.
func TestDoesNotGoOn(t *testing.T) {
	same(t, false,
		"struct; uint 1 4; uint 0 4; ret | 0",
		"struct; uint 2 1; uint 1 1; uint 0 1; ret | 0",
		"struct; uint 0 1; uint 2 1; uint 1 1; ret | 0",
		"struct; uint 0 1; bool 1; uint 2 1; ret | 0",
		"struct; bool 0; uint 1 1; bool 2; ret | 0",
		"struct; uint 0 1; varint 1; uint 2 1; varint 3; ret | 0",
		"bool -1; ret; struct; uint 0 8; call 1 0; uint 2 8; ret | 0 2",
		"struct; uint 0 1; jump 3; uint 1 1; ret | 0",
		"bool -1; ret; uint 0 1; uint 0 1; uint 0 1 | 0",
		"bool -1; ret; uint 3 1; uint 5 1; uint 63 1 | 0",
		"bool -1; ret; uint 63 1; uint 0 1 | 0",
		"bool -1; ret; uint 1 1; uint 0 1; ret; uint 2 2 | 0",
		// What is a place's step is no kid's.
		"bool -1; ret; uint 0 2; uint 2 2; uint 4 2; uint 0 4; uint 4 4; uint 0 8; uint 8 8 | 0",
	)
	same(t, true,
		"fields 2; number 2 2; number 0 2; ret | 0",
		"fields 3; number 0 1; number 2 1; number 1 1; ret | 0",
		"fields 2; number 0 2; number 0 2; ret | 0",
		"fields 2; number 0 2; number 1 2; ret | 0",
		"fields 2; number 0 2; number 3 2; ret | 0",
		"fields 2; number 0 8; number 7 8; ret | 0",
		"fields 2; number 0 8; number 9 8; ret | 0",
		"fields 3; number 0 4; flag 4; number 5 4; ret | 0",
		"fields 2; number 0 4; room 9; number 4 4; ret | 0",
		"fields 2; number 0 4; slot 9; number 4 4; ret | 0",
		"fields 2; number 0 4; jump 3; number 4 4; ret | 0",
		"leb; ret; fields 3; number 0 4; enter 4 0; number 4 4; ret | 0 2",
		"leb; ret; fields 3; number 0 4; append 0; number 4 4; ret | 0 2",
		// What is a kid's step is no place's.
		"fields 3; number 0 2; number 1 2; number 2 4; ret | 0",
	)
	// Of several at once: their last field is asked, not their first.
	rows(t, false, [][3]string{
		{"bool -1; ret; uints 0 3 1; uint 1 1 | 0", "bool -1; ret; uints 0 3 1; uint 1 1 | 0", "bool -1; ret; uint 0 1; uint 1 1; uint 2 1; uint 1 1 | 0"},
		{"bool -1; ret; uints 0 3 1; uint 2 1; uint 3 1 | 0", "bool -1; ret; uints 0 3 1; uints 2 2 1 | 0", "bool -1; ret; uint 0 1; uint 1 1; uint 2 1; uint 2 1; uint 3 1 | 0"},
		{"bool -1; ret; uint 2 1; uints 2 2 1; uints 5 2 1 | 0", "bool -1; ret; uint 2 1; uints 2 2 1; uints 5 2 1 | 0", "bool -1; ret; uint 2 1; uint 2 1; uint 3 1; uint 5 1; uint 6 1 | 0"},
	})
	rows(t, true, [][3]string{
		{"fields 5; numbers 0 3 2; number 4 2; number 6 2; ret | 0", "fields 5; numbers 0 3 2; numbers 4 2 2; ret | 0", "fields 5; number 0 2; number 2 2; number 4 2; number 4 2; number 6 2; ret | 0"},
		{"fields 4; numbers 0 3 2; number 3 2; ret | 0", "fields 4; numbers 0 3 2; number 3 2; ret | 0", "fields 4; number 0 2; number 2 2; number 4 2; number 3 2; ret | 0"},
		{"fields 4; numbers 0 3 2; number 7 2; ret | 0", "fields 4; numbers 0 3 2; number 7 2; ret | 0", "fields 4; number 0 2; number 2 2; number 4 2; number 7 2; ret | 0"},
	})
}

// P19.2: a uint with the kid -1 and a number with the place -1 are no number instructions: they stand alone, whatever is about them.
func TestByTurns(t *testing.T) {
	for _, w := range widths {
		w := strconv.Itoa(w)
		same(t, false,
			"uint -1 "+w+"; ret | 0",
			"seq; a: uint -1 "+w+"; less 3 a; ret | 0",
			"seq; uint -1 "+w+"; ret | 0",
			"bool -1; ret; uint -1 "+w+"; uint -1 "+w+"; uint 0 "+w+"; uint -1 "+w+" | 0",
			"bool -1; ret; uint 0 "+w+"; uint -1 "+w+"; uint 1 "+w+" | 0",
		)
		same(t, true,
			"many 3; a: number -1 "+w+"; again a; ret | 0",
			"leb; ret; number -1 "+w+"; number -1 "+w+"; number 0 "+w+"; number -1 "+w+" | 0",
			"leb; ret; number -1 "+w+"; number 0 "+w+" | 0",
		)
	}
	// As the width is one, a number with the place 0 lies behind one with -1.
	same(t, true, "leb; ret; number -1 1; number 0 1; number -1 1 | 0")
	rows(t, false, [][3]string{{"bool -1; ret; uint -1 1; uint 0 1; uint 1 1; uint -1 1 | 0", "bool -1; ret; uint -1 1; uints 0 2 1; uint -1 1 | 0", "bool -1; ret; uint -1 1; uint 0 1; uint 1 1; uint -1 1 | 0"}})
	rows(t, true, [][3]string{{"leb; ret; number -1 1; number 0 1; number 1 1; number -1 1 | 0", "leb; ret; number -1 1; numbers 0 2 1; number -1 1 | 0", "leb; ret; number -1 1; number 0 1; number 1 1; number -1 1 | 0"}})
}

// P19.2, P19.3: several that stand there already: alone, beside single ones, one behind the other.
func TestSeveralAlready(t *testing.T) {
	cuts := [][]int{{2}, {5}, {2, 1}, {1, 2}, {2, 2}, {3, 2, 4}, {1, 1, 2, 1, 3}, {2, 1, 1, 2}, {1, 62, 1}, {32, 32}, {2, 3, 5, 7, 11, 13}}
	for _, encodes := range []bool{false, true} {
		for _, w := range widths {
			for _, cut := range cuts {
				var parts []string
				n, from := 0, 0
				for _, many := range cut {
					parts = append(parts, several(encodes, from, many, w))
					n += many
					from = n
					if encodes {
						from = n * w
					}
				}
				for _, text := range []string{opening(encodes, n) + "%s; ret | 0", head(encodes) + "%s | 0"} {
					rows(t, encodes, [][3]string{{fmt.Sprintf(text, strings.Join(parts, "; ")), fmt.Sprintf(text, several(encodes, 0, n, w)), fmt.Sprintf(text, ones(encodes, 0, n, w))}})
				}
			}
		}
	}
}

// P19.2: several runs in one program, at its first and at its last instructions, in several routines.
func TestSeveralRuns(t *testing.T) {
	rows(t, false, [][3]string{
		{
			"uint 0 1; uint 1 1; a: struct; uint 0 2; uint 1 2; bool 2; uint 3 2; uint 4 2; uint 5 4; uint 6 4; ret; b: struct; uint 0 8; uint 1 8; ret; uint 7 1; uint 8 1 | a b",
			"uints 0 2 1; a: struct; uints 0 2 2; bool 2; uints 3 2 2; uints 5 2 4; ret; b: struct; uints 0 2 8; ret; uints 7 2 1 | a b",
			"uint 0 1; uint 1 1; a: struct; uint 0 2; uint 1 2; bool 2; uint 3 2; uint 4 2; uint 5 4; uint 6 4; ret; b: struct; uint 0 8; uint 1 8; ret; uint 7 1; uint 8 1 | a b",
		},
		{
			"bool -1; ret; a: struct; uint 0 1; uint 1 1; offset 9; uint 3 1; uint 4 1; part 2 0 0; tail 0; ret | 0 a",
			"bool -1; ret; a: struct; uints 0 2 1; offset 9; uints 3 2 1; part 2 0 0; tail 0; ret | 0 a",
			"bool -1; ret; a: struct; uint 0 1; uint 1 1; offset 9; uint 3 1; uint 4 1; part 2 0 0; tail 0; ret | 0 a",
		},
		{
			"struct; uint 2 1; uint 3 1; uint 0 1; uint 1 1; ret | 0",
			"struct; uints 2 2 1; uints 0 2 1; ret | 0",
			"struct; uint 2 1; uint 3 1; uint 0 1; uint 1 1; ret | 0",
		},
	})
	rows(t, true, [][3]string{
		{
			"number 0 1; number 1 1; a: fields 5; number 0 2; number 2 2; flag 4; number 5 2; number 7 2; ret; b: fields 2; number 9 8; number 17 8; ret; number 0 1; number 1 1 | a b",
			"numbers 0 2 1; a: fields 5; numbers 0 2 2; flag 4; numbers 5 2 2; ret; b: fields 2; numbers 9 2 8; ret; numbers 0 2 1 | a b",
			"number 0 1; number 1 1; a: fields 5; number 0 2; number 2 2; flag 4; number 5 2; number 7 2; ret; b: fields 2; number 9 8; number 17 8; ret; number 0 1; number 1 1 | a b",
		},
	})
}
