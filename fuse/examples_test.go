package fuse_test

import "testing"

// exampleRows: code, and what Fuse answers of it; the same, if that is empty. Split of the answer is the code of before, and of what uints it had already, none.
func exampleRows(t *testing.T, encodes bool, l [][2]string) {
	t.Helper()
	for _, r := range l {
		if r[1] == "" {
			r[1] = r[0]
		}
		before, after := written(encodes, r[0]+" | 0"), written(encodes, r[1]+" | 0")
		fuseIs(t, before, after)
		single, f := splitOf(before)
		if f != ok {
			t.Fatalf("the test's program is too long: %s", brief(before))
		}
		splitIs(t, after, single)
		modelAll(t, before)
		modelAll(t, after)
		follows(t, before)
	}
}

func TestExamplesOfDecoder(t *testing.T) {
	exampleRows(t, false, [][2]string{
		{"struct; uint 0 1; uint 1 1; uint 2 1; uint 3 2; ret", "struct; uints 0 3 1; uint 3 2; ret"},
		{"struct; uint 1 4; uint 0 4; ret", ""},
		{"struct; uints 0 2 1; uint 2 1; ret", "struct; uints 0 3 1; ret"},
		{"seq; uint -1 1; less 3 1; ret", ""},
		{"struct; jump 2; uint 0 1; uint 1 1; ret", "struct; jump 2; uints 0 2 1; ret"},
		{"struct; jump 3; uint 1 1; uint 0 1; uint 1 1; ret", "struct; jump 3; uint 1 1; uints 0 2 1; ret"},
	})
	faultIs(t, written(false, "ret | 0"), bad(0))
}

func TestExamplesOfEncoder(t *testing.T) {
	exampleRows(t, true, [][2]string{
		{"fields 3; number 0 2; number 2 2; number 4 2; ret", "fields 3; numbers 0 3 2; ret"},
		{"fields 2; number 0 2; number 3 2; ret", ""},
	})
}

// Split of each answer, where nothing stood there as many, is the code of before.
func TestExamplesOfSplit(t *testing.T) {
	for after, before := range map[string]string{
		"struct; uints 0 3 1; uint 3 2; ret":         "struct; uint 0 1; uint 1 1; uint 2 1; uint 3 2; ret",
		"struct; uint 1 4; uint 0 4; ret":            "struct; uint 1 4; uint 0 4; ret",
		"struct; uints 0 3 1; ret":                   "struct; uint 0 1; uint 1 1; uint 2 1; ret",
		"seq; uint -1 1; less 3 1; ret":              "seq; uint -1 1; less 3 1; ret",
		"struct; jump 2; uints 0 2 1; ret":           "struct; jump 2; uint 0 1; uint 1 1; ret",
		"struct; jump 3; uint 1 1; uints 0 2 1; ret": "struct; jump 3; uint 1 1; uint 0 1; uint 1 1; ret",
	} {
		splitIs(t, written(false, after+" | 0"), written(false, before+" | 0"))
	}
	splitIs(t, written(true, "fields 3; numbers 0 3 2; ret | 0"), written(true, "fields 3; number 0 2; number 2 2; number 4 2; ret | 0"))
	splitIs(t, written(true, "fields 2; number 0 2; number 3 2; ret | 0"), written(true, "fields 2; number 0 2; number 3 2; ret | 0"))
}
