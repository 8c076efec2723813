package layout

import "mortise/api"

// greatestOffset: the last number that an offset's bytes hold.
const greatestOffset = 1<<(8*offsetBytes) - 1

// Offsets: of parts of these lengths behind a fixed part.
func Offsets(fixed int, lengths []int) ([]int, api.Errno) {
	if fixed < 0 || anyBelowZero(lengths) {
		return nil, api.ErrPlace
	}
	offsets := make([]int, 0, len(lengths))
	at := fixed
	for _, n := range lengths {
		if at > greatestOffset {
			return nil, api.ErrBig
		}
		offsets = append(offsets, at)
		// However long the part is, one above the greatest offset is too far: so the sum can't wrap.
		at += min(n, greatestOffset+1)
	}
	return offsets, api.OK
}

func anyBelowZero(list []int) bool {
	for _, n := range list {
		if n < 0 {
			return true
		}
	}
	return false
}

// Lengths: back, up to an end; else the offset at fault.
func Lengths(fixed int, offsets []int, end int) ([]int, int, api.Errno) {
	if fixed < 0 {
		return nil, 0, api.ErrPlace
	}
	if i := firstWrong(fixed, offsets, end); i >= 0 {
		return nil, i, api.ErrOffset
	}
	lengths := make([]int, 0, len(offsets))
	for i, o := range offsets {
		next := end
		if i+1 < len(offsets) {
			next = offsets[i+1]
		}
		// Both are 0 or more by now: their difference can't wrap.
		lengths = append(lengths, next-o)
	}
	return lengths, 0, api.OK
}

// firstWrong: the number of the first offset that can't be one, or -1.
func firstWrong(fixed int, offsets []int, end int) int {
	ahead := fixed
	for i, o := range offsets {
		if i == 0 && o != fixed || o < ahead || o > end {
			return i
		}
		ahead = o
	}
	return -1
}
