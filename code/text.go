package code

import (
	"strconv"

	"mortise/api"
)

// Print: its text, an instruction a line.
func Print(p api.Program) (string, api.Fault) {
	if f := Check(p); f.Err != api.OK {
		return "", f
	}
	var text []byte
	say := func(words string) { text = append(text, words...) }
	number := func(n int) { text = strconv.AppendInt(text, int64(n), 10) }
	say(machineName(p.Encodes) + "\n")
	for at, entry := range p.Entry {
		say("type ")
		number(at)
		say(" ")
		number(entry)
		say("\n")
	}
	for at, i := range p.Code {
		number(at)
		say(" " + nameOf(i.Op))
		eachNamed(i, func(n int) { say(" " + operandText(n)) })
		say("\n")
	}
	return string(text), api.Fault{}
}

func machineName(encodes bool) string {
	if encodes {
		return "encoder"
	}
	return "decoder"
}

// operandText: -1 is no number to be read, but says that the machine counts by itself.
func operandText(n int) string {
	if n == -1 {
		return "-"
	}
	return strconv.Itoa(n)
}
