package value

import (
	"strconv"

	"mortise/api"
)

// unclosed: a node whose text has begun.
type unclosed struct {
	left int    // how many of its kids' texts have not ended
	end  string // what closes it
}

// Print: its text.
func Print(v []api.Node) (string, api.Errno) {
	if f := Check(v); f.Err != api.OK {
		return "", f.Err
	}
	var text []byte
	var open []unclosed
	for _, n := range v {
		text = appendBegin(text, n)
		open = append(open, unclosed{n.Kids, ending(n.Kind)})
		text, open = closeDone(text, open)
		// Asked at each node, so that a value of very many is not written out in vain.
		if len(text) > api.MaxScript {
			return "", api.ErrLong
		}
	}
	return string(text), api.OK
}

// closeDone ends the texts of the innermost nodes that have all their kids', and parts what comes from the kid ahead.
func closeDone(text []byte, open []unclosed) ([]byte, []unclosed) {
	for len(open) > 0 && open[len(open)-1].left == 0 {
		text = append(text, open[len(open)-1].end...)
		open = open[:len(open)-1]
		if len(open) == 0 {
			break
		}
		around := &open[len(open)-1]
		around.left--
		if around.left > 0 {
			text = append(text, ", "...)
		}
	}
	return text, open
}

// appendBegin: a node's text up to its first kid's.
func appendBegin(text []byte, n api.Node) []byte {
	switch n.Kind {
	case api.NodeUint:
		return strconv.AppendUint(text, n.N, 10)
	case api.NodeBool:
		return strconv.AppendBool(text, n.N == 1)
	case api.NodeSeq:
		return append(text, '[')
	case api.NodeStruct:
		return append(text, '{')
	case api.NodeUnion:
		text = append(text, '<')
		text = strconv.AppendUint(text, n.N, 10)
		return append(text, ':')
	}
	if n.Kids == 0 {
		return append(text, "none"...)
	}
	return append(text, "some "...)
}

// ending: what stands behind the last kid's text.
func ending(kind int) string {
	switch kind {
	case api.NodeSeq:
		return "]"
	case api.NodeStruct:
		return "}"
	case api.NodeUnion:
		return ">"
	}
	return ""
}

// Parse: the value of a text.
func Parse(text string) ([]api.Node, api.Fault) {
	if len(text) > api.MaxScript {
		return nil, api.Fault{Err: api.ErrLong}
	}
	r := reader{text: text}
	if !r.read() {
		return nil, api.Fault{Err: api.ErrText, At: r.at}
	}
	return r.nodes, api.Fault{}
}

// reader takes a byte only if some value's text begins with all up to it: so its place is that of the fault.
type reader struct {
	text  string
	at    int
	nodes []api.Node // each one's Kids: as many as have begun
	open  []int      // the places of the nodes that more may belong to, the innermost last
	ended bool       // a value ends right ahead of at
}

// read tells whether the text is a value's.
func (r *reader) read() bool {
walk:
	for r.at < len(r.text) {
		c := r.text[r.at]
		switch c {
		case ']', '}', '>':
			if !r.mayClose(c) {
				break walk
			}
			r.at++
			r.open = r.open[:len(r.open)-1]
			r.end()
			continue walk
		case ',':
			if !r.mayGoOn() || !r.take(", ") {
				break walk
			}
			r.ended = false
			continue walk
		}
		if r.ended || !r.begin(c) {
			break walk
		}
	}
	return r.at == len(r.text) && r.ended && len(r.open) == 0
}

// begin takes the beginning of a value, up to its first kid.
func (r *reader) begin(c byte) bool {
	switch c {
	case '[':
		r.at++
		r.enter(api.NodeSeq, 0)
		return true
	case '{':
		r.at++
		r.enter(api.NodeStruct, 0)
		return true
	case '<':
		r.at++
		tag, ok := r.number(255)
		if !ok || !r.take(":") {
			return false
		}
		r.enter(api.NodeUnion, tag)
		return true
	case 's':
		if !r.take("some ") {
			return false
		}
		r.enter(api.NodeOption, 0)
		return true
	}
	return r.leaf(c)
}

// leaf takes a value without kids.
func (r *reader) leaf(c byte) bool {
	kind, n, ok := api.NodeOption, uint64(0), false
	switch c {
	case 'n':
		ok = r.take("none")
	case 'f':
		kind, ok = api.NodeBool, r.take("false")
	case 't':
		kind, n, ok = api.NodeBool, 1, r.take("true")
	default:
		kind = api.NodeUint
		n, ok = r.number(1<<64 - 1)
	}
	if ok {
		r.add(kind, n)
		r.end()
	}
	return ok
}

func (r *reader) add(kind int, n uint64) {
	if len(r.open) > 0 {
		r.nodes[r.open[len(r.open)-1]].Kids++
	}
	r.nodes = append(r.nodes, api.Node{Kind: kind, N: n})
}

// enter adds a node whose kids come behind it.
func (r *reader) enter(kind int, n uint64) {
	r.add(kind, n)
	r.open = append(r.open, len(r.nodes)-1)
}

// end: a value has ended, and with it each option that it is the kid of.
func (r *reader) end() {
	r.ended = true
	for len(r.open) > 0 && r.nodes[r.open[len(r.open)-1]].Kind == api.NodeOption {
		r.open = r.open[:len(r.open)-1]
	}
}

// mayClose tells whether a byte closes the innermost open node here.
func (r *reader) mayClose(c byte) bool {
	if len(r.open) == 0 {
		return false
	}
	n := r.nodes[r.open[len(r.open)-1]]
	b, _ := boundsOf(n.Kind)
	complete := r.ended || n.Kids == 0 && b.leastKids == 0
	return complete && ending(n.Kind) == string(c)
}

// mayGoOn tells whether the innermost open node may have a further kid here.
func (r *reader) mayGoOn() bool {
	if len(r.open) == 0 || !r.ended {
		return false
	}
	n := r.nodes[r.open[len(r.open)-1]]
	b, _ := boundsOf(n.Kind)
	return n.Kids < b.mostKids
}

// take takes as many bytes as agree with a word, and tells whether it was all of it.
func (r *reader) take(word string) bool {
	for i := range len(word) {
		if r.at == len(r.text) || r.text[r.at] != word[i] {
			return false
		}
		r.at++
	}
	return true
}

// number takes the digits of a number, as long as it has no needless zero and is at most as said.
func (r *reader) number(most uint64) (uint64, bool) {
	from, n := r.at, uint64(0)
	for r.at < len(r.text) && r.text[r.at] >= '0' && r.text[r.at] <= '9' {
		digit := uint64(r.text[r.at] - '0')
		if r.at > from && n == 0 || n > (most-digit)/10 {
			break
		}
		n = n*10 + digit
		r.at++
	}
	return n, r.at > from
}
