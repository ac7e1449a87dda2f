package regex

import (
	"strings"

	"topiary/api"
	"topiary/bytes"
)

// fault is a place at which something else must stand. It is told by panic, as it ends all that is being read, however deep in it.
type fault int

// reader puts each cell down as soon as its operands are read, so that it comes behind them.
type reader struct {
	text  string
	at    int
	cells []api.Cell
}

// read tells the cells of s, however many, or the place of the first fault.
func read(s string) (l []api.Cell, at int, e api.Errno) {
	defer func() {
		if f := recover(); f != nil {
			l, at, e = nil, int(f.(fault)), api.ErrForm
		}
	}()
	r := reader{text: s}
	r.rows()
	if r.at < len(s) {
		panic(fault(r.at))
	}
	return r.cells, 0, api.OK
}

func (r *reader) rows() {
	r.row()
	for r.take('|') {
		r.row()
		r.put(api.ROr)
	}
}

func (r *reader) row() {
	r.piece()
	for !r.rowEnds() {
		r.piece()
		r.put(api.RCat)
	}
}

func (r *reader) piece() {
	r.atom()
	for {
		switch {
		case r.take('*'):
			r.put(api.RStar)
		case r.take('+'):
			r.put(api.RPlus)
		case r.take('?'):
			r.put(api.ROpt)
		default:
			return
		}
	}
}

func (r *reader) atom() {
	start := r.at
	switch {
	case r.take('('):
		r.group()
	case r.take('['):
		r.putSet(r.class(start))
	case r.take('.'):
		r.putSet(point())
	default:
		r.putSet(bytes.One(r.told(atomSigns)))
	}
}

// group reads what is behind a parenthesis, up to the one that ends it.
func (r *reader) group() {
	if r.take(')') {
		r.put(api.REmpty)
		return
	}
	r.rows()
	if !r.take(')') {
		panic(fault(r.at))
	}
}

// class reads what is behind the bracket at start. One that no byte is in is none, as no cell can hold it.
func (r *reader) class(start int) api.Set {
	others := r.take('^')
	set := r.item()
	for !r.take(']') {
		set = bytes.Or(set, r.item())
	}
	if others {
		set = bytes.Not(set)
	}
	if set == (api.Set{}) {
		panic(fault(start))
	}
	return set
}

func (r *reader) item() api.Set {
	start := r.at
	from := r.told(classSigns)
	to := from
	if r.take('-') {
		to = r.told(classSigns)
	}
	if from > to {
		panic(fault(start))
	}
	return bytes.Span(from, to)
}

// told reads one byte, told by itself, unless it is one of signs, or by a \.
func (r *reader) told(signs string) byte {
	start := r.at
	b := r.next(start)
	if b == '\\' {
		return r.escaped(start)
	}
	if !plain(b, signs) {
		panic(fault(start))
	}
	return b
}

// escaped reads what is behind the \ at start. Each sign may be told so, even where it need not.
func (r *reader) escaped(start int) byte {
	b := r.next(start)
	switch b {
	case 'n':
		return '\n'
	case 't':
		return '\t'
	case 'r':
		return '\r'
	case 'x':
		high := r.digit(start)
		return high*16 + r.digit(start)
	}
	if strings.IndexByte(atomSigns+classSigns, b) < 0 {
		panic(fault(start))
	}
	return b
}

// digit reads a hexadecimal one, of the byte that is told from start on.
func (r *reader) digit(start int) byte {
	b := r.next(start)
	switch {
	case '0' <= b && b <= '9':
		return b - '0'
	case 'a' <= b && b <= 'f':
		return b - 'a' + 10
	case 'A' <= b && b <= 'F':
		return b - 'A' + 10
	}
	panic(fault(start))
}

// next reads any byte, of the one that is told from start on: if the text ends, that one is none.
func (r *reader) next(start int) byte {
	if r.at == len(r.text) {
		panic(fault(start))
	}
	b := r.text[r.at]
	r.at++
	return b
}

// take goes past b, if that is next.
func (r *reader) take(b byte) bool {
	if !r.ahead(b) {
		return false
	}
	r.at++
	return true
}

func (r *reader) ahead(b byte) bool {
	return r.at < len(r.text) && r.text[r.at] == b
}

func (r *reader) rowEnds() bool {
	return r.at == len(r.text) || r.ahead('|') || r.ahead(')')
}

func (r *reader) put(op int) {
	r.cells = append(r.cells, api.Cell{Op: op})
}

func (r *reader) putSet(s api.Set) {
	r.cells = append(r.cells, api.Cell{Op: api.RSet, Set: s})
}
