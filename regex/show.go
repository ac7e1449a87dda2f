package regex

import (
	"topiary/api"
	"topiary/bytes"
)

// What a text is read as, the loosest first. A piece may stand wherever an atom may: signs behind it go on behind its own.
const (
	asRows = iota
	asRow
	asPiece
)

// shown is the text of a part of a rule, and what it is read as.
type shown struct {
	text string
	as   int
}

// shownCell tells a cell's text by those of its operands. Rows and pieces are joined from the left on, so a right operand is asked to hold tighter than a left one.
func shownCell(c api.Cell, parts []shown) shown {
	switch c.Op {
	case api.RSet:
		return shown{setText(c.Set), asPiece}
	case api.RCat:
		return shown{within(parts[0], asRow) + within(parts[1], asPiece), asRow}
	case api.ROr:
		return shown{within(parts[0], asRows) + "|" + within(parts[1], asRow), asRows}
	case api.RStar:
		return shown{within(parts[0], asPiece) + "*", asPiece}
	case api.RPlus:
		return shown{within(parts[0], asPiece) + "+", asPiece}
	case api.ROpt:
		return shown{within(parts[0], asPiece) + "?", asPiece}
	}
	return shown{"()", asPiece}
}

// within puts parentheses about what holds together less than it must.
func within(part shown, as int) string {
	if part.as < as {
		return "(" + part.text + ")"
	}
	return part.text
}

func setText(s api.Set) string {
	switch {
	case bytes.Count(s) == 1:
		return byteText(byte(bytes.Least(s)), atomSigns)
	case s == point():
		return "."
	}
	return "[" + itemsText(s) + "]"
}

// itemsText takes the least run out of s, till there is none.
func itemsText(s api.Set) string {
	text := ""
	for least := bytes.Least(s); least >= 0; least = bytes.Least(s) {
		from := byte(least)
		to := runEnd(s, from)
		text += runText(from, to)
		s = bytes.And(s, bytes.Not(bytes.Span(from, to)))
	}
	return text
}

// runEnd tells the last of those that are in s from one on without a gap.
func runEnd(s api.Set, from byte) byte {
	to := from
	for to < 255 && bytes.Has(s, to+1) {
		to++
	}
	return to
}

func runText(from, to byte) string {
	first, last := byteText(from, classSigns), byteText(to, classSigns)
	switch to - from {
	case 0:
		return first
	case 1:
		return first + last
	}
	return first + "-" + last
}

// byteText tells a byte so that it is read again, where signs don't stand for themselves.
func byteText(b byte, signs string) string {
	switch {
	case b == '\n':
		return `\n`
	case b == '\t':
		return `\t`
	case b == '\r':
		return `\r`
	case plain(b, signs):
		return string([]byte{b})
	case visible(b):
		return string([]byte{'\\', b})
	}
	const digits = "0123456789abcdef"
	return string([]byte{'\\', 'x', digits[b/16], digits[b%16]})
}
