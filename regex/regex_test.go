package regex_test

import (
	"slices"
	"testing"

	"topiary/api"
	"topiary/bytes"
	"topiary/regex"
)

type cells = []api.Cell

func op(kind int) api.Cell { return api.Cell{Op: kind} }

func of(s api.Set) api.Cell { return api.Cell{Op: api.RSet, Set: s} }

func one(b byte) api.Cell { return of(bytes.One(b)) }

func span(from, to byte) api.Cell { return of(bytes.Span(from, to)) }

// some is the cell of the bytes that are named.
func some(text string) api.Cell {
	var s api.Set
	for i := range len(text) {
		s = bytes.Or(s, bytes.One(text[i]))
	}
	return of(s)
}

func others(c api.Cell) api.Cell { return of(bytes.Not(c.Set)) }

func point() api.Cell { return others(one(10)) }

func all() api.Cell { return span(0, 255) }

var (
	empty = op(api.REmpty)
	cat   = op(api.RCat)
	or    = op(api.ROr)
	star  = op(api.RStar)
	plus  = op(api.RPlus)
	opt   = op(api.ROpt)
)

// join puts lists of cells one behind the other.
func join(l ...cells) cells { return slices.Concat(l...) }

// row is n cells of a byte, joined from the left on by n-1 cells.
func row(n int, joint api.Cell) cells {
	l := cells{one('a')}
	for range n - 1 {
		l = append(l, one('a'), joint)
	}
	return l
}

// wrapped is l with that many signs behind it.
func wrapped(l cells, n int, sign api.Cell) cells {
	return join(l, slices.Repeat(cells{sign}, n))
}

// tree is a rule told by its parts: a second way to what cells mean.
type tree struct {
	cell api.Cell
	kids []tree
}

// cut reads the tree that ends l from the end on, and tells how many cells are ahead of it; -1, if there is none.
func cut(l cells) (tree, int) {
	if len(l) == 0 {
		return tree{}, -1
	}
	end := len(l) - 1
	c := l[end]
	kids, known := map[int]int{api.RSet: 0, api.REmpty: 0, api.RCat: 2, api.ROr: 2, api.RStar: 1, api.RPlus: 1, api.ROpt: 1}[c.Op]
	if !known || (bytes.Count(c.Set) == 0) == (c.Op == api.RSet) {
		return tree{}, -1
	}
	t := tree{cell: c}
	for range kids {
		kid, rest := cut(l[:end])
		if rest < 0 {
			return tree{}, -1
		}
		t.kids = append([]tree{kid}, t.kids...)
		end = rest
	}
	return t, end
}

// ends tells up to where the tree may fit s, if it begins at a place.
func (t tree) ends(s string, at int) map[int]bool {
	out := map[int]bool{}
	switch t.cell.Op {
	case api.RSet:
		if at < len(s) && bytes.Has(t.cell.Set, s[at]) {
			out[at+1] = true
		}
	case api.REmpty:
		out[at] = true
	case api.RCat:
		for m := range t.kids[0].ends(s, at) {
			for e := range t.kids[1].ends(s, m) {
				out[e] = true
			}
		}
	case api.ROr, api.ROpt:
		for _, k := range t.kids {
			for e := range k.ends(s, at) {
				out[e] = true
			}
		}
		if t.cell.Op == api.ROpt {
			out[at] = true
		}
	default:
		for e := range t.kids[0].ends(s, at) {
			out[e] = true
			if e > at {
				for f := range t.ends(s, e) {
					out[f] = true
				}
			}
		}
		if t.cell.Op == api.RStar {
			out[at] = true
		}
	}
	return out
}

// every goes through all lists of at most n of these cells, the empty one first.
func every(n int, kinds cells, visit func(l cells)) {
	var grow func(l cells)
	grow = func(l cells) {
		visit(l)
		if len(l) < n {
			for _, c := range kinds {
				grow(append(l[:len(l):len(l)], c))
			}
		}
	}
	grow(nil)
}

// everyText goes through all texts of at most n of these signs.
func everyText(n int, signs string, visit func(s string)) {
	var grow func(s string)
	grow = func(s string) {
		visit(s)
		if len(s) < n {
			for i := range len(signs) {
				grow(s + signs[i:i+1])
			}
		}
	}
	grow("")
}

func TestRight(t *testing.T) {
	a, b := one('a'), one('b')
	for name, l := range map[string]cells{
		"a byte": {a}, "all bytes": {all()}, "a point": {point()}, "byte 255": {one(255)}, "byte 0": {one(0)},
		"nothing": {empty}, "one or the other": {a, b, or}, "one, then the other": {a, b, cat},
		"star": {a, star}, "plus": {a, plus}, "opt": {a, opt}, "signs in a row": {a, star, plus, opt},
		"a sign of nothing": {empty, star}, "left": {a, b, cat, a, or}, "right": {a, b, a, or, cat},
		"59 cells": row(30, cat), "60 cells": join(row(30, or), cells{star}), "60 signs": wrapped(cells{a}, 59, plus),
		"60 cells from the right": join(slices.Repeat(cells{a}, 30), slices.Repeat(cells{cat}, 29), cells{opt}),
	} {
		if !regex.Right(l) {
			t.Errorf("%s isn't right", name)
		}
	}
	if n := len(join(row(30, or), cells{star})); n != 60 {
		t.Fatal(n)
	}
}

// wrong are lists that are no rule.
func wrong() map[string]cells {
	a, b := one('a'), one('b')
	with := func(kind int) api.Cell { return api.Cell{Op: kind, Set: bytes.One('x')} }
	return map[string]cells{
		"nil": nil, "no cells": {},
		"61 cells": row(31, cat), "61 signs": wrapped(cells{a}, 60, star), "61 cells, one left over": wrapped(cells{a, a}, 59, star),
		"very many":    wrapped(cells{a}, 100000, star),
		"star of none": {star}, "plus of none": {plus}, "opt of none": {opt}, "cat of none": {cat}, "or of none": {or},
		"cat of one": {a, cat}, "or of one": {a, or}, "an operand behind": {star, a}, "cat ahead": {cat, a, b}, "cat between": {a, cat, b},
		"one too few, then more": {a, cat, a, b}, "enough in sum": {or, a, a, a, cat},
		"two left over": {a, b}, "three left over": {a, b, a}, "two empty": {empty, empty}, "one left over": {a, a, b, cat},
		"a zero set": {of(api.Set{})}, "a zero set deep": {a, of(api.Set{}), cat},
		"a set in empty": {with(api.REmpty)}, "a set in star": {a, with(api.RStar)}, "a set in plus": {a, with(api.RPlus)},
		"a set in opt": {a, with(api.ROpt)}, "a set in cat": {a, b, with(api.RCat)}, "a set in or": {a, b, with(api.ROr)},
		"a set's last bit": {a, {Op: api.RStar, Set: api.Set{0, 0, 0, 1 << 63}}},
		"kind 0":           {op(0)}, "kind 0 with a set": {{Set: bytes.One('a')}}, "kind 8": {op(8)}, "kind 8 of one": {a, op(8)}, "kind -1": {op(-1)},
		"a great kind": {a, op(1 << 40)}, "a least kind": {a, op(-1 << 63)}, "kind 257": {{Op: 257, Set: bytes.One('a')}},
	}
}

func TestWrong(t *testing.T) {
	for name, l := range wrong() {
		if regex.Right(l) {
			t.Errorf("%s is right", name)
		}
		if regex.Null(l) {
			t.Errorf("%s fits the empty text", name)
		}
		if s, e := regex.Show(l); s != "" || e != api.ErrForm {
			t.Errorf("%s: Show = %q, %d", name, s, e)
		}
	}
}

// kinds are cells of every kind, and wrong ones.
func kinds() cells {
	return cells{one('a'), empty, cat, or, star, plus, opt, of(api.Set{}), {Op: api.RStar, Set: bytes.One('a')}, op(0), op(8)}
}

// TestRightAndNullOfAll holds both against trees read from the end on, at all short lists.
func TestRightAndNullOfAll(t *testing.T) {
	right, null := 0, 0
	every(5, kinds(), func(l cells) {
		rule, rest := cut(l)
		want := rest == 0
		if got := regex.Right(l); got != want {
			t.Fatalf("Right(%v) = %v", l, got)
		}
		fits := want && rule.ends("", 0)[0]
		if got := regex.Null(l); got != fits {
			t.Fatalf("Null(%v) = %v", l, got)
		}
		if want {
			right++
		}
		if fits {
			null++
		}
	})
	if right < 500 || null < 200 || null >= right {
		t.Error("too few were right, or null:", right, null)
	}
}

func TestNull(t *testing.T) {
	a, b := one('a'), one('b')
	for name, c := range map[string]struct {
		l    cells
		want bool
	}{
		"byte": {cells{a}, false}, "all": {cells{all()}, false}, "empty": {cells{empty}, true},
		"star": {cells{a, star}, true}, "plus": {cells{a, plus}, false}, "opt": {cells{a, opt}, true},
		"plus of star": {cells{a, star, plus}, true}, "star of plus": {cells{a, plus, star}, true}, "plus of empty": {cells{empty, plus}, true},
		"cat of both": {cells{a, star, b, opt, cat}, true}, "cat, left alone": {cells{a, star, b, cat}, false}, "cat, right alone": {cells{a, b, star, cat}, false},
		"or, left alone": {cells{empty, b, or}, true}, "or, right alone": {cells{a, empty, or}, true}, "or of neither": {cells{a, b, or}, false},
		"60 cells": {wrapped(cells{a}, 59, plus), false}, "60 cells, null": {join(wrapped(cells{a}, 58, plus), cells{star}), true},
	} {
		if got := regex.Null(c.l); got != c.want {
			t.Errorf("Null of %s = %v", name, got)
		}
	}
}
