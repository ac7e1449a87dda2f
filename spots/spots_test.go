package spots_test

import (
	"maps"
	"slices"
	"strings"
	"sync"
	"testing"

	"topiary/api"
	"topiary/bytes"
	"topiary/regex"
	"topiary/sets"
	"topiary/spots"
)

type cells = []api.Cell

func op(kind int) api.Cell { return api.Cell{Op: kind} }

func of(s api.Set) api.Cell { return api.Cell{Op: api.RSet, Set: s} }

func one(b byte) api.Cell { return of(bytes.One(b)) }

func all() api.Cell { return of(bytes.Span(0, 255)) }

var (
	empty = op(api.REmpty)
	cat   = op(api.RCat)
	or    = op(api.ROr)
	star  = op(api.RStar)
	plus  = op(api.RPlus)
	opt   = op(api.ROpt)
)

// rule is that of a text.
func rule(t *testing.T, text string) cells {
	t.Helper()
	l, _, e := regex.Parse(text)
	if e != api.OK {
		t.Fatalf("Parse(%q): %d", text, e)
	}
	return l
}

// spotsOf are those of a right rule.
func spotsOf(t *testing.T, l cells) api.Spots {
	t.Helper()
	p, e := spots.Of(l)
	if e != api.OK {
		t.Fatalf("Of(%v): %d", l, e)
	}
	return p
}

// same tells whether two are the same, nil and empty lists being one.
func same(p, q api.Spots) bool {
	return slices.Equal(p.Sets, q.Sets) && p.Null == q.Null && slices.Equal(p.First, q.First) && slices.Equal(p.Last, q.Last) &&
		slices.EqualFunc(p.Follow, q.Follow, slices.Equal[[]int])
}

// every goes through all lists of at most n of these cells, the empty one first.
func every(n int, kinds cells, visit func(l cells)) {
	var grow func(l cells)
	grow = func(l cells) {
		visit(l)
		if len(l) < n {
			for _, c := range kinds {
				grow(append(l[:len(l):len(l)], c))
			}
		}
	}
	grow(nil)
}

// texts are all of at most n of these signs, the short ones first.
func texts(n int, signs string) []string {
	out := []string{""}
	for from := 0; n > 0; n-- {
		end := len(out)
		for _, s := range out[from:end] {
			for i := range len(signs) {
				out = append(out, s+signs[i:i+1])
			}
		}
		from = end
	}
	return out
}

// ends tells up to where the rule that ends l may fit s from a place on, and how many cells are ahead of it: a second way to what a rule fits. It goes by sets of places.
func ends(l cells, s string, from map[int]bool) (map[int]bool, int) {
	at := len(l) - 1
	out := map[int]bool{}
	switch c := l[at]; c.Op {
	case api.RSet:
		for n := range from {
			if n < len(s) && bytes.Has(c.Set, s[n]) {
				out[n+1] = true
			}
		}
		return out, at
	case api.REmpty:
		return from, at
	case api.RCat, api.ROr:
		_, middle := ends(l[:at], s, nil)
		first, rest := ends(l[:middle], s, from)
		if c.Op == api.RCat {
			out, _ = ends(l[:at], s, first)
			return out, rest
		}
		second, _ := ends(l[:at], s, from)
		maps.Copy(out, first)
		maps.Copy(out, second)
		return out, rest
	default:
		once, rest := ends(l[:at], s, from)
		maps.Copy(out, once)
		if c.Op != api.ROpt {
			for more := 0; more != len(out); {
				more = len(out)
				again, _ := ends(l[:at], s, out)
				maps.Copy(out, again)
			}
		}
		if c.Op != api.RPlus {
			maps.Copy(out, from)
		}
		return out, rest
	}
}

// ruleFits tells whether a right rule fits a text.
func ruleFits(l cells, s string) bool {
	out, _ := ends(l, s, map[int]bool{0: true})
	return out[len(s)]
}

// apart gives each spot of a rule a byte of its own, 0 and on: what it fits then are its ways.
func apart(l cells) cells {
	out := slices.Clone(l)
	n := 0
	for i, c := range l {
		if c.Op == api.RSet {
			out[i].Set = bytes.One(byte(n))
			n++
		}
	}
	return out
}

// byWays tells the spots of a right rule by its ways of at most n spots, which must be enough.
func byWays(l cells, n int) api.Spots {
	var p api.Spots
	signs := ""
	for _, c := range l {
		if c.Op == api.RSet {
			signs += string([]byte{byte(len(p.Sets))})
			p.Sets = append(p.Sets, c.Set)
		}
	}
	p.Follow = make([][]int, len(p.Sets))
	tell := apart(l)
	for _, way := range texts(n, signs) {
		if !ruleFits(tell, way) {
			continue
		}
		if way == "" {
			p.Null = true
			continue
		}
		p.First = append(p.First, int(way[0]))
		p.Last = append(p.Last, int(way[len(way)-1]))
		for i := 1; i < len(way); i++ {
			p.Follow[way[i-1]] = append(p.Follow[way[i-1]], int(way[i]))
		}
	}
	p.First, p.Last = sets.Of(p.First), sets.Of(p.Last)
	for i, l := range p.Follow {
		p.Follow[i] = sets.Of(l)
	}
	return p
}

func TestOfExamples(t *testing.T) {
	for text, want := range map[string]api.Spots{
		"ab*":     {First: []int{0}, Last: []int{0, 1}, Follow: [][]int{{1}, {1}}},
		"a":       {First: []int{0}, Last: []int{0}, Follow: [][]int{nil}},
		"a*":      {Null: true, First: []int{0}, Last: []int{0}, Follow: [][]int{{0}}},
		"a+":      {First: []int{0}, Last: []int{0}, Follow: [][]int{{0}}},
		"a?":      {Null: true, First: []int{0}, Last: []int{0}, Follow: [][]int{nil}},
		"()":      {Null: true},
		"()*":     {Null: true},
		"()()|()": {Null: true},
		"()+?":    {Null: true},
		"a()":     {First: []int{0}, Last: []int{0}, Follow: [][]int{nil}},
		"()a":     {First: []int{0}, Last: []int{0}, Follow: [][]int{nil}},
		"a|()":    {Null: true, First: []int{0}, Last: []int{0}, Follow: [][]int{nil}},
		"()|a":    {Null: true, First: []int{0}, Last: []int{0}, Follow: [][]int{nil}},
		// RCat: what of its operands can be gone past
		"ab":      {First: []int{0}, Last: []int{1}, Follow: [][]int{{1}, nil}},
		"a?b":     {First: []int{0, 1}, Last: []int{1}, Follow: [][]int{{1}, nil}},
		"ab?":     {First: []int{0}, Last: []int{0, 1}, Follow: [][]int{{1}, nil}},
		"a?b?":    {Null: true, First: []int{0, 1}, Last: []int{0, 1}, Follow: [][]int{{1}, nil}},
		"ab?c":    {First: []int{0}, Last: []int{2}, Follow: [][]int{{1, 2}, {2}, nil}},
		"a?b?c?":  {Null: true, First: []int{0, 1, 2}, Last: []int{0, 1, 2}, Follow: [][]int{{1, 2}, {2}, nil}},
		"a(b?c?)": {First: []int{0}, Last: []int{0, 1, 2}, Follow: [][]int{{1, 2}, {2}, nil}},
		"a*b*":    {Null: true, First: []int{0, 1}, Last: []int{0, 1}, Follow: [][]int{{0, 1}, {1}}},
		"a+b+":    {First: []int{0}, Last: []int{1}, Follow: [][]int{{0, 1}, {1}}},
		// ROr
		"a|b":       {First: []int{0, 1}, Last: []int{0, 1}, Follow: [][]int{nil, nil}},
		"a|bc":      {First: []int{0, 1}, Last: []int{0, 2}, Follow: [][]int{nil, {2}, nil}},
		"(a|b)c":    {First: []int{0, 1}, Last: []int{2}, Follow: [][]int{{2}, {2}, nil}},
		"a(b|c)":    {First: []int{0}, Last: []int{1, 2}, Follow: [][]int{{1, 2}, nil, nil}},
		"(a|b*)c":   {First: []int{0, 1, 2}, Last: []int{2}, Follow: [][]int{{2}, {1, 2}, nil}},
		"(a|())b":   {First: []int{0, 1}, Last: []int{1}, Follow: [][]int{{1}, nil}},
		"(a|b)*ab?": {First: []int{0, 1, 2}, Last: []int{2, 3}, Follow: [][]int{{0, 1, 2}, {0, 1, 2}, {3}, nil}},
		// signs about each other, about RCat and ROr
		"a*?":       {Null: true, First: []int{0}, Last: []int{0}, Follow: [][]int{{0}}},
		"a?+":       {Null: true, First: []int{0}, Last: []int{0}, Follow: [][]int{{0}}},
		"a+?":       {Null: true, First: []int{0}, Last: []int{0}, Follow: [][]int{{0}}},
		"a++":       {First: []int{0}, Last: []int{0}, Follow: [][]int{{0}}},
		"a??":       {Null: true, First: []int{0}, Last: []int{0}, Follow: [][]int{nil}},
		"(ab)*":     {Null: true, First: []int{0}, Last: []int{1}, Follow: [][]int{{1}, {0}}},
		"(ab)+":     {First: []int{0}, Last: []int{1}, Follow: [][]int{{1}, {0}}},
		"(ab)?":     {Null: true, First: []int{0}, Last: []int{1}, Follow: [][]int{{1}, nil}},
		"(a?b?)+":   {Null: true, First: []int{0, 1}, Last: []int{0, 1}, Follow: [][]int{{0, 1}, {0, 1}}},
		"(a|b)+":    {First: []int{0, 1}, Last: []int{0, 1}, Follow: [][]int{{0, 1}, {0, 1}}},
		"(a|b)?":    {Null: true, First: []int{0, 1}, Last: []int{0, 1}, Follow: [][]int{nil, nil}},
		"(a*|bc)*":  {Null: true, First: []int{0, 1}, Last: []int{0, 2}, Follow: [][]int{{0, 1}, {2}, {0, 1}}},
		"((ab)+c)*": {Null: true, First: []int{0}, Last: []int{2}, Follow: [][]int{{1}, {0, 2}, {0}}},
	} {
		l := rule(t, text)
		for _, c := range l {
			if c.Op == api.RSet {
				want.Sets = append(want.Sets, c.Set)
			}
		}
		if got := spotsOf(t, l); !same(got, want) {
			t.Errorf("Of %q = %v, want %v", text, got, want)
		}
	}
}

func TestOfSets(t *testing.T) {
	p := spotsOf(t, cells{one(255), all(), or, one(0), star, cat, of(bytes.Span('a', 'c')), cat})
	if !slices.Equal(p.Sets, []api.Set{bytes.One(255), bytes.Span(0, 255), bytes.One(0), bytes.Span('a', 'c')}) {
		t.Error(p.Sets)
	}
}

// TestOfGreat: of 60 cells there are up to 30 spots.
func TestOfGreat(t *testing.T) {
	var numbers []int
	var row, alone, onward [][]int
	for n := range 30 {
		numbers = append(numbers, n)
	}
	for n := range 30 {
		row = append(row, numbers)
		alone = append(alone, nil)
		onward = append(onward, numbers[n+1:])
	}
	line := slices.Clone(onward)
	for n := range line {
		line[n] = line[n][:min(1, len(line[n]))]
	}
	back := slices.Clone(line)
	back[29] = []int{0}
	a := slices.Repeat([]api.Set{bytes.One('a')}, 30)
	deep := slices.Concat(slices.Repeat(cells{one('a')}, 30), slices.Repeat(cells{cat}, 29), cells{opt})
	half := slices.Repeat([]string{"a?"}, 20)
	for name, c := range map[string]struct {
		l    cells
		want api.Spots
	}{
		"a row":            {rule(t, strings.Repeat("a", 30)), api.Spots{Sets: a, First: numbers[:1], Last: numbers[29:], Follow: line}},
		"a row, again":     {rule(t, "("+strings.Repeat("a", 30)+")*"), api.Spots{Sets: a, Null: true, First: numbers[:1], Last: numbers[29:], Follow: back}},
		"a row from right": {deep, api.Spots{Sets: a, Null: true, First: numbers[:1], Last: numbers[29:], Follow: line}},
		"rows":             {rule(t, "a"+strings.Repeat("|a", 29)), api.Spots{Sets: a, First: numbers, Last: numbers, Follow: alone}},
		"rows, again":      {rule(t, "(a"+strings.Repeat("|a", 29)+")+"), api.Spots{Sets: a, First: numbers, Last: numbers, Follow: row}},
		"all gone past":    {rule(t, strings.Join(half, "")), api.Spots{Sets: a[:20], Null: true, First: numbers[:20], Last: numbers[:20], Follow: cutOff(onward[:20], 20)}},
		"signs":            {rule(t, "a"+strings.Repeat("*", 59)), api.Spots{Sets: a[:1], Null: true, First: numbers[:1], Last: numbers[:1], Follow: [][]int{{0}}}},
	} {
		if len(c.l) > 60 || len(c.l) < 59 {
			t.Fatalf("%s has %d cells", name, len(c.l))
		}
		if got := spotsOf(t, c.l); !same(got, c.want) {
			t.Errorf("%s: Of = %v, want %v", name, got, c.want)
		}
	}
}

// cutOff leaves of each list the numbers below n.
func cutOff(l [][]int, n int) [][]int {
	var out [][]int
	for _, s := range l {
		out = append(out, slices.DeleteFunc(slices.Clone(s), func(m int) bool { return m >= n }))
	}
	return out
}

// wrong are cells that are no right rule.
func wrong() map[string]cells {
	a := one('a')
	return map[string]cells{
		"nil": nil, "no cells": {}, "61 cells": slices.Concat(cells{a}, slices.Repeat(cells{star}, 60)), "very many": slices.Repeat(cells{a}, 100000),
		"star of none": {star}, "plus of none": {plus}, "opt of none": {opt}, "cat of none": {cat}, "or of none": {or}, "cat of one": {a, cat}, "or of one": {a, or},
		"cat ahead": {cat, a, a}, "two left over": {a, a}, "one too few, then more": {a, or, a, a}, "a zero set": {of(api.Set{})}, "a zero set deep": {a, of(api.Set{}), cat},
		"a set in empty": {{Op: api.REmpty, Set: bytes.One('x')}}, "a set in star": {a, {Op: api.RStar, Set: bytes.One('x')}}, "a set in or": {a, a, {Op: api.ROr, Set: bytes.One('x')}},
		"kind 0": {op(0)}, "kind 0 with a set": {{Set: bytes.One('a')}}, "kind 8": {a, op(8)}, "kind -1": {a, a, op(-1)}, "the least kind": {a, op(-1 << 63)}, "a great kind": {a, op(1<<63 - 1)},
	}
}

func TestOfWrong(t *testing.T) {
	for name, l := range wrong() {
		if p, e := spots.Of(l); e != api.ErrForm || !same(p, api.Spots{}) {
			t.Errorf("%s: Of = %v, %d", name, p, e)
		}
	}
}

// TestOfAll: at all short lists, Of holds against Right, and against ways that are tried one by one.
func TestOfAll(t *testing.T) {
	right := 0
	every(6, cells{all(), empty, cat, or, star, plus, opt}, func(l cells) {
		p, e := spots.Of(l)
		if !regex.Right(l) {
			if e != api.ErrForm || !same(p, api.Spots{}) {
				t.Fatalf("Of(%v) = %v, %d", l, p, e)
			}
			return
		}
		right++
		if want := byWays(l, 6); e != api.OK || !same(p, want) {
			t.Fatalf("Of(%v) = %v, %d, want %v", l, p, e, want)
		}
	})
	if right < 1000 {
		t.Error("too few were right:", right)
	}
}

// TestFitsOfAll: at all short rules and texts, Fits of Of is what the rule fits.
func TestFitsOfAll(t *testing.T) {
	short := texts(4, "ab")
	short = append(short, "c", "ac", "ca", "aaaaaaa", "abababab", "bbbbbbbb")
	yes, no := 0, 0
	every(5, cells{one('a'), one('b'), of(bytes.Span('a', 'b')), empty, cat, or, star, plus, opt}, func(l cells) {
		if !regex.Right(l) {
			return
		}
		p := spotsOf(t, l)
		for _, s := range short {
			want := ruleFits(l, s)
			if got := spots.Fits(p, s); got != want {
				t.Fatalf("Fits(Of(%v), %q) = %v", l, s, got)
			}
			if want {
				yes++
			} else {
				no++
			}
		}
	})
	if yes < 10000 || no < 10000 {
		t.Error("too few:", yes, no)
	}
}

// dice tells numbers that look like chance, but are the same in each run.
type dice uint32

func (d *dice) below(n int) int {
	*d = *d*1664525 + 1013904223
	return int(uint64(*d) * uint64(n) >> 32)
}

// grown is a rule of at most n cells.
func (d *dice) grown(n int) cells {
	switch {
	case n == 1 && d.below(8) == 0:
		return cells{empty}
	case n == 1:
		return cells{of(bytes.Span('a', "abc"[d.below(3)]))}
	case n == 2 || d.below(3) == 0:
		return append(d.grown(n-1), cells{star, plus, opt}[d.below(3)])
	}
	left := 1 + d.below(n-2)
	return append(slices.Concat(d.grown(left), d.grown(n-1-left)), cells{cat, cat, or}[d.below(3)])
}

// TestFitsOfGreat: likewise of many rules of 60 cells and longer texts.
func TestFitsOfGreat(t *testing.T) {
	d := dice(7)
	yes, no := 0, 0
	for range 300 {
		l := d.grown(60)
		if len(l) != 60 || !regex.Right(l) {
			t.Fatal(len(l))
		}
		p := spotsOf(t, l)
		if p.Null != regex.Null(l) || !sets.Is(p.First) || !sets.Is(p.Last) || slices.ContainsFunc(p.Follow, func(s []int) bool { return !sets.Is(s) }) {
			t.Fatalf("Of(%v) = %v", l, p)
		}
		for range 20 {
			s := ""
			for range d.below(15) {
				s += "abc"[d.below(3):][:1]
			}
			want := ruleFits(l, s)
			if spots.Fits(p, s) != want {
				t.Fatalf("Fits(Of(%v), %q) = %v", l, s, !want)
			}
			if want {
				yes++
			} else {
				no++
			}
		}
	}
	if yes < 500 || no < 500 {
		t.Error("too few:", yes, no)
	}
}

func TestFits(t *testing.T) {
	for text, c := range map[string]struct{ yes, no []string }{
		"ab*":             {[]string{"a", "ab", "abb", "a" + strings.Repeat("b", 5000)}, []string{"", "b", "aa", "aba", "abc", "ab" + strings.Repeat("b", 5000) + "a"}},
		"a":               {[]string{"a"}, []string{"", "b", "aa", "A", "\x00", "á"}},
		"a?":              {[]string{"", "a"}, []string{"aa", "b"}},
		"()":              {[]string{""}, []string{"a", "\x00", " ", "()"}},
		"()*":             {[]string{""}, []string{"a"}},
		"(a|b)*ab?":       {[]string{"a", "ab", "bba", "aab"}, []string{"", "bb", "abb", "c", "babb"}},
		".":               {[]string{"a", "\x00", "\xff", "\t"}, []string{"", "\n", "aa", "é"}},
		`[\x00-\xff]*`:    {[]string{"", "\x00\xff\n", strings.Repeat("\x80", 1000)}, nil},
		"[0-9]+(x?)[a-f]": {[]string{"0a", "1xb", "123f", "9xf"}, []string{"", "0", "a", "0xx", "xa", "0ag"}},
		"(a*)*b|(a*)*c":   {[]string{"b", "c", strings.Repeat("a", 3000) + "c"}, []string{strings.Repeat("a", 3000), strings.Repeat("a", 3000) + "d"}},
	} {
		p := spotsOf(t, rule(t, text))
		for _, s := range c.yes {
			if !spots.Fits(p, s) {
				t.Errorf("%q doesn't fit %.20q", text, s)
			}
		}
		for _, s := range c.no {
			if spots.Fits(p, s) {
				t.Errorf("%q fits %.20q", text, s)
			}
		}
	}
}

// made are two spots by hand.
func made(null bool, first, last []int, follow ...[]int) api.Spots {
	return api.Spots{Sets: []api.Set{bytes.One('a'), bytes.One('b')}, Null: null, First: first, Last: last, Follow: follow}
}

func TestFitsOthers(t *testing.T) {
	zero, both, far, low := []int{0}, []int{0, 1}, []int{0, 2}, []int{-1, 0}
	for name, p := range map[string]api.Spots{
		"no Follow": made(true, zero, zero), "Follow shorter": made(true, zero, zero, zero), "Follow longer": made(true, zero, zero, zero, nil, nil),
		"Follow without Sets": {Null: true, Follow: [][]int{nil}}, "Sets without Follow": {Null: true, Sets: []api.Set{bytes.One('a')}, First: zero, Last: zero},
		"First beyond": made(true, far, zero, zero, nil), "Last beyond": made(true, zero, far, zero, nil), "Follow beyond": made(true, zero, zero, far, nil), "the last Follow beyond": made(true, zero, zero, zero, far),
		"First below": made(true, low, zero, zero, nil), "Last below": made(true, zero, low, zero, nil), "Follow below": made(true, zero, zero, low, nil), "the last Follow below": made(true, zero, zero, zero, low),
		"the least number": made(true, []int{0, -1 << 63}, zero, zero, nil), "the greatest": made(true, zero, []int{1<<63 - 1}, zero, nil), "no spots, a first": {Null: true, First: zero}, "no spots, a last": {Null: true, Last: zero},
	} {
		for _, s := range []string{"", "a", "aa", "ab", "b"} {
			if spots.Fits(p, s) {
				t.Errorf("%s fits %q", name, s)
			}
		}
	}
	odd := made(false, []int{1, 0, 1, 1}, []int{1, 1, 0}, []int{1, 0, 1}, []int{0, 0})
	for s, want := range map[string]bool{"": false, "a": true, "b": true, "ab": true, "ba": true, "aa": true, "bb": false, "abab": true, "aabab": true, "abba": false, "c": false} {
		if spots.Fits(odd, s) != want {
			t.Errorf("odd lists: Fits %q = %v", s, !want)
		}
	}
	if none := (api.Spots{}); spots.Fits(none, "") || spots.Fits(none, "a") {
		t.Error("no spots fit something")
	}
	if null := (api.Spots{Null: true}); !spots.Fits(null, "") || spots.Fits(null, "a") {
		t.Error("no spots, null")
	}
	if p := made(true, nil, both, both, both); !spots.Fits(p, "") || spots.Fits(p, "a") {
		t.Error("no first")
	}
	if p := made(true, both, nil, both, both); !spots.Fits(p, "") || spots.Fits(p, "ab") {
		t.Error("no last")
	}
	if p := (api.Spots{Sets: make([]api.Set, 2), First: both, Last: both, Follow: [][]int{both, both}}); spots.Fits(p, "\x00") || spots.Fits(p, "a") {
		t.Error("sets without a byte")
	}
}

// wayFits goes by the words of P7.2, spot by spot.
func wayFits(p api.Spots, s string) bool {
	var from func(s string, next []int) bool
	from = func(s string, next []int) bool {
		for n := range p.Sets {
			if sets.Has(next, n) && bytes.Has(p.Sets[n], s[0]) && (len(s) == 1 && sets.Has(p.Last, n) || len(s) > 1 && from(s[1:], p.Follow[n])) {
				return true
			}
		}
		return false
	}
	if s == "" {
		return p.Null
	}
	return from(s, p.First)
}

// TestFitsOthersOfAll: at all pairs of spots with short lists.
func TestFitsOthersOfAll(t *testing.T) {
	lists := [][]int{nil, {0}, {1}, {0, 1}, {1, 0}, {0, 0}, {1, 1, 0}, {2}, {-1}, {0, 2}, {-1, 1}}
	const known = 7
	short := texts(4, "ab")
	for i := range len(lists) * len(lists) * len(lists) * len(lists) {
		place := [4]int{}
		right := true
		for n := range place {
			place[n] = i % len(lists)
			right = right && place[n] < known
			i /= len(lists)
		}
		p := made(false, lists[place[0]], lists[place[1]], lists[place[2]], lists[place[3]])
		p.Null = (place[0]+place[1]+place[2]+place[3])%2 == 0
		for _, s := range short {
			if want := right && wayFits(p, s); spots.Fits(p, s) != want {
				t.Fatalf("Fits(%v, %q) = %v", p, s, !want)
			}
		}
	}
}

// TestFitsMany: many ways, numbers told many times, and many spots take no longer than they must.
func TestFitsMany(t *testing.T) {
	zeros := make([]int, 20000)
	p := api.Spots{Sets: []api.Set{bytes.One('a')}, First: zeros, Last: zeros, Follow: [][]int{zeros}}
	if s := strings.Repeat("a", 2000); !spots.Fits(p, s) || spots.Fits(p, s+"b") {
		t.Error("numbers told many times")
	}
	var wide api.Spots
	for n := range 500 {
		wide.Sets = append(wide.Sets, bytes.Span(0, 255))
		wide.First = append(wide.First, n)
	}
	wide.Follow = slices.Repeat([][]int{wide.First}, 500)
	wide.Last = []int{499}
	if s := strings.Repeat("x", 300); !spots.Fits(wide, s) {
		t.Error("many spots")
	}
	text := "(" + strings.Repeat("a?", 19) + ")*"
	if p := spotsOf(t, rule(t, text)); !spots.Fits(p, strings.Repeat("a", 4000)) || spots.Fits(p, strings.Repeat("a", 4000)+"b") {
		t.Error("many ways")
	}
}

// grownBy is l with room behind it, filled with n.
func grownBy[T any](l []T, n T) []T {
	return append(slices.Clone(l), n, n)[:len(l)]
}

// TestMemory: what is handed in stays as it was, spare room too; no two lists of an answer, nor of two answers, share memory (R4).
func TestMemory(t *testing.T) {
	for _, text := range []string{"a", "a*", "ab?", "a|b", "(ab|c)+", "(a?b?)*c", "a()", "()a?"} {
		want := rule(t, text)
		l := grownBy(want, one('z'))
		p, q := spotsOf(t, l), spotsOf(t, l)
		room := l[:len(l)+2]
		if !slices.Equal(l, want) || room[len(l)] != one('z') || room[len(l)+1] != one('z') {
			t.Fatalf("Of changed %q", text)
		}
		mark := 100
		for _, x := range []*api.Spots{&p, &q} {
			for _, m := range append([][]int{x.First, x.Last}, x.Follow...) {
				mark++
				for i := range m[:cap(m)] {
					if m[:cap(m)][i] > 100 {
						t.Fatalf("lists of Of %q share memory", text)
					}
					m[:cap(m)][i] = mark
				}
			}
			for i := range x.Sets[:cap(x.Sets)] {
				x.Sets[:cap(x.Sets)][i] = api.Set{}
			}
		}
		if !slices.Equal(l, want) || !same(spotsOf(t, l), spotsOf(t, want)) {
			t.Fatalf("what is done to Of %q is seen later", text)
		}
	}
	p := made(true, grownBy([]int{1, 0, 1}, 9), grownBy([]int{1, 1, 0}, 9), grownBy([]int{1, 0}, 9), grownBy([]int{0, 0}, 9))
	p.Sets, p.Follow = grownBy(p.Sets, bytes.One('z')), grownBy(p.Follow, []int{9})
	spots.Fits(p, "abab")
	spots.Fits(p, "")
	want := made(true, []int{1, 0, 1, 9, 9}, []int{1, 1, 0, 9, 9}, []int{1, 0, 9, 9}, []int{0, 0, 9, 9}, []int{9}, []int{9})
	want.Sets = append(want.Sets, bytes.One('z'), bytes.One('z'))
	p.Sets, p.Follow, p.First, p.Last = p.Sets[:4], p.Follow[:4], p.First[:5], p.Last[:5]
	p.Follow[0], p.Follow[1] = p.Follow[0][:4], p.Follow[1][:4]
	if !same(p, want) {
		t.Error("Fits changed its spots:", p)
	}
}

// TestSideBySide: calls in many goroutines answer as they do one by one (R5).
func TestSideBySide(t *testing.T) {
	l := rule(t, "((a|b)*ab?|c+)*")
	want := spotsOf(t, l)
	var wait sync.WaitGroup
	for range 8 {
		wait.Go(func() {
			for range 100 {
				if p, e := spots.Of(l); e != api.OK || !same(p, want) || !spots.Fits(want, "aabcc") || spots.Fits(want, "cb") {
					t.Error(p, e)
					return
				}
			}
		})
	}
	wait.Wait()
}
