package dfa_test

import (
	"maps"
	"slices"
	"strconv"
	"strings"
	"sync"
	"testing"

	"topiary/api"
	"topiary/bytes"
	"topiary/dfa"
	"topiary/regex"
	"topiary/sets"
	"topiary/spots"
)

type cells = []api.Cell

func op(kind int) api.Cell { return api.Cell{Op: kind} }

func of(s api.Set) api.Cell { return api.Cell{Op: api.RSet, Set: s} }

func one(b byte) api.Cell { return of(bytes.One(b)) }

var (
	empty = op(api.REmpty)
	cat   = op(api.RCat)
	or    = op(api.ROr)
	star  = op(api.RStar)
	plus  = op(api.RPlus)
	opt   = op(api.ROpt)
)

// rules are those of texts.
func rules(t *testing.T, l ...string) []cells {
	t.Helper()
	var out []cells
	for _, s := range l {
		c, _, e := regex.Parse(s)
		if e != api.OK {
			t.Fatalf("Parse(%q): %d", s, e)
		}
		out = append(out, c)
	}
	return out
}

// built is the automaton of right rules that don't need too many states.
func built(t *testing.T, l []cells) api.DFA {
	t.Helper()
	d, e := dfa.Build(l)
	if e != api.OK {
		t.Fatalf("Build(%v): %d", l, e)
	}
	return d
}

// refused tells whether Build answers that error, and nothing else.
func refused(l []cells, want api.Errno) bool {
	d, e := dfa.Build(l)
	return e == want && len(d.Next) == 0 && len(d.Accept) == 0
}

// short tells of each state what it accepts, and where it leads: "1 a-c>2 x>0", nothing of what leads nowhere.
func short(d api.DFA) []string {
	var out []string
	for n, row := range d.Next {
		s := strconv.Itoa(d.Accept[n])
		for b := 0; b < len(row); {
			end := b + 1
			for end < len(row) && row[end] == row[b] {
				end++
			}
			if row[b] >= 0 {
				s += " " + sign(b)
				if end > b+1 {
					s += "-" + sign(end-1)
				}
				s += ">" + strconv.Itoa(row[b])
			}
			b = end
		}
		out = append(out, s)
	}
	return out
}

// sign tells a byte: letters as they are, others as numbers.
func sign(b int) string {
	if 'a' <= b && b <= 'z' {
		return string(rune(b))
	}
	return strconv.Itoa(b)
}

func TestBuildExamples(t *testing.T) {
	for name, want := range map[string][]string{
		"ab a":        {"-1 a>1", "1 b>2", "0"}, // the chapter's own
		"a ab":        {"-1 a>1", "0 b>2", "1"},
		"ab a [a-c]+": {"-1 a>1 b-c>2", "1 a>2 b>3 c>2", "2 a-c>2", "0 a-c>2"},
		"":            {"-1"},
		// the empty text
		"()":     {"0"},
		"a*":     {"0 a>0"},
		"a+":     {"-1 a>1", "0 a>1"},
		"a?":     {"0 a>1", "0"},
		"a ()":   {"1 a>1", "0"},
		"() a*":  {"0 a>1", "1 a>1"},
		"a* ()":  {"0 a>1", "0 a>1"},
		"a+ a*":  {"1 a>1", "0 a>1"},
		"a b c?": {"2 a>1 b>2 c>3", "0", "1", "2"},
		// the same rule twice, rules of which two fit a text, one that never is the first
		"a a":        {"-1 a>1", "0"},
		"a* a*":      {"0 a>0"},
		"[a-c] b":    {"-1 a>1 b>2 c>1", "0", "0"},
		"b [a-c]":    {"-1 a>1 b>2 c>1", "1", "0"},
		"ab [a-c]+b": {"-1 a>1 b-c>2", "-1 a>2 b>3 c>2", "-1 a>2 b>4 c>2", "0 a>2 b>4 c>2", "1 a>2 b>4 c>2"},
		// states that do the same, but have other spots, are two
		"ac|bc":   {"-1 a>1 b>2", "-1 c>3", "-1 c>3", "0"},
		"(a|b)c":  {"-1 a-b>1", "-1 c>2", "0"},
		"aa*|b":   {"-1 a>1 b>2", "0 a>1", "0"},
		"ab|a":    {"-1 a>1", "0 b>2", "0"},
		"(ab)*":   {"0 a>1", "-1 b>0"},
		"(ab)+":   {"-1 a>1", "-1 b>2", "0 a>1"},
		"a|a a|a": {"-1 a>1", "0"},
		// in the order of states, then of bytes, whatever the order of rules and spots
		"z y a":           {"-1 a>1 y>2 z>3", "2", "1", "0"},
		"z|y|a":           {"-1 a>1 y-z>1", "0"},
		"zb yb ac ad":     {"-1 a>1 y>2 z>3", "-1 c>4 d>5", "-1 b>6", "-1 b>7", "2", "3", "1", "0"},
		"b[x-z] a[w-y]":   {"-1 a>1 b>2", "-1 w-y>3", "-1 x-z>4", "1", "0"},
		"(a|b)*abb":       {"-1 a>1 b>0", "-1 a>1 b>2", "-1 a>1 b>3", "0 a>1 b>0"},
		"[a-z]+ if [b-e]": {"-1 a>1 b-e>2 f-h>1 i>3 j-z>1", "0 a-z>1", "0 a-z>1", "0 a-e>1 f>4 g-z>1", "0 a-z>1"},
		// parts that begin below others, but go on above them
		"[az] [m-p]": {"-1 a>1 m-p>2 z>1", "0", "1"},
		"[m-p] [az]": {"-1 a>1 m-p>2 z>1", "1", "0"},
		// bytes 0 and 255
		`\x00 \xff`:               {"-1 0>1 255>2", "0", "1"},
		`\xff \x00`:               {"-1 0>1 255>2", "1", "0"},
		`[\x00-\xff]`:             {"-1 0-255>1", "0"},
		`[\x00-\xff]*`:            {"0 0-255>0"},
		`[^a]\xff?`:               {"-1 0-96>1 b-255>1", "0 255>2", "0"},
		".":                       {"-1 0-9>1 11-255>1", "0"},
		`[\x80-\xff] [\x00-\x80]`: {"-1 0-127>1 128>2 129-255>3", "1", "0", "0"},
	} {
		l := rules(t, strings.Fields(name)...)
		d := built(t, l)
		if got := short(d); !slices.Equal(got, want) {
			t.Errorf("Build of %q = %q, want %q", name, got, want)
		}
		if !dfa.Right(d) {
			t.Errorf("Build of %q isn't right", name)
		}
	}
}

// TestBuildExampleAccepts is the chapter's example, by texts.
func TestBuildExampleAccepts(t *testing.T) {
	d := built(t, rules(t, "ab", "a"))
	for s, want := range map[string][2]int{"": {0, -1}, "a": {1, 1}, "ab": {2, 0}, "b": {-1, -1}, "aa": {-1, -1}, "abb": {-1, -1}, "ba": {-1, -1}} {
		if state, rule := dfa.Go(d, s), dfa.Accepts(d, s); state != want[0] || rule != want[1] {
			t.Errorf("%q: %d, %d", s, state, rule)
		}
	}
}

// wrong are cells that are no right rule.
func wrong() map[string]cells {
	a := one('a')
	return map[string]cells{
		"nil": nil, "no cells": {}, "61 cells": slices.Concat(cells{a}, slices.Repeat(cells{star}, 60)), "very many": slices.Repeat(cells{a}, 100000),
		"star of none": {star}, "cat of one": {a, cat}, "or of none": {or}, "cat ahead": {cat, a, a}, "two left over": {a, a}, "a zero set": {of(api.Set{})}, "a zero set deep": {a, of(api.Set{}), cat},
		"a set in empty": {{Op: api.REmpty, Set: bytes.One('x')}}, "a set in star": {a, {Op: api.RStar, Set: bytes.One('x')}}, "kind 0": {op(0)}, "kind 8": {a, op(8)}, "the least kind": {a, op(-1 << 63)},
	}
}

func TestBuildWrong(t *testing.T) {
	good := rules(t, "a", "b*", "[0-9]+")
	full := rules(t, "(a|b)*a(a|b)(a|b)(a|b)(a|b)(a|b)(a|b)(a|b)(a|b)")[0]
	for name, l := range wrong() {
		if !refused([]cells{l}, api.ErrForm) {
			t.Errorf("%s: alone", name)
		}
		for at := range len(good) + 1 {
			if !refused(slices.Insert(slices.Clone(good), at, l), api.ErrForm) {
				t.Errorf("%s: among right ones at %d", name, at)
			}
		}
		if !refused([]cells{full, l}, api.ErrForm) || !refused([]cells{l, full}, api.ErrForm) {
			t.Errorf("%s: beside one that needs too many states", name)
		}
		if !refused(slices.Repeat([]cells{l}, 17), api.ErrForm) {
			t.Errorf("%s: 17 times", name)
		}
	}
}

func TestBuildHowMany(t *testing.T) {
	if d, e := dfa.Build(nil); e != api.OK || !slices.Equal(short(d), []string{"-1"}) || !dfa.Right(d) || dfa.Go(d, "") != 0 || dfa.Accepts(d, "") != -1 || dfa.Go(d, "a") != -1 {
		t.Error("nil", e, short(d))
	}
	if d, e := dfa.Build([]cells{}); e != api.OK || !slices.Equal(short(d), []string{"-1"}) {
		t.Error("no rules", e, short(d))
	}
	var l []cells
	for n := range 17 {
		l = append(l, cells{one(byte('a' + n))})
	}
	want := []string{"-1"}
	for n := range 16 {
		want[0] += " " + sign('a'+n) + ">" + strconv.Itoa(n+1)
		want = append(want, strconv.Itoa(n))
	}
	if got := short(built(t, l[:16])); !slices.Equal(got, want) {
		t.Error("16 rules:", got)
	}
	if got := short(built(t, slices.Repeat(l[:1], 16))); !slices.Equal(got, []string{"-1 a>1", "0"}) {
		t.Error("16 times the same rule:", got)
	}
	full := rules(t, "(a|b)*a(a|b)(a|b)(a|b)(a|b)(a|b)(a|b)(a|b)(a|b)")
	for _, many := range [][]cells{l, slices.Repeat(l[:1], 17), slices.Repeat(l[:1], 1000), slices.Repeat(full, 17), slices.Concat(l, full)} {
		if !refused(many, api.ErrForm) {
			t.Errorf("%d rules", len(many))
		}
	}
}

// lines are n rules, each of so many bytes in a line that no other begins with.
func lines(n, long int) []cells {
	var out []cells
	for r := range n {
		l := cells{one(byte(r))}
		for range long - 1 {
			l = append(l, one('x'), cat)
		}
		out = append(out, l)
	}
	return out
}

// TestBuildFull: lines of bytes have a state behind each byte, and one ahead of all.
func TestBuildFull(t *testing.T) {
	near := append(lines(7, 30), lines(8, 29)[7])
	d := built(t, near)
	if len(d.Next) != 240 || !dfa.Right(d) {
		t.Error("8 lines, one of them shorter:", len(d.Next))
	}
	for r := range near {
		long := 30 - r/7
		if s := string([]byte{byte(r)}) + strings.Repeat("x", long-1); dfa.Accepts(d, s) != r || dfa.Accepts(d, s[:long-1]) != -1 || dfa.Accepts(d, s+"x") != -1 {
			t.Error("line", r)
		}
	}
	if got := len(built(t, append(near, near...)).Next); got != 240 {
		t.Error("16 lines, each twice:", got)
	}
	if !refused(lines(8, 30), api.ErrFull) || !refused(append(near, cells{one('z')}), api.ErrFull) || !refused(lines(16, 30), api.ErrFull) {
		t.Error("too many states")
	}
	if got := len(built(t, append(near, cells{empty}, near[0][:57])).Next); got != 240 {
		t.Error("with the empty text, and what begins a line:", got)
	}
	for n := range 12 {
		l := rules(t, "(a|b)*a"+strings.Repeat("(a|b)", n))
		if n >= 7 {
			if !refused(l, api.ErrFull) {
				t.Error("the bytes last read:", n)
			}
		} else if got := len(built(t, l).Next); got != 2<<n {
			t.Error("the bytes last read:", n, got)
		}
	}
}

// bySpots tells the automaton as the chapter's words do: states are lists of spots and ends, told with their rules, each byte is tried. Beyond max states it gives up.
func bySpots(t *testing.T, l []cells, max int) (api.DFA, bool) {
	t.Helper()
	const end = 1000
	var all []api.Spots
	var first []int
	for r, c := range l {
		p, e := spots.Of(c)
		if e != api.OK {
			t.Fatal(c, e)
		}
		all = append(all, p)
		for _, n := range p.First {
			first = append(first, r+n*100)
		}
		if p.Null {
			first = append(first, r+end*100)
		}
	}
	states := [][]int{sets.Of(first)}
	var d api.DFA
	for at := 0; at < len(states) && len(states) <= max; at++ {
		d.Accept = append(d.Accept, -1)
		for r := len(l) - 1; r >= 0; r-- {
			if sets.Has(states[at], r+end*100) {
				d.Accept[at] = r
			}
		}
		var row []int
		for b := range 256 {
			var next []int
			for _, one := range states[at] {
				r, n := one%100, one/100
				if n == end || !bytes.Has(all[r].Sets[n], byte(b)) {
					continue
				}
				for _, m := range all[r].Follow[n] {
					next = append(next, r+m*100)
				}
				if sets.Has(all[r].Last, n) {
					next = append(next, r+end*100)
				}
			}
			row = append(row, -1)
			if next = sets.Of(next); next != nil {
				row[b] = slices.IndexFunc(states, func(s []int) bool { return slices.Equal(s, next) })
				if row[b] < 0 {
					row[b] = len(states)
					states = append(states, next)
				}
			}
		}
		d.Next = append(d.Next, row)
	}
	return d, len(states) <= max
}

// every goes through all right rules of at most n of these cells.
func every(n int, kinds cells) []cells {
	var out []cells
	var grow func(l cells)
	grow = func(l cells) {
		if regex.Right(l) {
			out = append(out, l)
		}
		if len(l) < n {
			for _, c := range kinds {
				grow(append(l[:len(l):len(l)], c))
			}
		}
	}
	grow(nil)
	return out
}

func kinds() cells {
	return cells{one('a'), one('b'), of(bytes.Span('a', 'b')), empty, cat, or, star, plus, opt}
}

// TestBuildOfAll: at all short rules, and all pairs of very short ones, Build is as the chapter's words tell it.
func TestBuildOfAll(t *testing.T) {
	hold := func(l ...cells) {
		if want, _ := bySpots(t, l, api.MaxStates); !same(built(t, l), want) {
			t.Fatalf("Build(%v) = %q, want %q", l, short(built(t, l)), short(want))
		}
	}
	for _, l := range every(5, kinds()) {
		hold(l)
	}
	pairs := every(3, cells{one('a'), of(bytes.Or(bytes.One(0), bytes.One('a'))), of(bytes.Span('a', 255)), cat, or, star})
	for _, l := range pairs {
		for _, m := range pairs {
			hold(l, m)
		}
	}
}

// ends tells up to where the rule that ends l may fit s from places on, and how many cells are ahead of it: what a rule fits, without spots.
func ends(l cells, s string, from map[int]bool) (map[int]bool, int) {
	at := len(l) - 1
	out := map[int]bool{}
	switch c := l[at]; c.Op {
	case api.RSet:
		for n := range from {
			if n < len(s) && bytes.Has(c.Set, s[n]) {
				out[n+1] = true
			}
		}
		return out, at
	case api.REmpty:
		return from, at
	case api.RCat, api.ROr:
		_, middle := ends(l[:at], s, nil)
		first, rest := ends(l[:middle], s, from)
		if c.Op == api.RCat {
			out, _ = ends(l[:at], s, first)
			return out, rest
		}
		second, _ := ends(l[:at], s, from)
		maps.Copy(out, first)
		maps.Copy(out, second)
		return out, rest
	default:
		once, rest := ends(l[:at], s, from)
		maps.Copy(out, once)
		if c.Op != api.ROpt {
			for more := 0; more != len(out); {
				more = len(out)
				again, _ := ends(l[:at], s, out)
				maps.Copy(out, again)
			}
		}
		if c.Op != api.RPlus {
			maps.Copy(out, from)
		}
		return out, rest
	}
}

// fits tells whether a right rule fits a text.
func fits(l cells, s string) bool {
	out, _ := ends(l, s, map[int]bool{0: true})
	return out[len(s)]
}

// firstThatFits tells the first of the rules that fits a text, or -1.
func firstThatFits(l []cells, s string) int {
	return slices.IndexFunc(l, func(c cells) bool { return fits(c, s) })
}

// texts are all of at most n of these signs.
func texts(n int, signs string) []string {
	out := []string{""}
	for from := 0; n > 0; n-- {
		end := len(out)
		for _, s := range out[from:end] {
			for i := range len(signs) {
				out = append(out, s+signs[i:i+1])
			}
		}
		from = end
	}
	return out
}

// TestAcceptsOfAll: at all short rules, and lists of three of them, texts are accepted by the first rule that fits.
func TestAcceptsOfAll(t *testing.T) {
	few := append(texts(3, "ab"), "c", "ac", "ca", "aaaaaa", "ababab", "bbbbba")
	told := map[int]int{}
	hold := func(l ...cells) {
		d := built(t, l)
		for _, s := range few {
			want := firstThatFits(l, s)
			if got := dfa.Accepts(d, s); got != want {
				t.Fatalf("Accepts(Build(%v), %q) = %d, want %d", l, s, got, want)
			}
			told[want]++
		}
	}
	all := every(5, kinds())
	for i, l := range all {
		hold(l)
		hold(l, all[(i*7+3)%len(all)], all[(i*13+5)%len(all)])
	}
	for _, rule := range []int{-1, 0, 1, 2} {
		if told[rule] < 100 {
			t.Error("too few are accepted by", rule, told[rule])
		}
	}
}

// dice tells numbers that look like chance, but are the same in each run.
type dice uint32

func (d *dice) below(n int) int {
	*d = *d*1664525 + 1013904223
	return int(uint64(*d) * uint64(n) >> 32)
}

// grown is a rule of at most n cells.
func (d *dice) grown(n int) cells {
	switch {
	case n == 1 && d.below(8) == 0:
		return cells{empty}
	case n == 1:
		from := d.below(5)
		return cells{of(bytes.Span(byte('a'+from), byte('a'+from+d.below(5-from))))}
	case n == 2 || d.below(4) == 0:
		return append(d.grown(n-1), cells{star, plus, opt}[d.below(3)])
	}
	left := 1 + d.below(n-2)
	return append(slices.Concat(d.grown(left), d.grown(n-1-left)), cells{cat, cat, or}[d.below(3)])
}

// TestBuildOfGreat: likewise of many rules at once, up to 60 cells each, and longer texts.
func TestBuildOfGreat(t *testing.T) {
	d := dice(11)
	told := map[int]int{}
	full := 0
	for range 150 {
		var l []cells
		for range 1 + d.below(16) {
			l = append(l, d.grown(2+d.below(59)/(1+len(l))))
		}
		want, room := bySpots(t, l, api.MaxStates)
		if !room {
			full++
			if !refused(l, api.ErrFull) {
				t.Fatalf("Build(%v) isn't refused", l)
			}
			continue
		}
		made := built(t, l)
		if !same(made, want) || !dfa.Right(made) {
			t.Fatalf("Build(%v) = %q, want %q", l, short(made), short(want))
		}
		for range 20 {
			s := ""
			for range d.below(12) {
				s += "abcdef"[d.below(6):][:1]
			}
			rule := firstThatFits(l, s)
			if got := dfa.Accepts(made, s); got != rule {
				t.Fatalf("Accepts(Build(%v), %q) = %d, want %d", l, s, got, rule)
			}
			told[min(rule, 2)]++
		}
	}
	if told[-1] < 100 || told[0] < 100 || told[1] < 50 || told[2] < 50 || full < 3 || full > 100 {
		t.Error("too few of a kind:", told, full)
	}
}

// TestBuildWide: as many spots as there may be, of which each has other bytes, and all come behind all: by a byte just those rules go on whose bit it has.
func TestBuildWide(t *testing.T) {
	var l []cells
	for r := range 16 {
		var rule cells
		for n := range 30 {
			var set api.Set
			for b := range 256 {
				if b>>(r%8)&1 == 1 && (b+n)%(3+n%3*2) == 0 {
					set = bytes.Or(set, bytes.One(byte(b)))
				}
			}
			if rule = append(rule, of(set)); n > 0 {
				rule = append(rule, or)
			}
		}
		l = append(l, append(rule, plus))
	}
	want, room := bySpots(t, l[:3], api.MaxStates)
	if !room || !same(built(t, l[:3]), want) {
		t.Error("3 of them")
	}
	if !refused(l, api.ErrFull) {
		t.Error("all of them")
	}
	if got := len(built(t, append(l[:7:7], l[:7]...)).Next); got != 128 {
		t.Error("7 of them, each twice:", got)
	}
}

// TestMemory: what is handed in stays as it was, spare room too; what is answered shares no memory with another list of it, nor with another answer (R4).
func TestMemory(t *testing.T) {
	want := rules(t, "ab*|c", "[a-d]+", "()", "a*")
	var l []cells
	for _, c := range want {
		l = append(l, append(slices.Clone(c), one('z'))[:len(c)])
	}
	l = append(l, cells{one('z')})[:len(l)]
	d, e := built(t, l), built(t, l)
	fine := copied(d)
	for n, c := range l {
		if !slices.Equal(c, want[n]) || c[:len(c)+1][len(c)] != one('z') {
			t.Error("changed rule", n)
		}
	}
	if room := l[:5]; !slices.Equal(room[4], cells{one('z')}) {
		t.Error("changed behind the rules")
	}
	mark := 1000
	for _, x := range []api.DFA{d, e} {
		for _, row := range append(slices.Clone(x.Next), x.Accept) {
			mark++
			row = row[:cap(row)]
			for i := range row {
				if row[i] >= 1000 {
					t.Fatal("lists of answers share memory")
				}
				row[i] = mark
			}
		}
		clear(x.Next[:cap(x.Next)])
	}
	if !same(built(t, l), fine) || !same(built(t, want), fine) {
		t.Error("what is done to an answer is seen later")
	}
}

// TestAgain: answers hang on arguments alone, whatever came ahead, and whoever else asks at the same time (R5).
func TestAgain(t *testing.T) {
	l := rules(t, "(a|b)*abb", "[a-z]+", "if|else", "a*")
	want := built(t, l)
	other := rules(t, "x*", "[0-9]+")
	var all sync.WaitGroup
	for range 8 {
		all.Go(func() {
			for range 20 {
				dfa.Build(other)
				dfa.Build([]cells{nil})
				dfa.Build(lines(16, 30))
				if d, e := dfa.Build(l); e != api.OK || !same(d, want) || dfa.Accepts(want, "babb") != 0 || dfa.Go(want, "1") != -1 || !dfa.Right(want) {
					t.Error("another answer")
				}
			}
		})
	}
	all.Wait()
}
