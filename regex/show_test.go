package regex_test

import (
	"slices"
	"strconv"
	"strings"
	"sync"
	"testing"

	"topiary/api"
	"topiary/bytes"
	"topiary/regex"
)

func showsAs(t *testing.T, l cells, want string) {
	t.Helper()
	if s, e := regex.Show(l); s != want || e != api.OK {
		t.Errorf("Show(%v) = %q, %d, want %q", l, s, e, want)
	}
}

func TestShowJoins(t *testing.T) {
	a, b, c := one('a'), one('b'), one('c')
	for want, l := range map[string]cells{
		"a": {a}, "()": {empty}, "a|b": {a, b, or}, "ab": {a, b, cat}, "a*": {a, star}, "a+": {a, plus}, "a?": {a, opt},
		"(a|b)c": {a, b, or, c, cat}, "a(b|c)": {a, b, c, or, cat}, "ab|c": {a, b, cat, c, or}, "a|bc": {a, b, c, cat, or},
		"abc": {a, b, cat, c, cat}, "a(bc)": {a, b, c, cat, cat}, "a|b|c": {a, b, or, c, or}, "a|(b|c)": {a, b, c, or, or},
		"a**": {a, star, star}, "a*+?": {a, star, plus, opt}, "(ab)*": {a, b, cat, star}, "(a|b)+": {a, b, or, plus}, "(ab)?": {a, b, cat, opt},
		"a*b": {a, star, b, cat}, "ab*": {a, b, star, cat}, "a*|b?": {a, star, b, opt, or}, "(a*b+)*": {a, star, b, plus, cat, star}, "(a|b)*c": {a, b, or, star, c, cat},
		"()*": {empty, star}, "()a": {empty, a, cat}, "a()": {a, empty, cat}, "()()": {empty, empty, cat}, "()|()": {empty, empty, or}, "a|()": {a, empty, or}, "(()|a)b": {empty, a, or, b, cat}, "(a())*": {a, empty, cat, star},
		"((a|b)(c|a))*":     {a, b, or, c, a, or, cat, star},
		"a(b(c(ab)))":       {a, b, c, a, b, cat, cat, cat, cat},
		"a|(b|(c|a))":       {a, b, c, a, or, or, or},
		"((a|b)*|c)?":       {a, b, or, star, c, or, opt},
		"[a-c]*.":           {span('a', 'c'), star, point(), cat},
		"\\x00(\\n|[\\t ])": {one(0), one(10), some("\t "), or, cat},
	} {
		showsAs(t, l, want)
		readsAs(t, want, l)
	}
}

func TestShowBytes(t *testing.T) {
	for b := range 256 {
		want := `\x` + strconv.FormatInt(int64(b)+256, 16)[1:]
		switch {
		case b == 10:
			want = `\n`
		case b == 9:
			want = `\t`
		case b == 13:
			want = `\r`
		case strings.IndexByte(`.*+?()[]|\/`, byte(b)) >= 0:
			want = `\` + string(rune(b))
		case b >= 32 && b <= 126:
			want = string(rune(b))
		}
		showsAs(t, cells{one(byte(b))}, want)
		readsAs(t, want, cells{one(byte(b))})
	}
	for b, want := range map[byte]string{0: `\x00`, 31: `\x1f`, 32: " ", 126: "~", 127: `\x7f`, 255: `\xff`, 0xab: `\xab`, '-': "-", '^': "^", '/': `\/`, ']': `\]`} {
		showsAs(t, cells{one(b)}, want)
	}
}

func TestShowSets(t *testing.T) {
	for want, c := range map[string]api.Cell{
		".": point(), `[\x00-\xff]`: all(), `[\x01-\xff]`: others(one(0)), `[\x00-\xfe]`: others(one(255)), `[\x00-\n\x0c-\xff]`: others(one(11)), `[\x00-\x08\n-\xff]`: others(one(9)),
		`[\x00-\t\x0b-\xfe]`: others(some("\n\xff")),
		"[ab]":               some("ab"), "[a-c]": span('a', 'c'), "[a-d]": span('a', 'd'), "[ac]": some("ac"), "[a-cx]": some("abcx"), "[abxy]": some("abxy"), "[a-cx-z]": some("xyzabc"), "[0a-cyz]": some("abc0zy"), "[ace]": some("eca"),
		`[\-ab]`: some("ab-"), `[\^a]`: some("^a"), `[\[\]]`: some("[]"), `[\[-\]]`: span('[', ']'), `[\[-\^]`: span('[', '^'), `[\\a]`: some(`\a`), `[\/0]`: some("/0"), `[.\/]`: some("./"), `[\--\/]`: span('-', '/'), `[,\-]`: some(",-"), `[*+.?|]`: some("*+.?|"), "[()]": some("()"), "[(-+]": span('(', '+'),
		`[\t\n]`: some("\t\n"), `[\t-\r]`: span(9, 13), `[\t\n\r ]`: some(" \t\r\n"), `[\n-\r]`: span(10, 13), `[\x08\t]`: some("\x08\t"), `[\r\x0e]`: some("\r\x0e"),
		`[\x00\x01]`: some("\x00\x01"), `[\x00-\x02]`: span(0, 2), `[\x00\xff]`: some("\x00\xff"), `[\x1f ]`: some("\x1f "), `[\x1f-!]`: span(31, 33), `[~\x7f]`: some("~\x7f"), `[}-\x7f]`: span(125, 127), `[ -~]`: span(32, 126), `[\xfe\xff]`: some("\xff\xfe"), `[\xfd-\xff]`: span(253, 255), `[\x7f-\xff]`: span(127, 255), `[?@]`: some("?@"), `[>-@]`: span(62, 64),
	} {
		showsAs(t, cells{c}, want)
		readsAs(t, want, cells{c})
	}
}

// TestShowSpans: each set of one run, and each that such a run lacks, is read again as it was, and no class begins with ^.
func TestShowSpans(t *testing.T) {
	for from := range 256 {
		for to := from; to < 256; to++ {
			for _, c := range []api.Cell{span(byte(from), byte(to)), others(span(byte(from), byte(to)))} {
				if bytes.Count(c.Set) == 0 {
					continue
				}
				s, e := regex.Show(cells{c})
				if l, _, f := regex.Parse(s); e != api.OK || f != api.OK || !slices.Equal(l, cells{c}) || strings.HasPrefix(s, "[^") {
					t.Fatalf("Show of %d to %d = %q, %d", from, to, s, e)
				}
			}
		}
	}
}

// bare is s without the parentheses at two places.
func bare(s string, open, end int) string {
	return s[:open] + s[open+1:end] + s[end+1:]
}

// pairs are the places of parentheses that belong together, but those with nothing between, in a text without classes and \.
func pairs(s string) [][2]int {
	var open []int
	var out [][2]int
	for i := range len(s) {
		switch s[i] {
		case '(':
			open = append(open, i)
		case ')':
			last := open[len(open)-1]
			open = open[:len(open)-1]
			if i > last+1 {
				out = append(out, [2]int{last, i})
			}
		}
	}
	return out
}

// TestShowOfAll: at all short rules, Parse tells them again, and without any of its pairs of parentheses a text is read otherwise.
func TestShowOfAll(t *testing.T) {
	rules, parentheses := 0, 0
	every(7, cells{one('a'), empty, cat, or, star}, func(l cells) {
		if !regex.Right(l) {
			return
		}
		rules++
		s, e := regex.Show(l)
		if back, at, f := regex.Parse(s); e != api.OK || f != api.OK || at != 0 || !slices.Equal(back, l) {
			t.Fatalf("Show(%v) = %q, %d", l, s, e)
		}
		for _, p := range pairs(s) {
			parentheses++
			if other, _, _ := regex.Parse(bare(s, p[0], p[1])); slices.Equal(other, l) {
				t.Fatalf("Show(%v) = %q, with needless parentheses at %d", l, s, p[0])
			}
		}
	})
	if rules < 1000 || parentheses < 1000 {
		t.Error("too few:", rules, parentheses)
	}
}

func TestShowGreat(t *testing.T) {
	a := one('a')
	showsAs(t, row(30, cat), strings.Repeat("a", 30))
	showsAs(t, row(30, or), "a"+strings.Repeat("|a", 29))
	showsAs(t, wrapped(cells{a}, 59, opt), "a"+strings.Repeat("?", 59))
	showsAs(t, wrapped(row(30, or), 1, star), "("+"a"+strings.Repeat("|a", 29)+")*")
	showsAs(t, join(slices.Repeat(cells{a}, 30), slices.Repeat(cells{cat}, 29)), strings.Repeat("a(", 28)+"aa"+strings.Repeat(")", 28))
	// A text beyond what Parse takes is told all the same.
	var even api.Cell
	text := ""
	for b := 128; b < 256; b += 2 {
		even = of(bytes.Or(even.Set, bytes.One(byte(b))))
		text += `\x` + strconv.FormatInt(int64(b), 16)
	}
	showsAs(t, cells{even}, "["+text+"]")
	isFull(t, "["+text+"]")
	var l cells
	want := ""
	for i := range 30 {
		l = append(l, even)
		if i > 0 {
			l = append(l, cat)
		}
		want += "[" + text + "]"
	}
	showsAs(t, l, want)
}

// roomy is l with spare room behind it, in which there are cells that a call must leave alone.
func roomy(l cells) cells {
	out := append(make(cells, 0, len(l)+4), l...)
	for i := len(l); i < cap(out); i++ {
		out[:cap(out)][i] = api.Cell{Op: i, Set: bytes.One(byte(i))}
	}
	return out
}

// fill writes a cell all over a list and its spare room.
func fill(l cells, c api.Cell) {
	l = l[:cap(l)]
	for i := range l {
		l[i] = c
	}
}

// TestMemory: nothing that is handed in is changed, and no answer shares memory with another, spare room included (R4).
func TestMemory(t *testing.T) {
	lists := []cells{nil, {one('a')}, {one('a'), star, one('b'), cat}, row(30, or), row(31, or), {star}, {one('a'), one('b')}}
	for _, l := range lists {
		in := roomy(l)
		whole := slices.Clone(in[:cap(in)])
		right, null := regex.Right(in), regex.Null(in)
		text, e := regex.Show(in)
		if !slices.Equal(in[:cap(in)], whole) {
			t.Errorf("an argument was changed: %v", l)
		}
		other, f := regex.Show(l)
		if right != regex.Right(l) || null != regex.Null(l) || text != other || e != f {
			t.Errorf("spare room is seen in an answer: %v", l)
		}
	}
	for _, s := range []string{"a", "()", "a|b*", "(ab)+c", strings.Repeat("a", 30)} {
		first, _, _ := regex.Parse(s)
		want := slices.Clone(first)
		second, _, _ := regex.Parse(s)
		fill(first, one('x'))
		if !slices.Equal(second, want) {
			t.Errorf("two answers of %q share memory", s)
		}
		fill(second, one('y'))
		readsAs(t, s, want)
	}
}

// TestSideBySide: calls from several goroutines at once, faults among them, answer what they answer alone (R5).
func TestSideBySide(t *testing.T) {
	var wait sync.WaitGroup
	for n := range 8 {
		wait.Go(func() {
			for range 50 {
				readsAs(t, strings.Repeat("a", n+1), row(n+1, cat))
				faultAt(t, strings.Repeat("(", n)+"]", n)
				showsAs(t, row(n+1, or), "a"+strings.Repeat("|a", n))
			}
		})
	}
	wait.Wait()
}
