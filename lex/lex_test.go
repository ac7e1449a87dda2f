package lex_test

import (
	"math"
	"slices"
	"strings"
	"sync"
	"testing"

	"topiary/api"
	"topiary/dfa"
	"topiary/lex"
	"topiary/regex"
)

// still is an automaton of n states that leads nowhere and accepts nothing.
func still(n int) api.DFA {
	var d api.DFA
	for range n {
		d.Next = append(d.Next, slices.Repeat([]int{-1}, 256))
		d.Accept = append(d.Accept, -1)
	}
	return d
}

// with is d, changed.
func with(d api.DFA, changes ...func(d *api.DFA)) api.DFA {
	for _, change := range changes {
		change(&d)
	}
	return d
}

// lead makes a state lead to another one by a byte.
func lead(state int, b byte, to int) func(d *api.DFA) {
	return func(d *api.DFA) { d.Next[state][b] = to }
}

// accept makes a state accept a rule.
func accept(state, rule int) func(d *api.DFA) {
	return func(d *api.DFA) { d.Accept[state] = rule }
}

// rowLong makes a state's row n numbers long, each of them a state's.
func rowLong(state, n int) func(d *api.DFA) {
	return func(d *api.DFA) { d.Next[state] = make([]int, n) }
}

// wrongOnes are automata that aren't right; those that could be gone through nevertheless accept the byte a.
func wrongOnes() map[string]api.DFA {
	a := func(n int) api.DFA { return with(still(n), lead(0, 'a', n-1), accept(n-1, 0)) }
	return map[string]api.DFA{
		"nothing": {}, "no state": {Next: [][]int{}, Accept: []int{}}, "241 states": a(241), "very many": a(5000),
		"Next alone": {Next: a(1).Next}, "Accept alone": {Accept: []int{0}}, "one Accept fewer": {Next: a(3).Next, Accept: []int{-1, 0}}, "one more": {Next: a(2).Next, Accept: []int{-1, 0, 0}},
		"240 and 241": {Next: a(240).Next, Accept: make([]int, 241)}, "241 and 240": {Next: a(241).Next, Accept: make([]int, 240)},
		"a row of none": with(a(1), rowLong(0, 0)), "a nil row": {Next: [][]int{nil}, Accept: []int{0}}, "a row of 255": with(a(1), rowLong(0, 255)), "a row of 257": with(a(1), rowLong(0, 257)),
		"the last row of 255": with(a(3), rowLong(2, 255)), "the last row of 257": with(a(3), rowLong(2, 257)), "a row between": with(a(3), rowLong(1, 0)),
		"to -2": with(a(2), lead(0, 'b', -2)), "to the least": with(a(2), lead(0, 'a', math.MinInt)), "to 1 of 1": with(a(1), lead(0, 'a', 1)), "to 3 of 3": with(a(3), lead(0, 'a', 3)),
		"to 240 of 240": with(a(240), lead(0, 'a', 240)), "to the greatest": with(a(2), lead(0, 'a', math.MaxInt)), "by byte 0": with(a(2), lead(0, 0, 2)), "by byte 255": with(a(2), lead(0, 255, 2)),
		"of one that nothing leads to": with(a(3), lead(1, 255, -2)), "of the last": with(a(3), lead(2, 128, 3)),
		"accepts -2": with(a(2), accept(0, -2)), "the last accepts -2": with(a(3), accept(2, -2)), "accepts the least": with(a(3), accept(1, math.MinInt)),
	}
}

// built is the automaton of rules' texts, with blanks between.
func built(t *testing.T, texts string) api.DFA {
	t.Helper()
	d, e := dfa.Build(rules(t, texts))
	if e != api.OK {
		t.Fatalf("Build(%q): %d", texts, e)
	}
	return d
}

// rules are those of texts with blanks between.
func rules(t *testing.T, texts string) [][]api.Cell {
	t.Helper()
	var out [][]api.Cell
	for _, s := range strings.Fields(texts) {
		c, _, e := regex.Parse(s)
		if e != api.OK {
			t.Fatalf("Parse(%q): %d", s, e)
		}
		out = append(out, c)
	}
	return out
}

// copied shares no memory with d.
func copied(d api.DFA) api.DFA {
	e := api.DFA{Accept: slices.Clone(d.Accept)}
	for _, row := range d.Next {
		e.Next = append(e.Next, slices.Clone(row))
	}
	return e
}

// same tells whether two are the same, nil and empty lists being one.
func same(d, e api.DFA) bool {
	return slices.Equal(d.Accept, e.Accept) && slices.EqualFunc(d.Next, e.Next, slices.Equal[[]int])
}

// texts are all of at most n of these signs.
func texts(n int, signs string) []string {
	out := []string{""}
	for from := 0; n > 0; n-- {
		end := len(out)
		for _, s := range out[from:end] {
			for i := range len(signs) {
				out = append(out, s+signs[i:i+1])
			}
		}
		from = end
	}
	return out
}

// answer is what One tells.
type answer struct {
	token api.Token
	seen  int
	err   api.Errno
}

func one(d api.DFA, s string, at int) answer {
	token, seen, e := lex.One(d, s, at)
	return answer{token, seen, e}
}

// match is the answer that there is one.
func match(rule, at, long, seen int) answer {
	return answer{api.Token{Rule: rule, At: at, Len: long}, seen, api.OK}
}

// none is the answer that there is no match.
func none(seen int) answer { return answer{seen: seen, err: api.ErrNone} }

// bad is the answer of an argument that may not be.
var bad = answer{err: api.ErrArg}

func TestOneWrong(t *testing.T) {
	for name, d := range wrongOnes() {
		for _, s := range []string{"", "a", "aa", "b", "\x00\xff"} {
			for _, at := range []int{math.MinInt, -1, 0, 1, len(s), len(s) + 1, math.MaxInt} {
				if got := one(d, s, at); got != bad {
					t.Errorf("%s: One of %q at %d: %v", name, s, at, got)
				}
			}
		}
	}
}

func TestAllWrong(t *testing.T) {
	for name, d := range wrongOnes() {
		for _, s := range []string{"", "a", "aa", "b", "\x00\xff", strings.Repeat("a", 5000)} {
			if l, at := lex.All(d, s); len(l) != 0 || at != 0 {
				t.Errorf("%s: All of %.9q: %v, %d", name, s, l, at)
			}
			if l := lex.Seen(d, s); len(l) != 0 {
				t.Errorf("%s: Seen of %.9q: %v", name, s, l)
			}
		}
	}
}

// TestOnePlaces: a place must be one of the text, or its end.
func TestOnePlaces(t *testing.T) {
	for _, d := range []api.DFA{built(t, "a+"), built(t, "a*"), built(t, ""), still(1), still(240)} {
		for _, s := range []string{"", "a", "b", "aab"} {
			for _, at := range []int{math.MinInt, -1 << 32, -2, -1, len(s) + 1, len(s) + 2, 1 << 32, math.MaxInt} {
				if got := one(d, s, at); got != bad {
					t.Errorf("One of %q at %d: %v", s, at, got)
				}
			}
			if got := one(d, s, len(s)); got != none(len(s)+1) {
				t.Errorf("One of %q at its end: %v", s, got)
			}
		}
	}
}

func TestOneExamples(t *testing.T) {
	for _, c := range []struct {
		rules, text string
		at          int
		want        answer
	}{
		// the chapter's own
		{"a ab b+", "abba", 0, match(1, 0, 2, 3)},
		{"a ab b+", "abba", 1, match(2, 1, 2, 4)},
		{"a ab b+", "abba", 2, match(2, 2, 1, 4)},
		{"a ab b+", "abba", 3, match(0, 3, 1, 5)},
		{"a ab b+", "abba", 4, none(5)},
		{"a ab b+", "abc", 0, match(1, 0, 2, 3)},
		{"a ab b+", "abc", 1, match(2, 1, 1, 3)},
		{"a ab b+", "abc", 2, none(3)},
		// an empty match is none
		{"a*", "", 0, none(1)},
		{"a*", "b", 0, none(1)},
		{"a*", "b", 1, none(2)},
		{"a*", "ab", 1, none(2)},
		{"a*", "aab", 0, match(0, 0, 2, 3)},
		{"()", "a", 0, none(1)},
		{"()", "", 0, none(1)},
		{"a? b", "cb", 0, none(1)},
		{"a? b", "cb", 1, match(1, 1, 1, 3)},
		{"() ab", "ac", 0, none(2)},
		{"() ab", "ac", 1, none(2)},
		{"(ab)*", "abac", 0, match(0, 0, 2, 4)},
		{"(ab)*", "abac", 2, none(4)},
		// the longest, whatever rule is the first
		{"a aa aaa", "aaaa", 0, match(2, 0, 3, 4)},
		{"aaa aa a", "aaaa", 0, match(0, 0, 3, 4)},
		{"a aa aaa", "aaaa", 2, match(1, 2, 2, 5)},
		{"aaa aa a", "aaaa", 2, match(1, 2, 2, 5)},
		{"a a+", "aaa", 0, match(1, 0, 3, 4)},
		{"a+ a", "aaa", 0, match(0, 0, 3, 4)},
		{"a+", "aaab", 1, match(0, 1, 2, 4)},
		// a match behind which it goes on without another one, and comes nowhere
		{"a abcde", "abcdx", 0, match(0, 0, 1, 5)},
		{"a abcde", "abxde", 0, match(0, 0, 1, 3)},
		{"a abcde", "axcde", 0, match(0, 0, 1, 2)},
		{"a abcde", "abcde", 0, match(1, 0, 5, 6)},
		{"a abcde", "abcdex", 0, match(1, 0, 5, 6)},
		{"a ab*c", "abbbbbx", 0, match(0, 0, 1, 7)},
		{"a (ab)+c", "ababx", 0, match(0, 0, 1, 5)},
		// or to the end
		{"a abcde", "a", 0, match(0, 0, 1, 2)},
		{"a abcde", "ab", 0, match(0, 0, 1, 3)},
		{"a abcde", "abcd", 0, match(0, 0, 1, 5)},
		{"a ab*c", "abbbbb", 0, match(0, 0, 1, 7)},
		{"a ab*c", "xabbbbb", 1, match(0, 1, 1, 8)},
		// several matches ahead of that
		{"a aaa aaaaaaa", "aaaaaa", 0, match(1, 0, 3, 7)},
		{"a aaa aaaaaaa", "aaaaab", 0, match(1, 0, 3, 6)},
		// several rules that fit the same bytes: the first one
		{"if [a-z]+", "if", 0, match(0, 0, 2, 3)},
		{"[a-z]+ if", "if", 0, match(0, 0, 2, 3)},
		{"if [a-z]+", "iff", 0, match(1, 0, 3, 4)},
		{"if [a-z]+", "i", 0, match(1, 0, 1, 2)},
		{"x a|b [ab] b", "b", 0, match(1, 0, 1, 2)},
		// no match, though it comes some way
		{"abc", "abx", 0, none(3)},
		{"abc", "ab", 0, none(3)},
		{"abc", "x", 0, none(1)},
		{"abc", "xab", 1, none(4)},
		{"a*b", "aaaac", 0, none(5)},
		{"a*b", "aaaac", 2, none(5)},
		{"a*b", "aaaa", 2, none(5)},
		{"", "a", 0, none(1)},
		{"", "", 0, none(1)},
		// bytes 0 and 255, and bytes of which several are one rune
		{`\x00 \xff \x00\xff`, "\x00\xff\xff", 0, match(2, 0, 2, 3)},
		{`\x00 \xff \x00\xff`, "\x00\xff\xff", 1, match(1, 1, 1, 3)},
		{`\x00 \xff \x00\xff`, "\x00\x00", 0, match(0, 0, 1, 2)},
		{`\x00 \xff \x00\xff`, "\x00", 0, match(0, 0, 1, 2)},
		{`[\x00-\xff]`, "\x00\xff", 1, match(0, 1, 1, 3)},
		{`[\x00-\xff]+`, "\x00\xff\x80\n", 0, match(0, 0, 4, 5)},
		{`[^a]+`, "\xff\x00aa", 0, match(0, 0, 2, 3)},
		{`[\x80-\xff]`, "é", 0, match(0, 0, 1, 2)},
		{`[\x80-\xff]`, "é", 1, match(0, 1, 1, 3)},
		{".+", "ab\ncd", 0, match(0, 0, 2, 3)},
		{".+", "ab\ncd", 2, none(3)},
	} {
		if got := one(built(t, c.rules), c.text, c.at); got != c.want {
			t.Errorf("One of %q by %q at %d: %v, want %v", c.text, c.rules, c.at, got, c.want)
		}
	}
}

// TestOneByHand: automata that no rules have.
func TestOneByHand(t *testing.T) {
	for name, c := range map[string]struct {
		d    api.DFA
		text string
		at   int
		want answer
	}{
		"a dead state is somewhere":      {with(still(2), lead(0, 'a', 1), lead(1, 'a', 1)), "aaab", 0, none(4)},
		"dead up to the end":             {with(still(2), lead(0, 'a', 1), lead(1, 'a', 1)), "aaa", 0, none(4)},
		"dead behind a match":            {with(still(3), lead(0, 'a', 1), lead(1, 'a', 2), lead(2, 'a', 2), accept(1, 3)), "aaab", 0, match(3, 0, 1, 4)},
		"back to state 0":                {with(still(1), lead(0, 'a', 0), accept(0, 2)), "aab", 0, match(2, 0, 2, 3)},
		"at the end, in state 0":         {with(still(1), lead(0, 'a', 0), accept(0, 2)), "aab", 3, none(4)},
		"back to 0, which alone accepts": {with(still(2), lead(0, 'a', 1), lead(1, 'b', 0), accept(0, 0)), "ababaa", 0, match(0, 0, 4, 6)},
		"a rule of one, then of another": {with(still(3), lead(0, 'a', 1), lead(1, 'a', 2), lead(2, 'a', 1), accept(1, 7), accept(2, 4)), "aaaa", 0, match(4, 0, 4, 5)},
		"and one fewer":                  {with(still(3), lead(0, 'a', 1), lead(1, 'a', 2), lead(2, 'a', 1), accept(1, 7), accept(2, 4)), "aaaa", 1, match(7, 1, 3, 5)},
		"the greatest rule":              {with(still(2), lead(0, 'a', 1), accept(1, math.MaxInt)), "ba", 1, match(math.MaxInt, 1, 1, 3)},
		"a match of state 0 at the end":  {with(still(1), accept(0, 0)), "", 0, none(1)},
		"one state that never ends":      {with(still(1), rowLong(0, 256), accept(0, 0)), "abc", 1, match(0, 1, 2, 4)},
		"one that never matches":         {with(still(1), rowLong(0, 256)), "abc", 1, none(4)},
		"by byte 0":                      {with(still(2), lead(0, 0, 1), accept(1, 0)), "\x00\xff", 0, match(0, 0, 1, 2)},
		"by byte 255":                    {with(still(2), lead(0, 255, 1), accept(1, 0)), "\x00\xff", 1, match(0, 1, 1, 3)},
		"not by byte 0":                  {with(still(2), lead(0, 255, 1), accept(1, 0)), "\x00\xff", 0, none(1)},
		"accepts in one never come to":   {with(still(3), lead(0, 'a', 1), accept(2, 0)), "a", 0, none(2)},
	} {
		if got := one(c.d, c.text, c.at); got != c.want {
			t.Errorf("%s: %v, want %v", name, got, c.want)
		}
	}
}

// cut is what All and Seen tell: of each token its rule, place, length and the place behind what was seen; and All's place.
func cut(t *testing.T, d api.DFA, s string) ([][4]int, int) {
	t.Helper()
	l, at := lex.All(d, s)
	seen := lex.Seen(d, s)
	if len(seen) != len(l) {
		t.Fatalf("of %.40q: %d tokens, Seen of %d", s, len(l), len(seen))
	}
	var out [][4]int
	for i, token := range l {
		out = append(out, [4]int{token.Rule, token.At, token.Len, seen[i]})
	}
	return out, at
}

func TestAllExamples(t *testing.T) {
	type rows = [][4]int
	for _, c := range []struct {
		rules, text string
		want        rows
		at          int
	}{
		// the chapter's own
		{"a ab b+", "abba", rows{{1, 0, 2, 3}, {2, 2, 1, 4}, {0, 3, 1, 5}}, -1},
		{"a ab b+", "abc", rows{{1, 0, 2, 3}}, 2},
		// the empty text
		{"a ab b+", "", nil, -1},
		{"a*", "", nil, -1},
		{"", "", nil, -1},
		// no token at all
		{"a ab b+", "c", nil, 0},
		{"a ab b+", "cab", nil, 0},
		{"a*", "b", nil, 0},
		{"()", "a", nil, 0},
		{"", "a", nil, 0},
		{"abc", "ab", nil, 0},
		// an empty match is no token, not even where another one ended
		{"a*", "aab", rows{{0, 0, 2, 3}}, 2},
		{"a* b", "aabaa", rows{{0, 0, 2, 3}, {1, 2, 1, 4}, {0, 3, 2, 6}}, -1},
		// cut off in the middle, at the last byte, ahead of what only begins a match
		{"a", "aaxa", rows{{0, 0, 1, 2}, {0, 1, 1, 3}}, 2},
		{"a", "aax", rows{{0, 0, 1, 2}, {0, 1, 1, 3}}, 2},
		{"a bcd", "abca", rows{{0, 0, 1, 2}}, 1},
		{"a bcd", "abc", rows{{0, 0, 1, 2}}, 1},
		// what was seen for one may be what was seen for the next, or beyond it
		{"a aaaab", "aaaac", rows{{0, 0, 1, 5}, {0, 1, 1, 5}, {0, 2, 1, 5}, {0, 3, 1, 5}}, 4},
		{"a b aba", "abb", rows{{0, 0, 1, 3}, {1, 1, 1, 3}, {1, 2, 1, 4}}, -1},
		{"a b c abcd", "abca", rows{{0, 0, 1, 4}, {1, 1, 1, 3}, {2, 2, 1, 4}, {0, 3, 1, 5}}, -1},
		{"a b abab", "aba", rows{{0, 0, 1, 4}, {1, 1, 1, 3}, {0, 2, 1, 4}}, -1},
		// the longest each, the first rule each
		{`if [a-z]+ \x20`, "if iff f", rows{{0, 0, 2, 3}, {2, 2, 1, 4}, {1, 3, 3, 7}, {2, 6, 1, 8}, {1, 7, 1, 9}}, -1},
		{"a aa aaa", "aaaaa", rows{{2, 0, 3, 4}, {1, 3, 2, 6}}, -1},
		// the longest each, even if shorter ones would cover more
		{"a+ ab b", "aab", rows{{0, 0, 2, 3}, {2, 2, 1, 4}}, -1},
		{"a+ ab", "aab", rows{{0, 0, 2, 3}}, 2},
		// bytes 0 and 255, runes, line ends
		{`\x00 \xff+`, "\x00\xff\xff\x00", rows{{0, 0, 1, 2}, {1, 1, 2, 4}, {0, 3, 1, 5}}, -1},
		{`[\x80-\xff]`, "é€", rows{{0, 0, 1, 2}, {0, 1, 1, 3}, {0, 2, 1, 4}, {0, 3, 1, 5}, {0, 4, 1, 6}}, -1},
		{`.+ \n`, "a\n\nb", rows{{0, 0, 1, 2}, {1, 1, 1, 3}, {1, 2, 1, 4}, {0, 3, 1, 5}}, -1},
	} {
		if l, at := cut(t, built(t, c.rules), c.text); at != c.at || !slices.Equal(l, c.want) {
			t.Errorf("%q by %q: %v, %d, want %v, %d", c.text, c.rules, l, at, c.want, c.at)
		}
	}
}

// TestMaxStates: automata of 240 states, gone through from the first to the last.
func TestMaxStates(t *testing.T) {
	d := still(240)
	for n := range 239 {
		d.Next[n]['a'] = n + 1
	}
	d.Accept[239] = 1
	long := strings.Repeat("a", 239)
	for s, want := range map[string]answer{
		long: match(1, 0, 239, 240), long + "a": match(1, 0, 239, 240), long + "b": match(1, 0, 239, 240), long[1:]: none(239), long[1:] + "b": none(239), "": none(1), "b": none(1),
	} {
		if got := one(d, s, 0); got != want {
			t.Errorf("%d bytes: %v, want %v", len(s), got, want)
		}
	}
	d.Accept[1] = 0
	if got := one(d, "bb"+long[1:]+"c", 2); got != match(0, 2, 1, 241) {
		t.Error("back over 237 bytes:", got)
	}
	l, at := lex.All(d, long+long+"aab")
	if want := []api.Token{{Rule: 1, At: 0, Len: 239}, {Rule: 1, At: 239, Len: 239}, {At: 478, Len: 1}, {At: 479, Len: 1}}; at != 480 || !slices.Equal(l, want) {
		t.Error(l, at)
	}
	if got := lex.Seen(d, long+long+"aab"); !slices.Equal(got, []int{240, 479, 481, 481}) {
		t.Error(got)
	}
}

// TestLong: texts beyond MaxText are cut as others are.
func TestLong(t *testing.T) {
	d := built(t, "a+ b [bc]d")
	for _, many := range []int{api.MaxText / 4, api.MaxText/4 + 1, 100000} {
		s := strings.Repeat("aabb", many)
		for _, c := range []struct {
			more string
			at   int
		}{{"", -1}, {"c", 4 * many}, {"cx", 4 * many}} {
			l, at := lex.All(d, s+c.more)
			seen := lex.Seen(d, s+c.more)
			if at != c.at || len(l) != 3*many || len(seen) != len(l) {
				t.Fatal(many, c.more, at, len(l), len(seen))
			}
			for n := range many {
				if got, want := l[3*n:3*n+3], []api.Token{{At: 4 * n, Len: 2}, {Rule: 1, At: 4*n + 2, Len: 1}, {Rule: 1, At: 4*n + 3, Len: 1}}; !slices.Equal(got, want) {
					t.Fatal(many, c.more, got, want)
				}
				if got, want := seen[3*n:3*n+3], []int{4*n + 3, 4*n + 4, 4*n + 5}; !slices.Equal(got, want) {
					t.Fatal(many, c.more, got, want)
				}
			}
		}
	}
	for _, n := range []int{api.MaxText, api.MaxText + 1, 1000000} {
		s := strings.Repeat("a", n)
		if l, at := lex.All(d, s); at != -1 || !slices.Equal(l, []api.Token{{Len: n}}) {
			t.Error(n, len(l), at)
		}
		if got := one(d, s+"b", n-1); got != match(0, n-1, 1, n+1) {
			t.Error(n, got)
		}
		if got := one(d, s, n); got != none(n+1) {
			t.Error(n, got)
		}
	}
}

// TestLongSeen: of tokens for each of which all the rest is seen.
func TestLongSeen(t *testing.T) {
	d := built(t, "a a*b")
	s := strings.Repeat("a", api.MaxText)
	l, at := lex.All(d, s)
	seen := lex.Seen(d, s)
	if at != -1 || len(l) != len(s) || len(seen) != len(s) {
		t.Fatal(len(l), at, len(seen))
	}
	for n := range s {
		if l[n] != (api.Token{At: n, Len: 1}) || seen[n] != len(s)+1 {
			t.Fatal(n, l[n], seen[n])
		}
	}
	if l, at := lex.All(d, s+"b"); at != -1 || !slices.Equal(l, []api.Token{{Rule: 1, Len: len(s) + 1}}) {
		t.Error(len(l), at)
	}
}

// TestNewMemory: what is handed in isn't changed, and no two answers share memory, spare room included.
func TestNewMemory(t *testing.T) {
	d := built(t, "a ab b+")
	before := copied(d)
	s := "abbababab"
	l, _ := lex.All(d, s)
	seen := lex.Seen(d, s)
	tokens, places := slices.Clone(l), slices.Clone(seen)
	for i := range l[:cap(l)] {
		l[:cap(l)][i] = api.Token{Rule: 9, At: 9, Len: 9}
	}
	for i := range seen[:cap(seen)] {
		seen[:cap(seen)][i] = 9
	}
	if !same(d, before) {
		t.Error("the automaton was changed")
	}
	if l, _ := lex.All(d, s); !slices.Equal(l, tokens) {
		t.Error("tokens:", l)
	}
	if l := lex.Seen(d, s); !slices.Equal(l, places) {
		t.Error("seen:", l)
	}
	d.Next[0]['a'] = -1
	if got := one(d, s, 0); got != none(1) {
		t.Error("an automaton that was changed since:", got)
	}
}

// TestManyAtOnce: calls at the same time have nothing to do with one another.
func TestManyAtOnce(t *testing.T) {
	d := built(t, "a ab b+")
	var wait sync.WaitGroup
	for n := range 8 {
		wait.Go(func() {
			s := strings.Repeat("abba", n)
			for range 50 {
				l, at := lex.All(d, s)
				if at != -1 || len(l) != 3*n || len(lex.Seen(d, s)) != 3*n {
					t.Error(n, l, at)
				}
				if got := one(d, s+"ab", 4*n); got != match(1, 4*n, 2, 4*n+3) {
					t.Error(n, got)
				}
			}
		})
	}
	wait.Wait()
}
