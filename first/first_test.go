package first_test

import (
	"fmt"
	"math"
	"reflect"
	"slices"
	"strings"
	"sync"
	"testing"

	"topiary/api"
	"topiary/check"
	"topiary/first"
	"topiary/gram"
)

// abc are three terminals and a rule that is left out, ahead of the nonterminals of a grammar's text.
const abc = "token a /a/; skip w / /; token b /b/; token c /c/; "

// whole is a text of a grammar that has something of everything: terminals a 1, b 2, c 3; nonterminals s 4, t 5, u 6, v 7, of which v isn't reached.
const whole = abc + "left a; none c; s: t u c | a; t: t b | ; u: t | a s % b; v: u v c | v;"

// good is the grammar of a text that has no fault.
func good(t *testing.T, s string) api.Grammar {
	t.Helper()
	g, at, e := gram.Parse(s)
	if e != api.OK {
		t.Fatalf("Parse(%.200q): %d, %v", s, at, e)
	}
	return g
}

// symbols are the numbers of names with blanks between them; $ is the end.
func symbols(t *testing.T, g api.Grammar, names string) []int {
	t.Helper()
	var syms []int
	for _, name := range strings.Fields(names) {
		sym := 0
		for sym <= len(g.Rules)+len(g.Nonts) && gram.Name(g, sym) != name {
			sym++
		}
		if gram.Name(g, sym) != name {
			t.Fatalf("no symbol %q", name)
		}
		syms = append(syms, sym)
	}
	return syms
}

// numbered is n items, each made of its number.
func numbered(n int, item string) string {
	var out strings.Builder
	for i := range n {
		out.WriteString(strings.NewReplacer("#", fmt.Sprint(i), "@", fmt.Sprint(i+1)).Replace(item))
	}
	return out.String()
}

func upTo(first, last int) []int {
	var l []int
	for n := first; n <= last; n++ {
		l = append(l, n)
	}
	return l
}

func prod(left int, right ...int) api.Prod { return api.Prod{Left: left, Right: right} }

// vanishing holds Vanish to want, and Of of each single symbol to it.
func vanishing(t *testing.T, what string, g api.Grammar, want []int) {
	t.Helper()
	for range 2 {
		if got := first.Vanish(g); !slices.Equal(got, want) {
			t.Errorf("%s: %v, want %v", what, got, want)
		}
	}
	for sym := 1; sym <= gram.Terms(g)+len(g.Nonts); sym++ {
		if _, null := first.Of(g, []int{sym}); null != slices.Contains(want, sym) {
			t.Errorf("%s: %d: %t", what, sym, null)
		}
	}
}

// begins holds Of to want.
func begins(t *testing.T, what string, g api.Grammar, text, want []int, null bool) {
	t.Helper()
	for range 2 {
		if got, all := first.Of(g, text); !slices.Equal(got, want) || all != null {
			t.Errorf("%s: %.60s: %v, %t, want %v, %t", what, fmt.Sprint(text), got, all, want, null)
		}
	}
}

// behind holds Behind to want, list by list.
func behind(t *testing.T, what string, g api.Grammar, want [][]int) {
	t.Helper()
	for range 2 {
		if got := first.Behind(g); !slices.EqualFunc(got, want, slices.Equal) {
			t.Errorf("%s: %v, want %v", what, got, want)
		}
	}
}

func TestVanish(t *testing.T) {
	down := numbered(15, "n#: n@ n@; ")
	up := "n0: ; " + numbered(15, "n@: n# n# n#; ")
	for s, want := range map[string]string{
		// none, and one by an empty right side
		"": "", abc: "", "s: s;": "", abc + "s: a;": "", abc + "s: a s | s a | s s | b;": "", "s: ;": "s", "s: s | ;": "s", abc + "s: | a;": "s", abc + "s: a | ;": "s", abc + "s: a; t: ;": "t", abc + "s: ; t: a;": "s", abc + "s: % a;": "s",
		// by others that vanish, whose productions stand ahead or behind
		"s: t; t: ;": "s t", "t: ; s: t; start s;": "t s", abc + "s: t u; t: a | ; u: t t;": "s t u", abc + "s: t u; t: ; u: a;": "t", abc + "s: u t; t: ; u: a;": "t", abc + "s: t t a | t a t | a t t; t: ;": "t", abc + "s: t t a | t t b | t t t; t: ;": "s t",
		abc + "s: t t t t t t t t; t: ;": "s t", abc + "s: t t t t t t t a; t: ;": "t", abc + "s: a t t t t t t t; t: ;": "t", abc + "s: t t t u t t t t; t: ; u: u;": "t",
		down + "n15: ;": "n0 n1 n2 n3 n4 n5 n6 n7 n8 n9 n10 n11 n12 n13 n14 n15", down + "n15: n0;": "", down + "n15: n7 | ;": "n0 n1 n2 n3 n4 n5 n6 n7 n8 n9 n10 n11 n12 n13 n14 n15",
		up: "n0 n1 n2 n3 n4 n5 n6 n7 n8 n9 n10 n11 n12 n13 n14 n15", strings.Replace(up, "n9: ", "n9: n9 ", 1): "n0 n1 n2 n3 n4 n5 n6 n7 n8",
		// in a circle, with a way out and without
		"s: t; t: s;": "", "s: t; t: s | ;": "s t", "s: t; t: u; u: s; s1: ;": "s1", "s: t; t: u; u: s u t | v; v: ;": "s t u v", "s: t u; t: s | ; u: s;": "t", "s: s s; t: t s | ; u: t;": "t u", abc + "s: t | a; t: s t | b; u: u u u | ;": "u",
		// one that isn't reached, or doesn't end
		"s: ; x: ;": "s x", "s: s; x: y; y: ;": "x y", abc + "s: a; x: s | x;": "", abc + "s: a; x: y z; y: ; z: z a | ;": "x y z", abc + "s: s a; t: t t; u: u | ;": "u", "start u; s: ; t: t s; u: s t;": "s",
		"start z; z: ; y: ; x: ;": "z y x", abc + "start x; y: ; x: a; v: ; u: b | c; t: ;": "y v t", whole: "t u",
	} {
		g := good(t, s)
		vanishing(t, s, g, symbols(t, g, want))
	}
}

// TestVanishNoProds: a nonterminal that has no production, which no text tells, doesn't vanish.
func TestVanishNoProds(t *testing.T) {
	g := api.Grammar{Levels: make([]api.Level, 1), Nonts: []string{"s", "t", "u"}, Start: 2}
	vanishing(t, "no productions", g, nil)
	g.Prods = []api.Prod{prod(2, 1), prod(2, 3, 3)}
	vanishing(t, "none of s and u", g, nil)
	g.Prods = []api.Prod{prod(2, 1), prod(2, 3, 3), prod(3)}
	vanishing(t, "none of s", g, []int{2, 3})
	g.Prods = []api.Prod{prod(3), prod(1, 2, 3), prod(1), prod(1)}
	vanishing(t, "none of t", g, []int{1, 3})
	g.Prods = []api.Prod{prod(1, 1), prod(1, 2, 3), prod(2)}
	vanishing(t, "none of u", g, []int{2})
}

// started is a text of symbols, what it begins with, and whether it vanishes.
type started struct {
	text, want string
	null       bool
}

func TestOf(t *testing.T) {
	const some = abc + "s: x y c; x: a x | ; y: x | b; z: z c; d: d d;"
	for s, each := range map[string][]started{
		"":           {{"", "", true}},
		"s: ;":       {{"", "", true}, {"s", "", true}, {"s s s", "", true}},
		abc:          {{"", "", true}, {"a", "a", false}, {"c a", "c", false}, {"b b b", "b", false}},
		"s: s;":      {{"", "", true}, {"s", "", false}, {"s s", "", false}},
		"s: s s | ;": {{"s", "", true}, {"s s", "", true}},
		some: {
			{"a", "a", false}, {"b", "b", false}, {"c", "c", false}, {"s", "a b c", false}, {"x", "a", true}, {"y", "a b", true},
			// several that vanish, ahead of one that doesn't, or to the end
			{"x x", "a", true}, {"x y", "a b", true}, {"y x", "a b", true}, {"x y x y x x", "a b", true}, {"x c", "a c", false}, {"y c", "a b c", false}, {"x x b", "a b", false}, {"x y c", "a b c", false}, {"y a", "a b", false}, {"x s", "a b c", false},
			// what stands behind the first one that doesn't vanish
			{"a b", "a", false}, {"a x", "a", false}, {"b y s", "b", false}, {"c s x b", "c", false}, {"x b c", "a b", false}, {"x b x", "a b", false}, {"x a y c", "a", false}, {"s a", "a b c", false}, {"x c y", "a c", false},
			// one that never ends tells nothing, and nothing is told behind it
			{"z", "", false}, {"d", "", false}, {"z a", "", false}, {"d z a", "", false}, {"x z", "a", false}, {"x z b", "a", false}, {"y x d c", "a b", false}, {"a z", "a", false}, {"z z", "", false},
		},
		// left sides that stand first in their own right side, at once and over others, with what vanishes ahead
		abc + "s: s a | b;":                {{"s", "b", false}, {"s s", "b", false}},
		abc + "s: s a | ;":                 {{"s", "a", true}, {"s c", "a c", false}},
		abc + "s: s a;":                    {{"s", "", false}, {"s b", "", false}},
		abc + "s: s s a | s b | ;":         {{"s", "a b", true}},
		abc + "s: t a | b; t: s c;":        {{"s", "b", false}, {"t", "b", false}},
		abc + "s: t a; t: u b; u: s c;":    {{"s", "", false}, {"t", "", false}, {"u", "", false}},
		abc + "s: t a; t: u b; u: s c | ;": {{"s", "b", false}, {"t", "b", false}, {"u", "b", true}, {"u c", "b c", false}},
		abc + "s: x s a | b; x: c | ;":     {{"s", "b c", false}, {"x s", "b c", false}},
		abc + "s: x s a | ; x: y; y: ;":    {{"s", "a", true}, {"y", "", true}, {"x c", "c", false}, {"x s c", "a c", false}},
		abc + "s: t s | c; t: s t | ;":     {{"s", "c", false}, {"t", "c", true}, {"t a", "a c", false}},
		abc + "s: s | t; t: u; u: t | a;":  {{"s", "a", false}, {"u", "a", false}},
		// a symbol that derives no text of terminals begins with one all the same
		abc + "s: a s;":                     {{"s", "a", false}, {"s b", "a", false}},
		abc + "s: a z | b; z: z;":           {{"s", "a b", false}, {"z s", "", false}},
		abc + "s: x z a; x: | c; z: z b;":   {{"s", "c", false}, {"x z", "c", false}},
		abc + "s: t; t: c u; u: b t | a s;": {{"s", "c", false}, {"u", "a b", false}},
		// those that aren't reached, by any name and in any order
		abc + "s: a; x: b x | y; y: c | ;":                                                   {{"x", "b c", true}, {"y", "c", true}, {"y x s", "a b c", false}, {"x a", "a b c", false}},
		"token z /z/; s: x t x; x: y | z; token a /a/; y: a | ; token m /m/; t: m; start x;": {{"s", "z a m", false}, {"x", "z a", true}, {"y", "a", true}, {"y t", "a m", false}, {"m a", "m", false}},
		// right sides of as many symbols as there may be
		abc + "s: x x x x x x x b; x: a | ;":            {{"s", "a b", false}},
		abc + "s: x y x y x y x y; x: a | ; y: c | ;":   {{"s", "a c", true}, {"s b", "a b c", false}},
		abc + "s: c x x x x x x x; x: a | ;":            {{"s", "c", false}},
		abc + "s: x x x x x x x x | s s b; x: ;":        {{"s", "b", true}},
		numbered(15, "n#: n@; ") + "n15: a; " + abc:     {{"n0", "a", false}, {"n15", "a", false}},
		numbered(15, "n@: n# n#; ") + "n0: | a; " + abc: {{"n0", "a", true}, {"n15", "a", true}, {"n15 b", "a b", false}},
		whole: {{"s", "a b c", false}, {"t", "b", true}, {"u", "a b", true}, {"v", "a b", false}, {"t u", "a b", true}, {"u t v c", "a b", false}},
	} {
		g := good(t, s)
		for _, c := range each {
			begins(t, s, g, symbols(t, g, c.text), symbols(t, g, c.want), c.null)
		}
	}
}

// TestOfStrange: one number that is no symbol, wherever it stands, and nothing is told; nor of the end.
func TestOfStrange(t *testing.T) {
	for _, s := range []string{"", "s: ;", abc, whole, numbered(16, "token t# /x/; ") + numbered(16, "n#: ; ")} {
		g := good(t, s)
		last := gram.Terms(g) + len(g.Nonts)
		all := upTo(1, last)
		for _, n := range []int{0, -1, -2, -last, -last - 1, last + 1, last + 2, 2*last + 1, 99, 1 << 32, 1<<32 + 1, -1 << 32, 1 - 1<<32, math.MaxInt, math.MinInt, math.MinInt + 1} {
			for _, text := range [][]int{{n}, {n, n}, append([]int{n}, all...), append(slices.Clone(all), n), append(append(slices.Clone(all), n), all...), append(slices.Repeat(all, 100), n)} {
				begins(t, s, g, text, nil, false)
			}
		}
		if last > 0 {
			_, null := first.Of(g, []int{last})
			if want := slices.Contains(first.Vanish(g), last); null != want {
				t.Error(s, null)
			}
		}
	}
	// behind a symbol that doesn't vanish, which tells all that there is else
	g := good(t, abc+"s: a | ;")
	begins(t, "right", g, []int{1, 4, 3}, []int{1}, false)
	begins(t, "the end behind", g, []int{1, 0}, nil, false)
	begins(t, "the end ahead", g, []int{0, 1}, nil, false)
	begins(t, "one more behind", g, []int{1, 4, 5}, nil, false)
	begins(t, "below 0 behind", g, []int{1, 4, -1}, nil, false)
	begins(t, "the end behind what vanishes", g, []int{4, 0}, nil, false)
	begins(t, "the end between", g, []int{4, 0, 4}, nil, false)
	// a rule that is left out is no symbol
	g = good(t, "skip w / /; skip v /v/;")
	begins(t, "left out", g, []int{1}, nil, false)
	begins(t, "nothing", g, []int{}, nil, true)
}

// TestOfLong: a text of any length, of which only the place of the last one that counts, or that is none, may be far behind.
func TestOfLong(t *testing.T) {
	const many = 1 << 20
	g := good(t, abc+"s: x y c; x: a x | ; y: x | b;") // 4 s, 5 x, 6 y
	begins(t, "x", g, slices.Repeat([]int{5}, many), []int{1}, true)
	begins(t, "x y", g, slices.Repeat([]int{5, 6}, many), []int{1, 2}, true)
	begins(t, "x .. c", g, append(slices.Repeat([]int{5}, many), 3), []int{1, 3}, false)
	begins(t, "x .. y", g, append(slices.Repeat([]int{5}, many), 6), []int{1, 2}, true)
	begins(t, "x .. c b", g, append(slices.Repeat([]int{5}, many), 3, 2), []int{1, 3}, false)
	begins(t, "c ..", g, slices.Repeat([]int{3, 2}, many), []int{3}, false)
	begins(t, "x .. 0", g, append(slices.Repeat([]int{5}, many), 0), nil, false)
	begins(t, "c .. 7", g, append(slices.Repeat([]int{3}, many), 7), nil, false)
}

func TestBehind(t *testing.T) {
	for s, want := range map[string]map[string]string{
		// nothing at all; a start symbol alone: the end
		"": {}, abc: {}, "skip w / /;": {}, "s: ;": {"s": "$"}, "s: s;": {"s": "$"}, "s: s s;": {"s": "$"}, "s: s s | ;": {"s": "$"}, abc + "s: a;": {"s": "$", "a": "$"}, abc + "s: a | b;": {"s": "$", "a": "$", "b": "$"},
		// what stands right behind: a terminal, and what a nonterminal begins with
		abc + "s: a b;": {"s": "$", "a": "b", "b": "$"}, abc + "s: a b a c;": {"s": "$", "a": "b c", "b": "a", "c": "$"}, abc + "s: a a a;": {"s": "$", "a": "a $"}, abc + "s: a t; t: b | c;": {"s": "$", "t": "$", "a": "b c", "b": "$", "c": "$"}, abc + "s: t t; t: b | c;": {"s": "$", "t": "b c $", "b": "b c $", "c": "b c $"},
		abc + "s: t u; t: a; u: v; v: b | c a;": {"s": "$", "t": "b c", "u": "$", "v": "$", "a": "b c $", "b": "$", "c": "a"},
		// behind one or more that vanish, up to the end too
		abc + "s: a x b; x: c | ;": {"s": "$", "x": "b", "a": "b c", "b": "$", "c": "b"}, abc + "s: a x; x: c | ;": {"s": "$", "x": "$", "a": "c $", "c": "$"}, abc + "s: a x y b; x: ; y: c | ;": {"s": "$", "x": "b c", "y": "b", "a": "b c", "b": "$", "c": "b"},
		abc + "s: a x x x; x: y y; y: c | ;": {"s": "$", "x": "c $", "y": "c $", "a": "c $", "c": "c $"}, abc + "s: x y z; x: a | ; y: b | ; z: c | ;": {"s": "$", "x": "b c $", "y": "c $", "z": "$", "a": "b c $", "b": "c $", "c": "$"},
		abc + "s: a x x x x x x b; x: c | ;": {"s": "$", "x": "b c", "a": "b c", "b": "$", "c": "b c"}, abc + "s: a x x x x x x x; x: ;": {"s": "$", "x": "$", "a": "$"}, abc + "s: a x b x c; x: ;": {"s": "$", "x": "b c", "a": "b", "b": "c", "c": "$"},
		// behind the left side that it ends, over several, with what vanishes behind it, and in circles
		abc + "s: t b; t: a;": {"s": "$", "t": "b", "a": "b", "b": "$"}, abc + "s: t b | u c; t: u; u: v; v: a;": {"s": "$", "t": "b", "u": "b c", "v": "b c", "a": "b c", "b": "$", "c": "$"}, abc + "s: t b; t: a x; x: c | ;": {"s": "$", "t": "b", "x": "b", "a": "b c", "b": "$", "c": "b"},
		abc + "s: t b; t: a x y; x: y; y: ;": {"s": "$", "t": "b", "x": "b", "y": "b", "a": "b", "b": "$"}, abc + "s: t b; t: a u; u: c t | ;": {"s": "$", "t": "b", "u": "b", "a": "b c", "b": "$", "c": "a"}, abc + "s: t b | u c; t: a u; u: a t | a;": {"s": "$", "t": "b c", "u": "b c", "a": "a b c", "b": "$", "c": "$"},
		abc + "s: t b | u c | v a; t: u; u: v; v: t | a;": {"s": "$", "t": "a b c", "u": "a b c", "v": "a b c", "a": "a b c $", "b": "$", "c": "$"},
		// the start symbol in right sides, its own and others'
		abc + "s: s a | b;": {"s": "a $", "a": "a $", "b": "a $"}, abc + "s: a s b | c;": {"s": "b $", "a": "a c", "b": "b $", "c": "b $"}, abc + "s: a s | ;": {"s": "$", "a": "a $"}, abc + "s: s s | a | b;": {"s": "a b $", "a": "a b $", "b": "a b $"}, abc + "s: t; t: s c | a;": {"s": "c $", "t": "c $", "a": "c $", "c": "c $"}, abc + "s: a t; t: s | b; start t;": {"s": "$", "t": "$", "a": "a b", "b": "$"},
		abc + "start x; x: ; y: x a;": {"x": "$"}, abc + "start x; y: x a; x: y | b;": {"x": "a $", "y": "a $", "a": "a $", "b": "a $"},
		// those that aren't reached, and what stands in their productions alone
		abc + "s: a; t: b c;": {"s": "$", "a": "$"}, abc + "s: a; t: s b;": {"s": "$", "a": "$"}, abc + "s: a b; t: a c u; u: s b t | ;": {"s": "$", "a": "b", "b": "$"}, abc + "s: a | b s; t: t s c | ;": {"s": "$", "a": "$", "b": "a b"}, abc + "s: u b; u: a; t: u c | t u;": {"s": "$", "u": "b", "a": "b", "b": "$"}, abc + "start t; s: t a; t: b; u: s c;": {"t": "$", "b": "$"}, abc + "s: a u; t: u c; u: b;": {"s": "$", "u": "$", "a": "b", "b": "$"},
		// those that never end: texts with them in are derived, though none of terminals
		abc + "s: a z b; z: z c;": {"s": "$", "z": "b c", "b": "$", "c": "b c"}, abc + "s: s a;": {"s": "a $", "a": "a $"}, abc + "s: z a | b z c; z: z;": {"s": "$", "z": "a c", "a": "$", "c": "$"}, abc + "s: a z | c; z: b z;": {"s": "$", "z": "$", "a": "b", "b": "b", "c": "$"}, abc + "s: a x z b; x: c | ; z: z z;": {"s": "$", "x": "", "z": "b", "a": "c", "b": "$"},
		whole: {"s": "c $", "t": "a b c", "u": "c", "a": "a b c $", "b": "a b c", "c": "c $"},
		"token z /z/; s: x t x; x: y | z; token a /a/; y: a | ; token m /m/; t: m; start s;": {"s": "$", "x": "m $", "y": "m $", "t": "z a $", "z": "m $", "a": "m $", "m": "z a $"},
	} {
		g := good(t, s)
		lists := make([][]int, gram.Terms(g)+1+len(g.Nonts))
		for name, next := range want {
			lists[symbols(t, g, name)[0]] = rising(symbols(t, g, next))
		}
		behind(t, s, g, lists)
	}
}

func rising(l []int) []int {
	slices.Sort(l)
	return l
}

// TestBehindNoProds: what no text tells: nonterminals that have no production.
func TestBehindNoProds(t *testing.T) {
	g := api.Grammar{Levels: make([]api.Level, 1), Nonts: []string{"s", "t", "u"}, Start: 2}
	behind(t, "no productions", g, [][]int{nil, nil, {0}, nil})
	g.Prods = []api.Prod{prod(1, 2, 3)}
	behind(t, "of one that isn't reached", g, [][]int{nil, nil, {0}, nil})
	g.Prods = []api.Prod{prod(2, 1, 3)}
	behind(t, "none of s and u", g, [][]int{nil, nil, {0}, {0}})
	g = good(t, abc+"s: a t b; t: ; start t;")
	g.Prods, g.Start = g.Prods[:1], 4
	behind(t, "none of t", g, [][]int{nil, nil, {0}, nil, {0}, {2}})
}

// unsound are changes of whole's grammar behind which it isn't sound.
func unsound() map[string]func(g *api.Grammar) {
	return map[string]func(g *api.Grammar){
		"no Levels":                     func(g *api.Grammar) { g.Levels = nil },
		"a Level less":                  func(g *api.Grammar) { g.Levels = g.Levels[:3] },
		"a Level more":                  func(g *api.Grammar) { g.Levels = append(g.Levels, api.Level{}) },
		"a Level of the end":            func(g *api.Grammar) { g.Levels[0] = api.Level{Power: 1, Side: 1} },
		"a Level without a side":        func(g *api.Grammar) { g.Levels[1].Side = 0 },
		"a side of no Level":            func(g *api.Grammar) { g.Levels[2].Side = 1 },
		"no Start":                      func(g *api.Grammar) { g.Start = 0 },
		"a Start that is a terminal":    func(g *api.Grammar) { g.Start = 3 },
		"a Start behind all":            func(g *api.Grammar) { g.Start = 8 },
		"a Start below 0":               func(g *api.Grammar) { g.Start = -1 },
		"a Left that is a terminal":     func(g *api.Grammar) { g.Prods[2].Left = 3 },
		"a Left that is the end":        func(g *api.Grammar) { g.Prods[2].Left = 0 },
		"a Left behind all":             func(g *api.Grammar) { g.Prods[2].Left = 8 },
		"a Left below 0":                func(g *api.Grammar) { g.Prods[2].Left = math.MinInt },
		"the end in a right side":       func(g *api.Grammar) { g.Prods[0].Right[1] = 0 },
		"a number behind all":           func(g *api.Grammar) { g.Prods[0].Right[2] = 8 },
		"a number below 0":              func(g *api.Grammar) { g.Prods[0].Right[0] = -1 },
		"a number far off":              func(g *api.Grammar) { g.Prods[0].Right[0] = math.MaxInt },
		"nine symbols":                  func(g *api.Grammar) { g.Prods[0].Right = slices.Repeat([]int{5}, 9) },
		"a Prec that is a nonterminal":  func(g *api.Grammar) { g.Prods[0].Prec = 4 },
		"a Prec below 0":                func(g *api.Grammar) { g.Prods[0].Prec = -1 },
		"41 productions":                func(g *api.Grammar) { g.Prods = slices.Repeat(g.Prods[:1], 41) },
		"a million productions":         func(g *api.Grammar) { g.Prods = slices.Repeat(g.Prods[:1], 1<<20) },
		"17 nonterminals":               func(g *api.Grammar) { g.Nonts = strings.Fields(numbered(17, "n# ")) },
		"17 rules":                      func(g *api.Grammar) { g.Rules = slices.Repeat(g.Rules[:1], 17) },
		"a rule that isn't right":       func(g *api.Grammar) { g.Rules[0].Re = []api.Cell{{Op: api.RStar}} },
		"a rule without cells":          func(g *api.Grammar) { g.Rules[1].Re = nil },
		"a rule without a name":         func(g *api.Grammar) { g.Rules[2].Name = "" },
		"a rule that isn't left out":    func(g *api.Grammar) { g.Rules[1].Skip = false },
		"a rule that is left out":       func(g *api.Grammar) { g.Rules[0].Skip = true },
		"a name there twice":            func(g *api.Grammar) { g.Nonts[1] = "a" },
		"a nonterminal without a name":  func(g *api.Grammar) { g.Nonts[3] = "" },
		"a nonterminal of a name of 17": func(g *api.Grammar) { g.Nonts[3] = strings.Repeat("n", 17) },
		"a name that says skip":         func(g *api.Grammar) { g.Nonts[3] = "skip" },
		"no nonterminals":               func(g *api.Grammar) { g.Nonts = nil },
	}
}

// nothing asks that nothing is told of a grammar that isn't sound, whatever the text.
func nothing(t *testing.T, what string, g api.Grammar) {
	t.Helper()
	if check.Sound(g) {
		t.Fatalf("%s: sound", what)
	}
	if l := first.Vanish(g); len(l) != 0 {
		t.Errorf("%s: Vanish: %v", what, l)
	}
	if l := first.Behind(g); len(l) != 0 {
		t.Errorf("%s: Behind: %v", what, l)
	}
	for _, text := range [][]int{nil, {}, {0}, {1}, {2}, {3}, {4}, {5}, {6}, {7}, {5, 6}, {5, 6, 1}, {8}, {-1}, {math.MaxInt}, slices.Repeat([]int{5}, 10000)} {
		begins(t, what, g, text, nil, false)
	}
}

func TestUnsound(t *testing.T) {
	nothing(t, "nothing", api.Grammar{})
	nothing(t, "empty lists", api.Grammar{Rules: []api.Rule{}, Nonts: []string{}, Levels: []api.Level{}, Prods: []api.Prod{}})
	nothing(t, "a production of nothing", api.Grammar{Prods: []api.Prod{{}}})
	nothing(t, "a production of the end", api.Grammar{Levels: []api.Level{{}}, Prods: []api.Prod{{}}})
	nothing(t, "a Start", api.Grammar{Levels: []api.Level{{}}, Start: 1})
	nothing(t, "without its Level", api.Grammar{Nonts: []string{"s"}, Prods: []api.Prod{prod(1)}, Start: 1})
	for what, change := range unsound() {
		g := good(t, whole)
		change(&g)
		nothing(t, what, g)
	}
}

// TestEmpty: sound grammars that have nothing, or little.
func TestEmpty(t *testing.T) {
	for _, g := range []api.Grammar{{Levels: []api.Level{{}}}, {Rules: []api.Rule{}, Nonts: []string{}, Levels: []api.Level{{}}, Prods: []api.Prod{}}, good(t, "skip w / /;")} {
		vanishing(t, "nothing", g, nil)
		begins(t, "nothing", g, nil, nil, true)
		begins(t, "nothing", g, []int{}, nil, true)
		begins(t, "the end", g, []int{0}, nil, false)
		begins(t, "one", g, []int{1}, nil, false)
		behind(t, "nothing", g, make([][]int, 1))
	}
	g := good(t, numbered(16, "token t# /x/; "))
	vanishing(t, "terminals alone", g, nil)
	behind(t, "terminals alone", g, make([][]int, 17))
	begins(t, "terminals alone", g, []int{16, 1}, []int{16}, false)
	begins(t, "terminals alone", g, []int{17}, nil, false)
}

// TestGreatest: as many as there may be, led through one another one by one, up and down.
func TestGreatest(t *testing.T) {
	const terms = 16
	tokens := numbered(terms, "token t# /x/; ")
	down := numbered(15, "n#: n@ t# | ; ") + "n15: t15 | ; "
	g := good(t, tokens+down)
	vanishing(t, "down", g, upTo(17, 32))
	lists := make([][]int, 33)
	for n := range 16 {
		begins(t, "down", g, []int{17 + n}, upTo(n+1, 16), true)
		lists[17+n], lists[n+1] = []int{n}, []int{n}
	}
	behind(t, "down", g, lists)
	// each leads up to the first: what is behind that is behind all of them
	g = good(t, tokens+"n0: t0 | ; "+numbered(15, "n@: t@ n# | ; ")+"start n15;")
	vanishing(t, "up", g, upTo(17, 32))
	lists = make([][]int, 33)
	for n := range 16 {
		begins(t, "up", g, []int{17 + n}, []int{n + 1}, true)
		lists[17+n], lists[n+1] = []int{0}, []int{0, n}
	}
	lists[1] = []int{0}
	behind(t, "up", g, lists)
	// 40 productions of 8 symbols, each of all nonterminals, all of which vanish
	g = good(t, tokens+numbered(15, "n#: n@ n@ n@ n@ n@ n@ n@ n@ | ; ")+"n15: n0 n1 n2 n3 n4 n5 n6 n7 | n8 n9 n10 n11 n12 n13 n14 n15 | t0 n0 t1 n1 t2 n2 t3 n3 | t4 n4 t5 n5 t6 n6 t7 n7 | t8 n8 t9 n9 t10 n10 t11 n11 | t12 n12 t13 n13 t14 n14 t15 n15 | t15 | t14 | t13 | ;")
	if len(g.Prods) != 40 {
		t.Fatal(len(g.Prods))
	}
	vanishing(t, "all", g, upTo(17, 32))
	lists = make([][]int, 16)
	for n := range lists {
		begins(t, "all", g, []int{17 + n}, []int{1, 5, 9, 13, 14, 15, 16}, true)
		lists[n] = upTo(0, 16)
	}
	if got := first.Behind(g); len(got) != 33 || !slices.EqualFunc(got[17:], lists, slices.Equal) {
		t.Error(got)
	}
}

// TestTogether: a text begins with what its first symbol begins with, and, if that vanishes, with what the rest does, wherever it is cut in two.
func TestTogether(t *testing.T) {
	for _, s := range []string{whole, abc + "s: x y c; x: a x | ; y: x | b; z: z c;", abc + "s: ; t: s a | s; u: t b | c z; z: z;", abc + "s: s; t: t t | ; u: c | ;"} {
		g := good(t, s)
		texts := [][]int{nil}
		for n := 0; n < len(texts); n++ {
			if len(texts[n]) < 3 {
				for sym := 1; sym <= gram.Terms(g)+len(g.Nonts); sym++ {
					texts = append(texts, append(slices.Clone(texts[n]), sym))
				}
			}
		}
		for _, text := range texts {
			for at := range len(text) + 1 {
				want, null := first.Of(g, text[:at])
				if null {
					rest, all := first.Of(g, text[at:])
					want, null = slices.Compact(rising(slices.Concat(want, rest))), all
				}
				if got, all := first.Of(g, text); !slices.Equal(got, want) || all != null {
					t.Fatalf("%q: %v cut at %d: %v, %t, want %v, %t", s, text, at, got, all, want, null)
				}
			}
		}
	}
}

// TestExamples are the chapter's.
func TestExamples(t *testing.T) {
	g := good(t, "token a /a/; token b /b/; s: x a; x: b | ;")
	vanishing(t, "x", g, []int{4})
	begins(t, "s", g, []int{3}, []int{1, 2}, false)
	behind(t, "x", g, [][]int{nil, {0}, {1}, {0}, {1}})
}

// TestNewMemory: no two answers share memory, nor do lists of one answer, nor an answer with an argument, spare room included: so what is written into one list is seen in no other one.
func TestNewMemory(t *testing.T) {
	for _, s := range []string{whole, abc + "s: t; t: u; u: a;", abc + "s: t b | u b | a b; t: a; u: t;", abc + "s: a t; t: u; u: b | c;", abc + "s: x y; x: y | a | b; y: x | ; start s;", "s: t; t: s | ;"} {
		g := good(t, s)
		text := upTo(gram.Terms(g)+1, gram.Terms(g)+len(g.Nonts))
		all := func() [][]int {
			one, _ := first.Of(g, text)
			other, _ := first.Of(g, text[:1])
			return append(first.Behind(g), first.Vanish(g), one, other)
		}
		want := all()
		kept := make([][]int, len(want))
		for i, l := range want {
			kept[i] = slices.Clone(l)
		}
		for range 2 {
			lists := all()
			for i, l := range lists {
				if !slices.Equal(l, kept[i]) {
					t.Errorf("%q: %d: %v, want %v", s, i, l, kept[i])
				}
				for k := range l[:cap(l)] {
					l[:cap(l)][k] = 77
				}
				_ = append(l, 77, 77, 77, 77)
			}
		}
		if !slices.EqualFunc(want, kept, slices.Equal) || !slices.EqualFunc(all(), kept, slices.Equal) {
			t.Errorf("%q: %v, %v, want %v", s, want, all(), kept)
		}
		if !reflect.DeepEqual(g, good(t, s)) || !slices.Equal(text, upTo(gram.Terms(g)+1, gram.Terms(g)+len(g.Nonts))) {
			t.Errorf("%q: changed: %v, %v", s, g, text)
		}
	}
}

// TestUnchanged: what is handed in isn't changed, spare room included.
func TestUnchanged(t *testing.T) {
	spare := func() api.Grammar {
		g := good(t, whole)
		g.Rules = append(g.Rules, api.Rule{Name: "spare"})
		g.Nonts = append(g.Nonts, "spare")
		g.Levels = append(g.Levels, api.Level{Power: 7, Side: 7})
		g.Prods = append(g.Prods, prod(7, 7))
		for i := range g.Prods {
			g.Prods[i].Right = append(g.Prods[i].Right, 77)
		}
		return g
	}
	cut := func(g api.Grammar) api.Grammar {
		g.Rules, g.Nonts, g.Levels, g.Prods = g.Rules[:len(g.Rules)-1], g.Nonts[:4], g.Levels[:4], slices.Clone(g.Prods[:len(g.Prods)-1])
		for i, p := range g.Prods {
			g.Prods[i].Right = p.Right[:len(p.Right)-1]
		}
		return g
	}
	g := spare()
	given := cut(g)
	text := []int{6, 5, 7, 1, 77, 77}
	vanishing(t, "with spare room", given, []int{5, 6})
	begins(t, "with spare room", given, text[:4], []int{1, 2}, false)
	behind(t, "with spare room", given, [][]int{nil, {0, 1, 2, 3}, {1, 2, 3}, {0, 3}, {0, 3}, {1, 2, 3}, {3}, nil})
	if !reflect.DeepEqual(g, spare()) || !reflect.DeepEqual(given, cut(spare())) || !slices.Equal(text, []int{6, 5, 7, 1, 77, 77}) {
		t.Error("changed:", g, text)
	}
}

// TestManyAtOnce: calls at the same time have nothing to do with one another, even of one grammar.
func TestManyAtOnce(t *testing.T) {
	one := good(t, whole)
	var wait sync.WaitGroup
	for n := range 8 {
		g := good(t, numbered(n, "token t# /x/; ")+"s: x s | ; x: x | ; y: y;")
		what := fmt.Sprint(n, " terminals")
		lists := append(make([][]int, n+1), []int{0}, []int{0}, nil)
		wait.Go(func() {
			for range 50 {
				vanishing(t, what, g, []int{n + 1, n + 2})
				begins(t, what, g, []int{n + 2, n + 1}, nil, true)
				behind(t, what, g, lists)
				vanishing(t, "whole", one, []int{5, 6})
				begins(t, "whole", one, []int{5, 6, 4}, []int{1, 2, 3}, false)
			}
		})
	}
	wait.Wait()
}
