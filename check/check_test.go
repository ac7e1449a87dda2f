package check_test

import (
	"fmt"
	"math"
	"reflect"
	"slices"
	"strings"
	"sync"
	"testing"

	"topiary/api"
	"topiary/check"
	"topiary/gram"
	"topiary/regex"
)

// whole is a text of a fine grammar that has something of everything: terminals a 1, b 2, c 3; nonterminals s 4, t 5, u 6.
const whole = "token a /a/; skip w / +/; token b /b+/; token c /c?d/; left a; none c; s: a t b | t; t: u s % a | c; u: u u b | ; skip v /#/;"

// good is the grammar of a text that has no fault.
func good(t *testing.T, s string) api.Grammar {
	t.Helper()
	g, at, e := gram.Parse(s)
	if e != api.OK {
		t.Fatalf("Parse(%.80q): %d, %v", s, at, e)
	}
	return g
}

func cells(t *testing.T, s string) []api.Cell {
	t.Helper()
	l, _, e := regex.Parse(s)
	if e != api.OK {
		t.Fatal(s, e)
	}
	return l
}

func level(power, side int) api.Level { return api.Level{Power: power, Side: side} }

func prod(left int, right ...int) api.Prod { return api.Prod{Left: left, Right: right} }

func byteCell(b byte) api.Cell {
	c := api.Cell{Op: api.RSet}
	c.Set[b/64] = 1 << (b % 64)
	return c
}

// numbered is n items, each made of its number.
func numbered(n int, item string) string {
	var out strings.Builder
	for i := range n {
		out.WriteString(strings.ReplaceAll(item, "#", fmt.Sprint(i)))
	}
	return out.String()
}

// judged holds Sound to want, and the other calls to what follows from it.
func judged(t *testing.T, what string, g api.Grammar, want bool) {
	t.Helper()
	if got := check.Sound(g); got != want {
		t.Errorf("%s: %t, want %t: %.300s", what, got, want, fmt.Sprint(g))
	}
	n, e := check.Check(g)
	reached, ends := check.Reached(g), check.Ends(g)
	if want && e == api.ErrArg {
		t.Errorf("%s: ErrArg", what)
	}
	if !want && (n != 0 || e != api.ErrArg || len(reached) != 0 || len(ends) != 0) {
		t.Errorf("%s: %d, %v, %v, %v", what, n, e, reached, ends)
	}
}

// changes judges whole's grammar, changed in one thing after another.
func changes(t *testing.T, what string, want bool, each ...func(g *api.Grammar)) {
	t.Helper()
	for i, change := range each {
		g := good(t, whole)
		change(&g)
		judged(t, fmt.Sprint(what, " ", i), g, want)
	}
}

func TestNothing(t *testing.T) {
	judged(t, "no Level", api.Grammar{}, false)
	judged(t, "an empty list of Levels", api.Grammar{Rules: []api.Rule{}, Nonts: []string{}, Levels: []api.Level{}, Prods: []api.Prod{}}, false)
	judged(t, "one Level", api.Grammar{Levels: []api.Level{{}}}, true)
	judged(t, "one Level, empty lists", api.Grammar{Rules: []api.Rule{}, Nonts: []string{}, Levels: []api.Level{{}}, Prods: []api.Prod{}}, true)
	judged(t, "two Levels", api.Grammar{Levels: []api.Level{{}, {}}}, false)
	judged(t, "a start", api.Grammar{Levels: []api.Level{{}}, Start: 1}, false)
	judged(t, "a start below 0", api.Grammar{Levels: []api.Level{{}}, Start: -1}, false)
	judged(t, "a production", api.Grammar{Levels: []api.Level{{}}, Prods: []api.Prod{{}}}, false)
	judged(t, "a production of 1", api.Grammar{Levels: []api.Level{{}}, Prods: []api.Prod{prod(1)}}, false)
	judged(t, "a nonterminal without productions", api.Grammar{Levels: []api.Level{{}}, Nonts: []string{"s"}, Start: 1}, true)
	judged(t, "a rule left out", api.Grammar{Levels: []api.Level{{}}, Rules: []api.Rule{{Name: "w", Re: cells(t, "x"), Skip: true}}}, true)
	judged(t, "all", good(t, whole), true)
}

// sized is a grammar of so many terminals, rules that are left out, nonterminals, productions, symbols of each right side.
func sized(terms, skips, nonts, prods, right int) api.Grammar {
	g := api.Grammar{Levels: make([]api.Level, terms+1)}
	x := []api.Cell{byteCell('x')}
	for i := range skips + terms {
		g.Rules = append(g.Rules, api.Rule{Name: fmt.Sprint("r", i), Re: x, Skip: i < skips})
	}
	for i := range nonts {
		g.Nonts = append(g.Nonts, fmt.Sprint("n", i))
		g.Start = terms + nonts
	}
	for i := range prods {
		g.Prods = append(g.Prods, api.Prod{Left: terms + 1 + i%nonts, Right: slices.Repeat([]int{1 + i%(terms+nonts)}, right)})
	}
	return g
}

func TestSizes(t *testing.T) {
	if api.MaxRules != 16 || api.MaxNonts != 16 || api.MaxProds != 40 || api.MaxRight != 8 || api.MaxName != 16 {
		t.Fatal("other limits than the document's")
	}
	for size, want := range map[[5]int]bool{
		{16, 0, 1, 1, 1}: true, {17, 0, 1, 1, 1}: false, {0, 16, 1, 1, 1}: true, {0, 17, 1, 1, 1}: false,
		{8, 8, 1, 1, 1}: true, {9, 8, 1, 1, 1}: false, {8, 9, 1, 1, 1}: false, {16, 0, 0, 0, 0}: true, {17, 0, 0, 0, 0}: false,
		{1, 1, 16, 16, 1}: true, {1, 1, 17, 17, 1}: false, {0, 0, 16, 0, 0}: true, {0, 0, 17, 0, 0}: false,
		{1, 1, 2, 40, 1}: true, {1, 1, 2, 41, 1}: false, {0, 0, 1, 40, 0}: true, {0, 0, 1, 41, 0}: false,
		{1, 1, 2, 2, 8}: true, {1, 1, 2, 2, 9}: false, {0, 0, 1, 1, 8}: true, {0, 0, 1, 1, 9}: false,
		{16, 0, 16, 40, 8}: true, {16, 1, 16, 40, 8}: false, {16, 0, 17, 40, 8}: false, {16, 0, 16, 41, 8}: false, {16, 0, 16, 40, 9}: false,
		{100000, 0, 1, 1, 1}: false, {1, 100000, 1, 1, 1}: false, {1, 1, 100000, 1, 1}: false, {1, 1, 1, 100000, 1}: false, {1, 1, 1, 1, 100000}: false,
	} {
		judged(t, fmt.Sprint(size), sized(size[0], size[1], size[2], size[3], size[4]), want)
	}
	// of one production alone, wherever it is
	for i := range 6 {
		g := good(t, whole)
		g.Prods[i].Right = slices.Repeat([]int{1}, 8)
		judged(t, fmt.Sprint("8 symbols in ", i), g, true)
		g.Prods[i].Right = slices.Repeat([]int{1}, 9)
		judged(t, fmt.Sprint("9 symbols in ", i), g, false)
	}
}

func TestRules(t *testing.T) {
	x, set := byteCell('x'), byteCell('x').Set
	op := func(n int) api.Cell { return api.Cell{Op: n} }
	long := append([]api.Cell{x}, slices.Repeat([]api.Cell{op(api.RStar)}, 59)...)
	for _, c := range []struct {
		re   []api.Cell
		want bool
	}{
		{nil, false}, {[]api.Cell{}, false}, {[]api.Cell{x}, true}, {[]api.Cell{op(api.REmpty)}, true}, {[]api.Cell{x, x}, false}, {[]api.Cell{x, x, op(api.RCat)}, true}, {[]api.Cell{x, op(api.RCat)}, false},
		{[]api.Cell{op(api.RStar)}, false}, {[]api.Cell{op(0)}, false}, {[]api.Cell{op(8)}, false}, {[]api.Cell{op(-1)}, false}, {[]api.Cell{op(api.RSet)}, false}, {[]api.Cell{{Op: api.REmpty, Set: set}}, false}, {[]api.Cell{x, {Op: api.RStar, Set: set}}, false},
		{long, true}, {append(slices.Clone(long), op(api.RStar)), false},
	} {
		for i := range 5 {
			g := good(t, whole)
			g.Rules[i].Re = c.re
			judged(t, fmt.Sprintf("rule %d is %.100s", i, fmt.Sprint(c.re)), g, c.want)
		}
	}
}

func TestNames(t *testing.T) {
	names := map[string]bool{
		"": false, "_": true, "A": true, "z": true, "_9": true, "x0": true, "_abcdefghijklm_9": true, "Token": true, "tokens": true, "starts": true, "LEFT": true, "none_": true, "skip1": true, "star": true,
		"abcdefghijklmnop": true, "abcdefghijklmnopq": false, "________________": true, "_________________": false,
		"0": false, "0a": false, "9": false, "1_": false, "$": false, "a b": false, "a ": false, " a": false, "a\n": false, "\na": false, "a#": false, "a#b": false, "#a": false, "#": false, " ": false, "a-b": false, "a.b": false, "a$": false, "é": false, "aé": false, "a\x00": false, "\x00": false, "\xff": false, "a\xff": false,
		":": false, ";": false, "|": false, "%": false, "a:": false, "a;": false, ":a": false, "/a/": false, "//": false, "/": false, "a/x/": false, "\u017f": false, "\u212a": false, "\uff41": false,
		"token": false, "skip": false, "left": false, "right": false, "none": false, "start": false,
		strings.Repeat("a", 4000): false, strings.Repeat("a", 4001): false, "a" + strings.Repeat(" ", 15): false, strings.Repeat(" ", 4000): false,
	}
	for b := range 256 {
		letter := 'a' <= b && b <= 'z' || 'A' <= b && b <= 'Z' || b == '_'
		names[string([]byte{byte(b), 'q'})] = letter
		names[string([]byte{'q', byte(b), 'q'})] = letter || '0' <= b && b <= '9'
		names[string([]byte{'q', byte(b)})] = letter || '0' <= b && b <= '9'
	}
	for name, want := range names {
		for i := range 5 {
			g := good(t, whole)
			g.Rules[i].Name = name
			judged(t, fmt.Sprintf("rule %d is %.50q", i, name), g, want && !slices.Contains([]string{"a", "b", "c", "s", "t", "u", "v", "w"}, name))
		}
		for i := range 3 {
			g := good(t, whole)
			g.Nonts[i] = name
			judged(t, fmt.Sprintf("nonterminal %d is %.50q", i, name), g, want)
		}
	}
}

// TestOnce: each two names that are the same, wherever the two are.
func TestOnce(t *testing.T) {
	name := func(g *api.Grammar, i int) *string {
		if i < len(g.Rules) {
			return &g.Rules[i].Name
		}
		return &g.Nonts[i-len(g.Rules)]
	}
	for i := range 8 {
		for k := range 8 {
			g := good(t, whole)
			*name(&g, i) = *name(&g, k)
			judged(t, fmt.Sprintf("name %d is name %d", i, k), g, i == k)
			*name(&g, i) = strings.ToUpper(*name(&g, k))
			judged(t, fmt.Sprintf("name %d is nearly name %d", i, k), g, true)
		}
	}
}

func TestLevels(t *testing.T) {
	for n := range 8 {
		g := good(t, whole)
		g.Levels = make([]api.Level, n)
		judged(t, fmt.Sprint(n, " Levels"), g, n == 4)
	}
	changes(t, "terminals", false,
		func(g *api.Grammar) { g.Rules[0].Skip = true }, func(g *api.Grammar) { g.Rules[1].Skip = false },
		func(g *api.Grammar) { g.Levels = make([]api.Level, 6) }, func(g *api.Grammar) { g.Levels = nil },
		func(g *api.Grammar) { g.Levels = make([]api.Level, 100000) })
	numbers := []int{math.MinInt, -2, -1, 0, 1, 2, 3, 4, 5, 255, 256, 257, 1 << 32, 1<<32 + 1, math.MaxInt}
	for _, power := range numbers {
		for _, side := range numbers {
			right := power == 0 && side == 0 || power >= 1 && side >= 1 && side <= 3
			for i := range 4 {
				g := good(t, whole)
				g.Levels[i] = level(power, side)
				judged(t, fmt.Sprintf("Level %d is %d, %d", i, power, side), g, right && (i > 0 || power == 0))
			}
		}
	}
	// strengths may be left out, and one strength may have two sides
	changes(t, "strengths", true,
		func(g *api.Grammar) { g.Levels = []api.Level{{}, level(7, 1), level(9, 2), level(7, 3)} },
		func(g *api.Grammar) { g.Levels = []api.Level{{}, level(math.MaxInt, 3), {}, level(2, 2)} })
}

func TestStart(t *testing.T) {
	for start, want := range map[int]bool{math.MinInt: false, -4: false, -1: false, 0: false, 1: false, 2: false, 3: false, 4: true, 5: true, 6: true, 7: false, 8: false, 1<<32 + 4: false, math.MaxInt: false} {
		changes(t, fmt.Sprint("start ", start), want, func(g *api.Grammar) { g.Start = start })
	}
	for start := -3; start < 8; start++ {
		g := good(t, "token a /x/; skip w /x/; token b /x/;")
		g.Start = start
		judged(t, fmt.Sprint("no nonterminals, start ", start), g, start == 0)
	}
}

func TestProds(t *testing.T) {
	numbers := []int{math.MinInt, -1 << 32, -7, -4, -2, -1, 0, 1, 2, 3, 4, 5, 6, 7, 8, 32, 1<<32 + 1, 1<<32 + 5, math.MaxInt - 1, math.MaxInt}
	for _, n := range numbers {
		term, nont := 1 <= n && n <= 3, 4 <= n && n <= 6
		for i := range 6 {
			changes(t, fmt.Sprintf("of production %d: %d as", i, n), nont, func(g *api.Grammar) { g.Prods[i].Left = n })
			changes(t, fmt.Sprintf("of production %d: %d behind %%", i, n), n == 0 || term, func(g *api.Grammar) { g.Prods[i].Prec = n })
			for k := range good(t, whole).Prods[i].Right {
				changes(t, fmt.Sprintf("of production %d: %d at %d", i, n, k), term || nont, func(g *api.Grammar) { g.Prods[i].Right[k] = n })
			}
			changes(t, fmt.Sprintf("of production %d: %d last", i, n), term || nont, func(g *api.Grammar) {
				g.Prods[i].Right = append(g.Prods[i].Right, n)
			}, func(g *api.Grammar) {
				g.Prods[i].Right = append(slices.Repeat([]int{6}, 7), n)
			})
		}
	}
	// productions in no order, twice, none at all; a level that no text would give
	changes(t, "productions", true,
		func(g *api.Grammar) { slices.Reverse(g.Prods) }, func(g *api.Grammar) { g.Prods = append(g.Prods, g.Prods...) }, func(g *api.Grammar) { g.Prods = nil },
		func(g *api.Grammar) { g.Prods[0].Prec = 0 }, func(g *api.Grammar) { g.Prods[5].Prec = 3 })
}

// TestCheck: each answer alone, with its number, of texts.
func TestCheck(t *testing.T) {
	for s, want := range map[string]answer{
		// the chapter's own
		"s: s;": {1, api.ErrDry}, "s: ; x: ;": {2, api.ErrReach},
		whole: {},
		// rules that fit the empty text, counted from 0, those that are left out among them
		"token a /a*/; s: a;": {0, api.ErrEmpty}, "token a /a/; token b /()/; s: a b;": {1, api.ErrEmpty}, "token b /b/; skip a /a?/; s: b;": {1, api.ErrEmpty},
		"skip w / */; token a /a/; s: a;": {0, api.ErrEmpty}, "skip w / +/; token a /a/; token b /a|b?/; skip v /x*/; s: a b;": {2, api.ErrEmpty},
		numbered(15, "skip w# / /; ") + "token a /(a?)+/; s: a;": {15, api.ErrEmpty},
		"token a /a*b*c/; skip w /(a|())b/; s: a;":               {},
		// no nonterminal
		"": {0, api.ErrNone}, "token a /a/;": {0, api.ErrNone}, "skip a /a/; token b /b/; left b;": {0, api.ErrNone},
		// not reached: behind the start, ahead of it, by another that isn't
		"token a /a/; s: a; x: a;": {3, api.ErrReach}, "token a /a/; x: a; start s; s: a;": {2, api.ErrReach}, "s: ; x: y; y: x;": {2, api.ErrReach}, "s: y; x: y; y: ;": {2, api.ErrReach},
		"s: ; x: s;": {2, api.ErrReach}, "start x; s: ; x: ; y: ;": {1, api.ErrReach}, "s: t; t: s | ; u: s t u;": {3, api.ErrReach}, "token a /a/; token b /b/; s: a; t: b; u: b;": {4, api.ErrReach},
		// never at an end: alone, in a circle, beside something that ends
		"token a /a/; s: a s;": {2, api.ErrDry}, "s: t; t: s;": {1, api.ErrDry}, "s: t | ; t: t;": {2, api.ErrDry}, "token a /a/; s: a | t; t: a u; u: t a | u;": {3, api.ErrDry},
		"s: t | ; t: s u; u: u u;": {2, api.ErrDry}, "s: t | ; t: s u | s; u: u u;": {3, api.ErrDry}, "s: x; x: y; y: x | s;": {1, api.ErrDry}, "token a /a/; start t; s: a s; t: s | a;": {2, api.ErrDry},
		// fine
		"s: ;": {}, "s: s | ;": {}, "token a /a/; s: a s | ;": {}, "start x; s: ; x: s;": {}, "s: t u; u: ; t: u u;": {}, "token a /a/; token b /b/; s: a;": {},
	} {
		holds(t, s, good(t, s), want)
	}
}

// answer is what Check tells.
type answer struct {
	n   int
	err api.Errno
}

func holds(t *testing.T, what string, g api.Grammar, want answer) {
	t.Helper()
	if n, e := check.Check(g); n != want.n || e != want.err {
		t.Errorf("Check of %.200q: %d, %v, want %d, %v", what, n, e, want.n, want.err)
	}
}

// TestOrder: of two things that are wrong the one that is named first counts, whichever number it has.
func TestOrder(t *testing.T) {
	// each part makes one thing wrong: a start that is none, a rule, the lack of nonterminals, one that isn't reached, one that doesn't end
	const empty, dry, far = "token a /a/; token e /e*/; ", "s: s; ", "s: ; x: ; "
	for s, want := range map[string]answer{
		empty:       {1, api.ErrEmpty},
		empty + dry: {1, api.ErrEmpty}, empty + far: {1, api.ErrEmpty}, empty + "s: s; x: x;": {1, api.ErrEmpty},
		dry + "x: ;": {2, api.ErrReach}, dry + "x: x;": {2, api.ErrReach}, "s: s; x: ; y: y;": {2, api.ErrReach}, "x: x; s: ; start s;": {1, api.ErrReach},
		"s: x; x: x; y: ;": {3, api.ErrReach}, "token a /a?/; token b /b?/; s: s; x: ;": {0, api.ErrEmpty}, "s: y s | z; y: y; z: z;": {1, api.ErrDry}, "s: y z | ; y: ; z: z;": {3, api.ErrDry},
	} {
		g := good(t, s)
		holds(t, s, g, want)
		// not sound, beside all of that
		for _, change := range []func(g *api.Grammar){
			func(g *api.Grammar) { g.Start = -1 }, func(g *api.Grammar) { g.Levels = append(g.Levels, api.Level{}) }, func(g *api.Grammar) { g.Levels[0].Side = 1 },
			func(g *api.Grammar) { g.Rules = append(g.Rules, api.Rule{Name: "q", Skip: true}) }, func(g *api.Grammar) { g.Prods = append(g.Prods, api.Prod{}) }, func(g *api.Grammar) { g.Nonts = append(g.Nonts, "left") },
		} {
			g := good(t, s)
			change(&g)
			holds(t, s+" but not sound", g, answer{0, api.ErrArg})
		}
	}
}

// TestWithoutProds: what no text makes: nonterminals that have no production.
func TestWithoutProds(t *testing.T) {
	g := api.Grammar{Levels: make([]api.Level, 1), Nonts: []string{"s", "t", "u"}, Start: 2}
	holds(t, "no productions", g, answer{1, api.ErrReach})
	g.Prods = []api.Prod{prod(2, 1, 3), prod(2)}
	holds(t, "none of s and u", g, answer{1, api.ErrDry})
	g.Prods = append(g.Prods, prod(1))
	holds(t, "none of u", g, answer{3, api.ErrDry})
	g.Prods = slices.Insert(g.Prods, 0, prod(3))
	holds(t, "one of each", g, answer{})
	if !slices.Equal(check.Reached(g), []int{1, 2, 3}) || !slices.Equal(check.Ends(g), []int{1, 2, 3}) {
		t.Error(check.Reached(g), check.Ends(g))
	}
}

func TestReachedAndEnds(t *testing.T) {
	// a way through all of them, up and down, in circles, and the same with an end at one place
	chain := numbered(15, "n#: n# n; ")
	for i := range 15 {
		chain = strings.Replace(chain, fmt.Sprintf("n%d n;", i), fmt.Sprintf("n%d;", i+1), 1)
	}
	down := "n0: ; "
	for i := 1; i < 16; i++ {
		down += fmt.Sprintf("n%d: n%d n%d; ", i, i-1, i-1)
	}
	to := func(first, last int) []int {
		var l []int
		for n := first; n <= last; n++ {
			l = append(l, n)
		}
		return l
	}
	for s, want := range map[string][2][]int{
		"": {}, "token a /a/;": {}, "s: ;": {{1}, {1}}, "s: s;": {{1}, nil}, "token a /a/; s: a;": {{2}, {2}}, "s: ; x: ;": {{1}, {1, 2}},
		"token a /a/; s: x a; x: y | a; y: y; z: ;": {{2, 3, 4}, {2, 3, 5}},
		"s: t; t: s;": {{1, 2}, nil}, "s: t; t: u; u: s | v; v: ; w: w v;": {{1, 2, 3, 4}, {1, 2, 3, 4}}, "start w; s: t; t: s; u: v; v: s; w: u;": {{1, 2, 3, 4, 5}, nil},
		"start u; s: ; t: s; u: s;":                     {{1, 3}, {1, 2, 3}},
		"token a /a/; start c; b: a; c: d b; d: d a;":   {{2, 3, 4}, {2}},
		"skip w /w/; token a /a/; s: a t; t: u a; u: ;": {{2, 3, 4}, {2, 3, 4}},
		chain + "n15: ;":                                {to(1, 16), to(1, 16)}, chain + "n15: n0;": {to(1, 16), nil}, chain + "n15: n15;": {to(1, 16), nil}, chain + "start n15; n15: ;": {{16}, to(1, 16)}, chain + "start n9; n15: n12;": {to(10, 16), nil}, chain + "start n9; n15: n12 | ;": {to(10, 16), to(1, 16)},
		down: {{1}, to(1, 16)}, down + "start n15;": {to(1, 16), to(1, 16)}, down + "start n7;": {to(1, 8), to(1, 16)}, strings.Replace(down, "n0: ", "n0: n0", 1) + "start n15;": {to(1, 16), nil}, strings.Replace(down, "n5: ", "n5: n5 ", 1) + "start n15;": {to(1, 16), to(1, 5)},
		strings.Replace(down, "n5: ", "n5: n15 ", 1): {{1}, to(1, 5)},
	} {
		g := good(t, s)
		if r, e := check.Reached(g), check.Ends(g); !slices.Equal(r, want[0]) || !slices.Equal(e, want[1]) {
			t.Errorf("%.100q: %v, %v, want %v", s, r, e, want)
		}
	}
	// the greatest there is: each nonterminal leads to all
	g := sized(16, 0, 16, 40, 8)
	for i := range g.Prods {
		for k := range g.Prods[i].Right {
			g.Prods[i].Right[k] = 17 + (i*8+k)%16
		}
	}
	if r, e := check.Reached(g), check.Ends(g); len(r) != 16 || len(e) != 0 {
		t.Error(r, e)
	}
}

// TestReads: what layer 12 reads is sound, at each limit too.
func TestReads(t *testing.T) {
	most := numbered(10, "token t# /x/; ") + numbered(6, "skip w# /x/; ") + "none t3; right t9 t0; " + numbered(15, "n#: % t0 | t1 n# t2 n0; ") + "last: " + strings.Repeat("last ", 8) + strings.Repeat("|", 9) + "; start n7;"
	for _, s := range []string{
		"", "s: ;", whole, most, "abcdefghijklmnop: ; token ABCDEFGHIJKLMNOP /x/; skip _1234567890abcde /y/;", "token a /" + strings.Repeat("x", 30) + "/;",
		numbered(16, "token t# /x/; "), numbered(16, "skip w# /x/; "), numbered(16, "n#: ; "), "s: " + strings.Repeat("|", 39) + ";", numbered(16, "token t# /x/; left t#; ") + "s: t0 % t15;",
	} {
		judged(t, fmt.Sprintf("%.80q", s), good(t, s), true)
	}
	// whole texts, changed at each byte: most aren't read, but what is must be sound
	read := 0
	for i := range len(whole) {
		for _, b := range []byte("ab swt;:|%/#1_\n$") {
			g, _, e := gram.Parse(whole[:i] + string(b) + whole[i+1:])
			if e != api.OK {
				continue
			}
			read++
			judged(t, fmt.Sprintf("%q at %d", b, i), g, true)
		}
	}
	if read < 300 {
		t.Error("too few were read:", read)
	}
}

// TestNewMemory: no two answers share memory, spare room included.
func TestNewMemory(t *testing.T) {
	g := good(t, whole)
	for _, call := range []func(api.Grammar) []int{check.Reached, check.Ends} {
		one, other := call(g), call(g)
		for i := range other[:cap(other)] {
			other[:cap(other)][i] = 77
		}
		if !slices.Equal(one, []int{4, 5, 6}) || !slices.Equal(call(g), []int{4, 5, 6}) {
			t.Error(one, call(g))
		}
	}
}

// TestUnchanged: what is handed in isn't changed, spare room included.
func TestUnchanged(t *testing.T) {
	spare := func() api.Grammar {
		g := good(t, whole)
		g.Rules = append(g.Rules, api.Rule{Name: "spare"})
		g.Nonts = append(g.Nonts, "spare")
		g.Levels = append(g.Levels, level(7, 7))
		g.Prods = append(g.Prods, prod(7, 7))
		for i := range g.Prods {
			g.Prods[i].Right = append(g.Prods[i].Right, 77)
		}
		return g
	}
	cut := func(g api.Grammar) api.Grammar {
		g.Rules, g.Nonts, g.Levels, g.Prods = g.Rules[:5], g.Nonts[:3], g.Levels[:4], slices.Clone(g.Prods[:6])
		for i, p := range g.Prods {
			g.Prods[i].Right = p.Right[:len(p.Right)-1]
		}
		return g
	}
	g := spare()
	given := cut(g)
	if n, e := check.Check(given); n != 0 || e != api.OK || !check.Sound(given) || len(check.Reached(given)) != 3 || len(check.Ends(given)) != 3 {
		t.Error(n, e)
	}
	if !reflect.DeepEqual(g, spare()) || !reflect.DeepEqual(given, cut(spare())) {
		t.Error("changed:", g)
	}
}

// TestManyAtOnce: calls at the same time have nothing to do with one another, even of one grammar.
func TestManyAtOnce(t *testing.T) {
	one := good(t, whole)
	var wait sync.WaitGroup
	for n := range 8 {
		g := good(t, numbered(n, "token t# /x/; ")+"s: s | x; x: ; y: y;")
		wait.Go(func() {
			for range 50 {
				if r, e := check.Reached(g), check.Ends(g); !slices.Equal(r, []int{n + 1, n + 2}) || !slices.Equal(e, r) {
					t.Error(n, r, e)
				}
				if sym, e := check.Check(g); sym != n+3 || e != api.ErrReach {
					t.Error(n, sym, e)
				}
				if sym, e := check.Check(one); sym != 0 || e != api.OK || !check.Sound(one) {
					t.Error(sym, e)
				}
			}
		})
	}
	wait.Wait()
}
