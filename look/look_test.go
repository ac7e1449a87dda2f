package look_test

import (
	"fmt"
	"slices"
	"strconv"
	"strings"
	"testing"

	"topiary/api"
	"topiary/auto"
	"topiary/check"
	"topiary/first"
	"topiary/gram"
	"topiary/look"
	"topiary/sets"
)

// abc are three terminals and a rule that is left out, ahead of the nonterminals of a grammar's text.
const abc = "token a /a/; skip w / /; token b /b/; token c /c/; "

// whole is a text of a grammar that has something of everything: terminals a 1, b 2, c 3; nonterminals s 4, t 5, u 6, v 7, of which v isn't reached; productions 0 and 1 of s, 2 and 3 of t, 4 and 5 of u, 6 and 7 of v.
const whole = abc + "left a; none c; s: t u c | a; t: t b | ; u: t | a s % b; v: u v c | v;"

// good is the grammar of a text that has no fault.
func good(t *testing.T, s string) api.Grammar {
	t.Helper()
	g, at, e := gram.Parse(s)
	if e != api.OK {
		t.Fatalf("Parse(%.200q): %d, %v", s, at, e)
	}
	return g
}

// numbered is n items, each made of its number.
func numbered(n int, item string) string {
	var out strings.Builder
	for i := range n {
		out.WriteString(strings.NewReplacer("#", fmt.Sprint(i), "@", fmt.Sprint(i+1)).Replace(item))
	}
	return out.String()
}

func prod(left int, right ...int) api.Prod { return api.Prod{Left: left, Right: right} }

func item(prod, dot int) api.Item { return api.Item{Prod: prod, Dot: dot} }

// symbols is how many symbols a grammar has, the end among them.
func symbols(g api.Grammar) int { return 1 + gram.Terms(g) + len(g.Nonts) }

// text is symbols as their names tell them, with blanks between; $ is the end.
func text(t *testing.T, g api.Grammar, s string) []int {
	t.Helper()
	var syms []int
	for _, name := range strings.Fields(s) {
		sym := 0
		for sym < symbols(g) && gram.Name(g, sym) != name {
			sym++
		}
		if sym == symbols(g) {
			t.Fatalf("no symbol %q", name)
		}
		syms = append(syms, sym)
	}
	return syms
}

// built is the automaton of a grammar that has one.
func built(t *testing.T, what string, g api.Grammar) []api.State {
	t.Helper()
	l, e := auto.Build(g)
	if e != api.OK {
		t.Fatalf("%.200s: %v", what, e)
	}
	return l
}

// looks are those that lines tell: a text that leads to a state, a > and what is done there, with a ; between: its production and the terminals. Of states that no line names nothing is.
func looks(t *testing.T, g api.Grammar, l []api.State, lines []string) [][]api.Look {
	t.Helper()
	all := make([][]api.Look, len(l))
	for _, line := range lines {
		way, done, _ := strings.Cut(line, ">")
		n := auto.Walk(l, 0, text(t, g, way))
		if n < 0 || all[n] != nil {
			t.Fatalf("%q leads nowhere, or where another line does", line)
		}
		for _, one := range strings.Split(done, ";") {
			prod, terms, _ := strings.Cut(strings.TrimSpace(one), " ")
			p, e := strconv.Atoi(prod)
			if e != nil {
				t.Fatal(line)
			}
			all[n] = append(all[n], api.Look{Prod: p, Terms: text(t, g, terms)})
		}
	}
	return all
}

func sameLooks(a, b [][]api.Look) bool {
	return slices.EqualFunc(a, b, func(x, y []api.Look) bool {
		return slices.EqualFunc(x, y, func(x, y api.Look) bool { return x.Prod == y.Prod && slices.Equal(x.Terms, y.Terms) })
	})
}

// copied is a list in memory of its own.
func copied(m [][]api.Look) [][]api.Look {
	all := make([][]api.Look, len(m))
	for n := range m {
		all[n] = slices.Clone(m[n])
		for i := range all[n] {
			all[n][i].Terms = slices.Clone(all[n][i].Terms)
		}
	}
	return all
}

// told is what Of tells of a grammar and its automaton, twice alike, and held to what holds of all.
func told(t *testing.T, what string, g api.Grammar, l []api.State) [][]api.Look {
	t.Helper()
	m, e := look.Of(g, l)
	if e != api.OK {
		t.Fatalf("%.200s: %v", what, e)
	}
	again, e := look.Of(g, l)
	if e != api.OK || !sameLooks(m, again) {
		t.Fatalf("%.200s: told twice, and not alike", what)
	}
	behind(t, what, g, m)
	return m
}

// behind holds lookaheads to P18.2; and as what stands behind a nonterminal does so behind one of its moves, all lookaheads of a production together are that, and those of the added one are the end.
func behind(t *testing.T, what string, g api.Grammar, m [][]api.Look) {
	t.Helper()
	all := map[int][]int{}
	for n, done := range m {
		for i, one := range done {
			if i > 0 && done[i-1].Prod >= one.Prod || !sets.Is(one.Terms) {
				t.Errorf("%.200s: state %d: not rising: %v", what, n, done)
			}
			all[one.Prod] = sets.Union(all[one.Prod], one.Terms)
		}
	}
	if !slices.Equal(all[-1], []int{0}) {
		t.Errorf("%.200s: of the added production %v", what, all[-1])
	}
	stands := first.Behind(g)
	reached := check.Reached(g)
	for n, p := range g.Prods {
		_, done := all[n]
		if done != sets.Has(reached, p.Left) || done && len(sets.Less(all[n], stands[p.Left])) > 0 {
			t.Errorf("%.200s: production %d: done %t, %v, of which some aren't in %v", what, n, done, all[n], stands[p.Left])
		}
		if done && !slices.Equal(all[n], stands[p.Left]) {
			t.Errorf("%.200s: production %d: all together %v, want %v", what, n, all[n], stands[p.Left])
		}
	}
}

// whats are texts of grammars, and what is done as lines tell it.
func whats() map[string][]string {
	return map[string][]string{
		"token a /a/; s: a s | ;": {"> 1 $", "a > 1 $", "s > -1 $", "a s > 0 $"},
		whole:                     {"> 3 a b c", "a > 1 $ c", "s > -1 $", "t > 3 b c", "t a > 3 a b c", "t b > 2 a b c", "t t > 4 c", "t a s > 5 c", "t u c > 0 $ c"},
		// with an empty right side: in state 0, there several, in closures alone, and beside what else is done
		"s: ;":                                  {"> 0 $", "s > -1 $"},
		"s: | ;":                                {"> 0 $; 1 $", "s > -1 $"},
		"s: s s | ;":                            {"> 1 $", "s > -1 $; 1 $", "s s > 0 $; 1 $"},
		abc + "s: u | t | c | b | a; t: ; u: ;": {"> 5 $; 6 $", "a > 4 $", "b > 3 $", "c > 2 $", "s > -1 $", "t > 1 $", "u > 0 $"},
		abc + "s: t t t t t t t t; t: | a;":     {"> 1 $ a", "a > 2 $ a", "s > -1 $", "t > 1 $ a", "t t > 1 $ a", "t t t > 1 $ a", "t t t t > 1 $ a", "t t t t t > 1 $ a", "t t t t t t > 1 $ a", "t t t t t t t > 1 $", "t t t t t t t t > 0 $"},
		// nothing is done in state 0, nor in those between
		abc + "s: b;":     {"b > 0 $", "s > -1 $"},
		abc + "s: a b c;": {"s > -1 $", "a b c > 0 $"},
		// the added one ahead of others
		"s: s;":                       {"s > -1 $; 0 $"},
		abc + "s: t; t: s b | s | c;": {"c > 3 $ b", "s > -1 $; 2 $ b", "t > 0 $ b", "s b > 1 $ b"},
		// behind the dot's nonterminal: a terminal, that vanish or not, by one symbol or by several, up to the end, or not
		abc + "s: x a | b; x: ;":               {"> 2 a", "b > 1 $", "s > -1 $", "x a > 0 $"},
		abc + "s: x y a; x: ; y: | b;":         {"> 1 a b", "s > -1 $", "x > 2 a", "x b > 3 a", "x y a > 0 $"},
		abc + "s: x y; x: ; y: | b;":           {"> 1 $ b", "s > -1 $", "x > 2 $", "x b > 3 $", "x y > 0 $"},
		abc + "s: x y; x: ; y: b;":             {"> 1 b", "s > -1 $", "x b > 2 $", "x y > 0 $"},
		abc + "s: x y z; x: ; y: | b; z: | c;": {"> 1 $ b c", "s > -1 $", "x > 2 $ c", "x b > 3 $ c", "x y > 4 $", "x y c > 5 $", "x y z > 0 $"},
		abc + "s: x y z x; x: ; y: ; z: ;":     {"> 1 $", "s > -1 $", "x > 2 $", "x y > 3 $", "x y z > 1 $", "x y z x > 0 $"},
		abc + "s: x y z a; x: ; y: ; z: ;":     {"> 1 a", "s > -1 $", "x > 2 a", "x y > 3 a", "x y z a > 0 $"},
		abc + "s: x y a; x: y | ; y: x b | ;":  {"> 2 a b; 4 a b", "s > -1 $", "x > 2 b; 4 a b", "y > 1 a b", "x b > 3 a b", "x y > 1 b", "x y a > 0 $"},
		// that can't end: it begins with nothing, and doesn't vanish
		abc + "s: x y; x: ; y: y b;":              {"> 1", "s > -1 $", "x y > 0 $", "x y b > 2 $ b"},
		abc + "s: x y; x: ; y: a y;":              {"> 1 a", "s > -1 $", "x y > 0 $", "x a y > 2 $"},
		abc + "s: x y c; x: ; y: z; z: y b;":      {"> 1", "s > -1 $", "x z > 2 b c", "x y b > 3 b c", "x y c > 0 $"},
		abc + "s: x z y c; x: ; z: | b; y: y;":    {"> 1 b", "s > -1 $", "x > 2", "x b > 3", "x z y > 4 c", "x z y c > 0 $"},
		abc + "s: t x; t: y a; y: ; x: x;":        {"> 2 a", "s > -1 $", "t x > 0 $; 3 $", "y a > 1"},
		abc + "s: a t x | b t | t; t: c; x: x a;": {"s > -1 $", "t > 2 $", "a t x > 0 $", "a t x a > 4 $ a", "b t > 1 $", "c > 3 $"},
		// by way of items whose dots are further to the right, over several states
		abc + "s: a x b | x; x: c c c;":             {"s > -1 $", "x > 1 $", "a x b > 0 $", "c c c > 2 $ b"},
		abc + "s: a x b | x; x: c y; y: z; z: c c;": {"s > -1 $", "x > 1 $", "c y > 2 $ b", "c z > 3 $ b", "a x b > 0 $", "c c c > 4 $ b"},
		// two states with the same item done, and other lookaheads
		abc + "s: a x b | x; x: ;":              {"> 2 $", "a > 2 b", "s > -1 $", "x > 1 $", "a x b > 0 $"},
		abc + "s: a x a | b x b | b c; x: c;":   {"s > -1 $", "a c > 3 a", "b c > 2 $; 3 b", "a x a > 0 $", "b x b > 1 $"},
		abc + "s: l b r | r; l: a r | c; r: l;": {"c > 3 $ b", "s > -1 $", "l > 4 $", "r > 1 $", "a l > 4 $ b", "a r > 2 $ b", "l b r > 0 $"},
		// states that meet: what is done there has the lookaheads of all ways
		"token a /a/; token b /b/; token c /c/; token d /d/; token e /e/; s: a x d | b y d | a y e | b x e; x: c; y: c;": {"s > -1 $", "a c > 4 d e; 5 d e", "a x d > 0 $", "a y e > 2 $", "b x e > 3 $", "b y d > 1 $"},
		"token i /i/; token e /e/; token x /x/; s: i s | i s e s | x;":                                                   {"x > 2 $ e", "s > -1 $", "i s > 0 $ e", "i s e s > 1 $ e"},
		"token n /n/; token p /p/; token t /t/; left p; left t; e: e p e | e t e | n;":                                   {"n > 2 $ p t", "e > -1 $", "e p e > 0 $ p t", "e t e > 1 $ p t"},
		abc + "s: t | u; t: a b; u: a b;":    {"s > -1 $", "t > 0 $", "u > 1 $", "a b > 2 $; 3 $"},
		abc + "s: t c | u b | a; t: u; u: ;": {"> 4 b c", "a > 2 $", "s > -1 $", "u > 3 c", "t c > 0 $", "u b > 1 $"},
		abc + "s: a | a;":                    {"a > 0 $; 1 $", "s > -1 $"},
		// the same production in several states
		abc + "s: a x | b x a | x b | c; x: ; y: ;": {"> 4 b", "a > 4 $", "b > 4 a", "c > 3 $", "s > -1 $", "a x > 0 $", "b x a > 1 $", "x b > 2 $"},
		// circles: what ends in itself, two that end in each other, what vanishes in one
		abc + "s: x c; x: a x | ;":                    {"> 2 c", "a > 2 c", "s > -1 $", "a x > 1 c", "x c > 0 $"},
		abc + "s: x c; x: a y | ; y: x | b;":          {"> 2 c", "a > 2 c", "s > -1 $", "a b > 4 c", "a x > 3 c", "a y > 1 c", "x c > 0 $"},
		abc + "s: x c | b y; x: a y | ; y: b x | ;":   {"> 3 c", "a > 5 $ c", "b > 5 $", "s > -1 $", "a b > 3 $ c", "a y > 2 $ c", "b y > 1 $", "x c > 0 $", "a b x > 4 $ c"},
		"s: s | t; t: s | ;":                          {"> 3 $", "s > -1 $; 0 $; 2 $", "t > 1 $"},
		abc + "s: x a; x: x y | ; y: x | b;":          {"> 2 a b", "s > -1 $", "x > 2 a b", "x a > 0 $", "x b > 4 a b", "x x > 2 a b; 3 a b", "x y > 1 a b"},
		abc + "s: x; x: a x | y; y: b x | b y | ;":    {"> 5 $", "a > 5 $", "b > 5 $", "s > -1 $", "x > 0 $", "y > 2 $", "a x > 1 $", "b x > 3 $", "b y > 2 $; 4 $"},
		abc + "s: x a | y b; x: y | c; y: x | c x x;": {"c > 3 a b c", "s > -1 $", "x > 4 a b", "y > 2 a b", "c x > 4 c", "c y > 2 a b c", "x a > 0 $", "y b > 1 $", "c x x > 4 a b c; 5 a b c"},
		// states in a circle
		abc + "s: a s b | c;":                      {"c > 1 $ b", "s > -1 $", "a s b > 0 $ b"},
		abc + "s: a t | ; t: b s;":                 {"> 1 $", "s > -1 $", "a b > 1 $", "a t > 0 $", "a b s > 2 $"},
		abc + "s: a t c | b t; t: b u; u: a s | ;": {"s > -1 $", "a b > 4 $ c", "b t > 1 $ c", "a b u > 2 $ c", "a t c > 0 $ c", "a b a s > 3 $ c"},
		// the start symbol in right sides: to the left, on both sides
		abc + "s: s a | b;":                {"b > 1 $ a", "s > -1 $", "s a > 0 $ a"},
		abc + "s: s a s | b;":              {"b > 1 $ a", "s > -1 $", "s a s > 0 $ a"},
		abc + "start u; s: u a; u: b | s;": {"b > 1 $ a", "s > 2 $ a", "u > -1 $", "u a > 0 $ a"},
		// nonterminals that aren't reached, and that lead to reached ones
		abc + "s: a; x: b y; y: x | ;":       {"a > 0 $", "s > -1 $"},
		abc + "s: t a; t: ; x: t b | x t c;": {"> 1 a", "s > -1 $", "t a > 0 $"},
		"x: ; y: z; z: y z; start x;":        {"> 0 $", "x > -1 $"},
	}
}

func TestOf(t *testing.T) {
	for s, lines := range whats() {
		g := good(t, s)
		l := built(t, s, g)
		if m, want := told(t, s, g, l), looks(t, g, l, lines); !sameLooks(m, want) {
			t.Errorf("%q: %v, want %v", s, m, want)
		}
	}
}

// TestNoProds: of a nonterminal that has no production, which no text tells.
func TestNoProds(t *testing.T) {
	g := api.Grammar{Levels: make([]api.Level, 1), Nonts: []string{"s"}, Start: 1}
	for s, c := range map[string]struct {
		g     api.Grammar
		lines []string
	}{
		"one":             {g, []string{"s > -1 $"}},
		"the last of two": {api.Grammar{Levels: make([]api.Level, 1), Nonts: []string{"s", "t"}, Start: 2}, []string{"t > -1 $"}},
		"behind the dot":  {api.Grammar{Levels: make([]api.Level, 1), Nonts: []string{"s", "t"}, Prods: []api.Prod{prod(1, 2, 1)}, Start: 1}, []string{"s > -1 $", "t s > 0 $"}},
		"behind a symbol": {api.Grammar{Levels: make([]api.Level, 1), Nonts: []string{"s", "t"}, Prods: []api.Prod{prod(1, 1, 2), prod(1)}, Start: 1}, []string{"> 1 $", "s > -1 $", "s t > 0 $"}},
	} {
		l := built(t, s, c.g)
		if m, want := told(t, s, c.g, l), looks(t, c.g, l, c.lines); !sameLooks(m, want) {
			t.Errorf("%s: %v, want %v", s, m, want)
		}
	}
}

// branches is a grammar with n states beside 0 and that of the start symbol: each is behind a text that no other one is behind.
func branches(t *testing.T, n int) api.Grammar {
	t.Helper()
	g := good(t, numbered(16, "token t# /x/; ")+"s: ;")
	g.Prods = nil
	for k := 0; n > 0; k++ {
		right := slices.Repeat([]int{16}, 8)
		right[0] = 1 + k%15
		count := min(n, 8)
		if k < 15 {
			right = right[:count]
		} else {
			// it begins as an earlier one, and goes off by its second symbol
			right[1] = k / 15
			count = min(n, 7)
			right = right[:count+1]
		}
		n -= count
		g.Prods = append(g.Prods, prod(17, right...))
	}
	if !check.Sound(g) {
		t.Fatalf("not sound: %v", g)
	}
	return g
}

// TestMost: as much of everything as there may be.
func TestMost(t *testing.T) {
	tokens := numbered(16, "token t# /x/; ")
	all := "$ " + numbered(16, "t# ")
	for s, lines := range map[string][]string{
		// a lookahead of all terminals and the end
		tokens + "s: s s | t0 t0; " + numbered(14, "n#: ; "):       {"s > -1 $", "s s > 0 $ t0", "t0 t0 > 1 $ t0"},
		tokens + "s: x s | ; x: " + numbered(15, "t# | ") + "t15;": {"> 1 $", "s > -1 $", "x > 1 $", "x s > 0 $", "t0 > 2 " + all, "t1 > 3 " + all, "t2 > 4 " + all, "t3 > 5 " + all, "t4 > 6 " + all, "t5 > 7 " + all, "t6 > 8 " + all, "t7 > 9 " + all, "t8 > 10 " + all, "t9 > 11 " + all, "t10 > 12 " + all, "t11 > 13 " + all, "t12 > 14 " + all, "t13 > 15 " + all, "t14 > 16 " + all, "t15 > 17 " + all},
		// as many productions done in one state as there may be
		"s: " + numbered(39, "| ") + ";": {"> " + numbered(39, "# $; ") + "39 $", "s > -1 $"},
		// what is behind the first of as many nonterminals as there may be, goes through all of them, in the order of the productions, and the other way round
		tokens + numbered(15, "n#: t# n@; ") + "n15: t15 | n0 t0;":   nil,
		tokens + "n0: n15 t0; " + numbered(15, "n@: n# | ; "):        nil,
		tokens + numbered(15, "n#: n@ t# | ; ") + "n15: n0 n15 t15;": nil,
		tokens + numbered(15, "n#: n@ n@ n@ n@; ") + "n15: | t15;":   nil,
	} {
		g := good(t, s)
		l := built(t, s, g)
		m := told(t, s, g, l)
		if want := byWords(g, l); !sameLooks(m, want) {
			t.Errorf("%q: %v, want %v", s, m, want)
		}
		if want := looks(t, g, l, lines); lines != nil && !sameLooks(m, want) {
			t.Errorf("%q: %v, want %v", s, m, want)
		}
	}
	// as many states as there may be
	for _, n := range []int{1, 8, 120, 237, 238} {
		g := branches(t, n)
		l := built(t, fmt.Sprint(n), g)
		m := told(t, fmt.Sprint(n), g, l)
		if want := byWords(g, l); len(m) != n+2 || !sameLooks(m, want) {
			t.Errorf("%d: %v, want %v", n, m, want)
		}
	}
}
