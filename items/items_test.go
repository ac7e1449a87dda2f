package items_test

import (
	"fmt"
	"math"
	"reflect"
	"slices"
	"strconv"
	"strings"
	"sync"
	"testing"

	"topiary/api"
	"topiary/check"
	"topiary/gram"
	"topiary/items"
)

// abc are three terminals and a rule that is left out, ahead of the nonterminals of a grammar's text.
const abc = "token a /a/; skip w / /; token b /b/; token c /c/; "

// whole is a text of a grammar that has something of everything: terminals a 1, b 2, c 3; nonterminals s 4, t 5, u 6, v 7, of which v isn't reached; productions 0 and 1 of s, 2 and 3 of t, 4 and 5 of u, 6 and 7 of v.
const whole = abc + "left a; none c; s: t u c | a; t: t b | ; u: t | a s % b; v: u v c | v;"

// good is the grammar of a text that has no fault.
func good(t *testing.T, s string) api.Grammar {
	t.Helper()
	g, at, e := gram.Parse(s)
	if e != api.OK {
		t.Fatalf("Parse(%.200q): %d, %v", s, at, e)
	}
	return g
}

// numbered is n items, each made of its number.
func numbered(n int, item string) string {
	var out strings.Builder
	for i := range n {
		out.WriteString(strings.NewReplacer("#", fmt.Sprint(i), "@", fmt.Sprint(i+1)).Replace(item))
	}
	return out.String()
}

func prod(left int, right ...int) api.Prod { return api.Prod{Left: left, Right: right} }

func item(prod, dot int) api.Item { return api.Item{Prod: prod, Dot: dot} }

// list is items as a text tells them: Prod, a comma and Dot, with blanks between; just Prod, if Dot is 0.
func list(t *testing.T, s string) []api.Item {
	t.Helper()
	var l []api.Item
	for _, one := range strings.Fields(s) {
		first, second, ok := strings.Cut(one, ",")
		if !ok {
			second = "0"
		}
		p, e := strconv.Atoi(first)
		d, f := strconv.Atoi(second)
		if e != nil || f != nil {
			t.Fatal(s)
		}
		l = append(l, item(p, d))
	}
	return l
}

// symbol is the number of a name; $ is the end.
func symbol(t *testing.T, g api.Grammar, name string) int {
	t.Helper()
	for sym := range gram.Terms(g) + 1 + len(g.Nonts) {
		if gram.Name(g, sym) == name {
			return sym
		}
	}
	t.Fatalf("no symbol %q", name)
	return 0
}

// strange are numbers of which none is a symbol, a production or a Dot of any grammar here.
func strange() []int {
	return []int{-2, -3, 42, 99, 1 << 32, 1<<32 + 1, -1 << 32, 1 - 1<<32, -1 - 1<<32, math.MaxInt, math.MaxInt - 1, math.MinInt, math.MinInt + 1}
}

// every is each item of a grammar, rising.
func every(g api.Grammar) []api.Item {
	l := []api.Item{item(-1, 0), item(-1, 1)}
	for n, p := range g.Prods {
		for dot := range len(p.Right) + 1 {
			l = append(l, item(n, dot))
		}
	}
	return l
}

// turned is a list that doesn't rise: the items from the last one on, with the first one of them behind again.
func turned(l []api.Item) []api.Item {
	l = slices.Clone(l)
	slices.Reverse(l)
	if len(l) > 0 {
		l = append(l, l[0])
	}
	return l
}

// wrong asks that a list isn't right, and leads nowhere.
func wrong(t *testing.T, what string, g api.Grammar, l []api.Item) {
	t.Helper()
	if items.Right(g, l) {
		t.Errorf("%s: right: %.200s", what, fmt.Sprint(l))
	}
	if got := items.Closure(g, l); len(got) != 0 {
		t.Errorf("%s: Closure of %.200s: %.200s", what, fmt.Sprint(l), fmt.Sprint(got))
	}
	for _, sym := range append(strange(), -1, 0, 1, 2, 3, 4, 5, 6, 7, 8) {
		if got := items.Goto(g, l, sym); len(got) != 0 {
			t.Errorf("%s: Goto of %.200s by %d: %.200s", what, fmt.Sprint(l), sym, fmt.Sprint(got))
		}
	}
}

// led holds Goto to want.
func led(t *testing.T, what string, g api.Grammar, l []api.Item, sym int, want []api.Item) {
	t.Helper()
	for range 2 {
		if got := items.Goto(g, l, sym); !slices.Equal(got, want) {
			t.Errorf("%s: Goto of %.200s by %d: %.200s, want %.200s", what, fmt.Sprint(l), sym, fmt.Sprint(got), fmt.Sprint(want))
		}
	}
}

// closed holds Closure to want, of a list in any order and of the closure itself, and Goto of both to what want has.
func closed(t *testing.T, what string, g api.Grammar, l, want []api.Item) {
	t.Helper()
	for _, from := range [][]api.Item{l, l, turned(l), want, turned(want)} {
		if !items.Right(g, from) {
			t.Errorf("%s: not right: %.200s", what, fmt.Sprint(from))
		}
		if got := items.Closure(g, from); !slices.Equal(got, want) {
			t.Errorf("%s: Closure of %.200s: %.200s, want %.200s", what, fmt.Sprint(from), fmt.Sprint(got), fmt.Sprint(want))
		}
	}
	if got := items.Closure(g, items.Closure(g, l)); !slices.Equal(got, want) {
		t.Errorf("%s: Closure of Closure of %.200s: %.200s, want %.200s", what, fmt.Sprint(l), fmt.Sprint(got), fmt.Sprint(want))
	}
	for sym := -1; sym <= gram.Terms(g)+len(g.Nonts)+1; sym++ {
		var next []api.Item
		for _, x := range want {
			if sym > 0 && items.Next(g, x) == sym {
				next = append(next, item(x.Prod, x.Dot+1))
			}
		}
		for _, from := range [][]api.Item{l, turned(l), want} {
			led(t, what, g, from, sym, next)
		}
	}
}

func TestRight(t *testing.T) {
	for s, each := range map[string]struct{ right, wrong []string }{
		whole: {
			right: []string{
				"", "-1", "-1,1", "0", "0,1", "0,2", "0,3", "1", "1,1", "2,1", "2,2", "5,2", "6,3", "7", "7,1",
				// of an empty right side
				"3",
				// twice, and in any order
				"0,1 0,1", "3 3 3", "-1 -1", "7,1 -1", "0,3 0,2 0,1 0", "3 2 1 0 -1", "2 1,1 7 -1,1 2 0,2 1",
			},
			wrong: []string{
				"-1,2", "-1,3", "-1,-1", "0,4", "0,5", "0,-1", "1,2", "1,-1", "2,3", "4,2", "5,3", "6,4", "7,2", "7,-1", "3,1", "3,-1", "3,8",
				"-2", "-2,1", "-2,-1", "-3", "-8", "8", "8,1", "8,-1", "9", "16", "40",
				// the first, the last one, among right ones, twice, between
				"0,4 0 1", "0 1 0,4", "0 0,4 1", "0,4 0,4", "-2 -1 0", "-1 0 8", "-1 8 0 1", "0 1 2 3,1 4 5", "-1,2 -1,1 -1", "-1 -1,1 -1,2", "7 7,1 7,2", "0,-1 0", "8 -2",
			},
		},
		"s: ;":                           {right: []string{"", "-1", "-1,1", "0", "0 -1,1 0"}, wrong: []string{"0,1", "1", "-1,2", "-2", "0,-1", "0 0,1"}},
		"s: s s s s s s s s | ;":         {right: []string{"0", "0,7", "0,8", "1", "-1"}, wrong: []string{"0,9", "0,10", "1,1", "2", "0,8 0,9", "1 0,9"}},
		abc + "s: a; x: b c; y: y;":      {right: []string{"0", "1,2", "2,1", "-1,1"}, wrong: []string{"0,2", "1,3", "2,2", "3", "-1,2"}},
		"n: " + numbered(39, "| ") + ";": {right: []string{"0", "39", "39 0 39"}, wrong: []string{"40", "39,1", "41", "39 40", "0,1"}},
		abc + "left a b; s: a % b;":      {right: []string{"0,1", "-1,1 0"}, wrong: []string{"0,2", "1"}},
		"start z; y: z z; z: y | y;":     {right: []string{"0,2", "1,1", "2,1", "-1"}, wrong: []string{"0,3", "1,2", "2,2", "3"}},
	} {
		g := good(t, s)
		for _, l := range each.right {
			if !items.Right(g, list(t, l)) || !items.Right(g, turned(list(t, l))) {
				t.Errorf("%q: not right: %s", s, l)
			}
		}
		for _, l := range each.wrong {
			wrong(t, s, g, list(t, l))
		}
	}
}

// TestItems: which pairs of numbers are items, each alone and with all items that there are.
func TestItems(t *testing.T) {
	for _, s := range []string{whole, "s: ;", abc + "x: a b c | ; s: x x x x x x x x; start s;", numbered(16, "token t# /x/; ") + numbered(16, "n#: t# n#; ")} {
		g := good(t, s)
		all := every(g)
		if !items.Right(g, nil) || !items.Right(g, []api.Item{}) || !items.Right(g, all) || !items.Right(g, turned(all)) {
			t.Errorf("%q: not right: none or all", s)
		}
		numbers := strange()
		for n := -1; n <= 41; n++ {
			numbers = append(numbers, n)
		}
		for _, p := range numbers {
			for _, dot := range numbers {
				x := item(p, dot)
				is := slices.Contains(all, x)
				if items.Right(g, []api.Item{x}) != is || items.Right(g, append(slices.Clone(all), x)) != is || items.Right(g, append([]api.Item{x}, all...)) != is {
					t.Fatalf("%q: %v, want %t", s, x, is)
				}
				if next := items.Next(g, x); !is && next != 0 {
					t.Fatalf("%q: %v: Next %d", s, x, next)
				}
			}
		}
	}
}

func TestSide(t *testing.T) {
	for s, want := range map[string][][]int{
		// that of -1, then those of the productions
		whole:                          {{4}, {5, 6, 3}, {1}, {5, 2}, nil, {5}, {1, 4}, {6, 7, 3}, {7}},
		abc + "start u; s: u a; u: b;": {{5}, {5, 1}, {2}},
		"s: ;":                         {{1}, nil},
		"s: s;":                        {{1}, {1}},
		"s: | s s | ;":                 {{1}, nil, {1, 1}, nil},
		"skip v /v/; s: ; skip w /w/;": {{1}, nil},
		"s: ; token a /a/; x: a x a; start x; token b /b/; y: x y s;": {{4}, nil, {1, 4, 1}, {4, 5, 3}},
		"s: s s s s s s s s;": {{1}, {1, 1, 1, 1, 1, 1, 1, 1}},
		"s: x; x: s | ;":      {{1}, {2}, {1}, nil},
	} {
		g := good(t, s)
		if len(want) != len(g.Prods)+1 {
			t.Fatal(s, len(want))
		}
		for range 2 {
			for i, side := range want {
				if got := items.Side(g, i-1); !slices.Equal(got, side) {
					t.Errorf("%q: %d: %v, want %v", s, i-1, got, side)
				}
			}
			for _, n := range append(strange(), len(g.Prods), len(g.Prods)+1, -len(g.Prods)-1, -4) {
				if got := items.Side(g, n); len(got) != 0 {
					t.Errorf("%q: %d: %v", s, n, got)
				}
			}
		}
	}
}

func TestNext(t *testing.T) {
	for s, want := range map[string]map[string]int{
		whole: {
			"-1": 4, "-1,1": 0, "0": 5, "0,1": 6, "0,2": 3, "0,3": 0, "1": 1, "1,1": 0, "2": 5, "2,1": 2, "2,2": 0, "3": 0, "4": 5, "4,1": 0, "5": 1, "5,1": 4, "5,2": 0, "6": 6, "6,1": 7, "6,2": 3, "6,3": 0, "7": 7, "7,1": 0,
			// no items
			"-1,2": 0, "-1,-1": 0, "0,4": 0, "0,-1": 0, "3,1": 0, "3,-1": 0, "7,2": 0, "8": 0, "8,1": 0, "-2": 0, "-2,1": 0, "-3": 0, "40": 0,
		},
		abc + "start u; s: u a; u: b;": {"-1": 5, "-1,1": 0, "0": 5, "0,1": 1, "0,2": 0, "1": 2, "1,1": 0, "1,2": 0, "2": 0},
		"s: ;":                         {"-1": 1, "-1,1": 0, "0": 0, "0,1": 0, "1": 0},
		"s: s s s s s s s s;":          {"0,7": 1, "0,8": 0, "0,9": 0, "0,6": 1},
	} {
		g := good(t, s)
		for x, next := range want {
			for range 2 {
				if got := items.Next(g, list(t, x)[0]); got != next {
					t.Errorf("%q: %s: %d, want %d", s, x, got, next)
				}
			}
		}
	}
	// of each item: the symbol of its right side
	for _, s := range []string{whole, numbered(16, "token t# /x/; ") + numbered(16, "n#: t# n# t0; ")} {
		g := good(t, s)
		for _, x := range every(g) {
			want := append(items.Side(g, x.Prod), 0)[x.Dot]
			if got := items.Next(g, x); got != want {
				t.Errorf("%q: %v: %d, want %d", s, x, got, want)
			}
		}
	}
}

func TestClosure(t *testing.T) {
	for s, want := range map[string]map[string]string{
		whole: {
			"": "",
			// a terminal or nothing behind the dot: they alone
			"-1,1": "-1,1", "1": "1", "1,1": "1,1", "3": "3", "0,2": "0,2", "0,3": "0,3", "2,1": "2,1", "0,3 1": "0,3 1", "1 0,2": "0,2 1", "5 3 -1,1": "-1,1 3 5", "7,1 6,3 5 4,1 2,2 0,3": "0,3 2,2 4,1 5 6,3 7,1",
			// one step, several, through one's own production
			"-1": "-1 0 1 2 3", "0": "0 2 3", "2": "2 3", "4": "2 3 4", "0,1": "0,1 2 3 4 5", "5,1": "0 1 2 3 5,1", "6": "2 3 4 5 6", "6,1": "2 3 4 5 6 6,1 7", "7": "2 3 4 5 6 7",
			// several at once, of which some lead to the same, or to others
			"-1 0,1": "-1 0 0,1 1 2 3 4 5", "0 4": "0 2 3 4", "2,1 5,1": "0 1 2 2,1 3 5,1", "7,1 0,1 -1,1": "-1,1 0,1 2 3 4 5 7,1", "6,1 5,1": "0 1 2 3 4 5 5,1 6 6,1 7",
			// there already, with Dot 0 and with others
			"-1 0": "-1 0 1 2 3", "-1 3": "-1 0 1 2 3", "2 3": "2 3", "-1 0 1 2 3": "-1 0 1 2 3", "-1 2,1 0,2": "-1 0 0,2 1 2 2,1 3", "0,1 2,1 2,2": "0,1 2 2,1 2,2 3 4 5", "0 0,1 0,2 0,3": "0 0,1 0,2 0,3 2 3 4 5",
		},
		// over many steps, down and up
		numbered(15, "n#: n@; ") + "n15: ;":                            {"-1": "-1 0 1 2 3 4 5 6 7 8 9 10 11 12 13 14 15", "9": "9 10 11 12 13 14 15", "15": "15", "14": "14 15", "14,1": "14,1", "13 3,1": "3,1 13 14 15"},
		"n0: ; " + numbered(15, "n@: n# | ; ") + "start n15;":          {"-1": "-1 0 1 2 3 4 5 6 7 8 9 10 11 12 13 14 15 16 17 18 19 20 21 22 23 24 25 26 27 28 29 30", "7": "0 1 2 3 4 5 6 7", "8": "8", "1": "0 1"},
		abc + "s: t a; t: u b; u: c;":                                  {"-1": "-1 0 1 2", "0": "0 1 2", "1": "1 2", "0,1": "0,1"},
		abc + "u: c; t: u b; s: t a; start s;":                         {"-1": "-1 0 1 2", "2": "0 1 2", "1": "0 1"},
		abc + "v: a; s: t | x; t: v; x: u; u: v b | c; start s; y: s;": {"-1": "-1 0 1 2 3 4 5 6", "1": "0 1 3", "2": "0 2 4 5 6", "7": "0 1 2 3 4 5 6 7"},
		// circles, of one, of several, with ways out, and none that lead in
		"s: s;":                         {"-1": "-1 0", "0": "0", "0,1": "0,1"},
		"s: s s | ;":                    {"-1": "-1 0 1", "0,1": "0 0,1 1", "0,1 0": "0 0,1 1", "0,2": "0,2", "1": "1"},
		"s: t; t: s;":                   {"-1": "-1 0 1", "0": "0 1", "1": "0 1", "0,1 1": "0 0,1 1"},
		"s: t; t: u; u: s t u | ;":      {"-1": "-1 0 1 2 3", "0": "0 1 2 3", "2": "0 1 2 3", "2,1": "0 1 2 2,1 3", "2,2": "0 1 2 2,2 3", "2,3": "2,3"},
		abc + "s: a t; t: u; u: t | s;": {"-1": "-1 0", "0": "0", "0,1": "0 0,1 1 2 3", "1": "0 1 2 3", "2": "0 1 2 3"},
		abc + "e: e a e | b e c | c;":   {"-1": "-1 0 1 2", "0": "0 1 2", "0,1": "0,1", "0,2": "0 0,2 1 2", "1,1": "0 1 1,1 2", "1": "1"},
		abc + "s: a; x: y; y: x | s;":   {"-1": "-1 0", "1": "0 1 2 3", "2": "0 1 2 3", "3": "0 3"},
		// the start symbol that isn't the first, and in productions
		"s: t; t: | s s; start t;":          {"-1": "-1 0 1 2", "0": "0 1 2", "2": "0 1 2", "2,1": "0 1 2 2,1"},
		"start z; y: z z; z: y | y; z1: z;": {"-1": "-1 0 1 2", "3": "0 1 2 3"},
		// a symbol ahead of which another one vanishes isn't behind the dot
		abc + "s: x y; x: ; y: a;": {"-1": "-1 0 1", "0": "0 1", "0,1": "0,1 2"},
		// productions that are told twice are two, and the level has nothing to do with it
		abc + "left a; s: x | x; x: a % b | a | a;": {"-1": "-1 0 1 2 3 4", "0": "0 2 3 4", "1": "1 2 3 4"},
	} {
		g := good(t, s)
		for from, l := range want {
			closed(t, s, g, list(t, from), list(t, l))
		}
	}
}

// TestNoProds: a nonterminal that has no production, which no text tells, brings nothing.
func TestNoProds(t *testing.T) {
	g := api.Grammar{Levels: make([]api.Level, 1), Nonts: []string{"s", "t", "u"}, Start: 2}
	closed(t, "no productions", g, nil, nil)
	closed(t, "no productions", g, list(t, "-1"), list(t, "-1"))
	closed(t, "no productions", g, list(t, "-1,1 -1"), list(t, "-1 -1,1"))
	led(t, "no productions", g, list(t, "-1"), 2, list(t, "-1,1"))
	led(t, "no productions", g, list(t, "-1"), 1, nil)
	wrong(t, "no productions", g, list(t, "0"))
	wrong(t, "no productions", g, list(t, "-1 -1,1 0"))
	g.Prods = []api.Prod{prod(2, 1, 3), prod(2, 3)}
	closed(t, "none of s and u", g, list(t, "-1"), list(t, "-1 0 1"))
	closed(t, "none of s and u", g, list(t, "0"), list(t, "0"))
	closed(t, "none of s and u", g, list(t, "0,1 1"), list(t, "0,1 1"))
	led(t, "none of s and u", g, list(t, "-1"), 1, list(t, "0,1"))
	led(t, "none of s and u", g, list(t, "0,1 -1"), 3, list(t, "0,2 1,1"))
	g.Prods, g.Start = []api.Prod{prod(3, 2), prod(1, 3), prod(3)}, 1
	closed(t, "none of t", g, list(t, "-1"), list(t, "-1 0 1 2"))
	closed(t, "none of t", g, list(t, "0"), list(t, "0"))
}

// TestApart: productions of one nonterminal that don't stand side by side, as no text tells them, are found all the same.
func TestApart(t *testing.T) {
	g := api.Grammar{Levels: make([]api.Level, 1), Nonts: []string{"s", "t"}, Start: 1, Prods: []api.Prod{prod(1, 2), prod(2), prod(1), prod(2, 1), prod(1, 1)}}
	for from, want := range map[string]string{"-1": "-1 0 1 2 3 4", "0": "0 1 2 3 4", "1": "1", "2": "2", "3,1 3": "0 1 2 3 3,1 4", "-1,1": "-1,1", "0,1 2 4,1": "0,1 2 4,1"} {
		closed(t, "apart", g, list(t, from), list(t, want))
	}
	led(t, "apart", g, list(t, "-1"), 1, list(t, "-1,1 3,1 4,1"))
	led(t, "apart", g, list(t, "4"), 2, list(t, "0,1"))
}

func TestGoto(t *testing.T) {
	for s, each := range map[string][]struct{ from, by, want string }{
		whole: {
			// the added item by the start symbol alone, of those that its closure has by others
			{"-1", "s", "-1,1"}, {"-1", "a", "1,1"}, {"-1", "t", "0,1 2,1"}, {"-1", "b", ""}, {"-1", "c", ""}, {"-1", "u", ""}, {"-1", "v", ""}, {"-1,1", "s", ""}, {"-1,1", "a", ""},
			// by a terminal, by a nonterminal
			{"1", "a", "1,1"}, {"2,1", "b", "2,2"}, {"0,2", "c", "0,3"}, {"0", "t", "0,1 2,1"}, {"0,1", "u", "0,2"}, {"5,1", "s", "5,2"}, {"6,1", "v", "6,2 7,1"}, {"7", "v", "7,1"},
			// by an item that only the closure has
			{"0,1", "a", "5,1"}, {"0,1", "t", "2,1 4,1"}, {"5,1", "a", "1,1"}, {"6", "t", "2,1 4,1"}, {"6,1", "a", "5,1"}, {"7", "u", "6,1"}, {"7", "a", "5,1"},
			// by one that stands behind no dot, or only ahead of it
			{"0", "u", ""}, {"0", "c", ""}, {"0,1", "c", ""}, {"0,1", "s", ""}, {"0,2", "u", ""}, {"0,3", "c", ""}, {"3", "t", ""}, {"1,1", "a", ""}, {"", "a", ""}, {"", "s", ""}, {"2", "b", ""}, {"2,2", "b", ""},
			// over several items at once, one of them twice, and in any order
			{"0 4", "t", "0,1 2,1 4,1"}, {"5 1", "a", "1,1 5,1"}, {"5 1 5 1", "a", "1,1 5,1"}, {"6,2 0,2", "c", "0,3 6,3"}, {"0,2 0,2", "c", "0,3"}, {"5,1 -1", "s", "-1,1 5,2"}, {"7 6,1 7", "v", "6,2 7,1"}, {"0,1 -1", "a", "1,1 5,1"}, {"0,1 -1 2", "t", "0,1 2,1 4,1"}, {"0,2 2,1 5", "b", "2,2"},
			// by the end
			{"-1", "$", ""}, {"-1,1", "$", ""}, {"3", "$", ""}, {"0,3", "$", ""}, {"1,1 2,2 3", "$", ""},
		},
		// several dots in one production
		abc + "s: a a a s | ;": {{"0 0,1 0,2", "a", "0,1 0,2 0,3"}, {"0,2 0", "a", "0,1 0,3"}, {"0,3", "a", "0,1"}, {"0,3", "s", "0,4"}, {"0,3 0,1", "a", "0,1 0,2"}, {"-1", "a", "0,1"}, {"-1 0,3", "s", "-1,1 0,4"}},
		"s: s s | ;":           {{"-1", "s", "-1,1 0,1"}, {"0,1", "s", "0,1 0,2"}, {"0", "s", "0,1"}, {"-1 0,1", "s", "-1,1 0,1 0,2"}, {"1", "s", ""}, {"-1,1 0,1", "s", "0,1 0,2"}},
		"s: ;":                 {{"-1", "s", "-1,1"}, {"0", "s", ""}, {"-1,1", "s", ""}, {"0 -1", "s", "-1,1"}},
		// a start symbol that isn't the first nonterminal, and one that stands in no production
		abc + "start t; s: t a; t: s | b;": {{"-1", "t", "-1,1 0,1"}, {"-1", "s", "1,1"}, {"-1", "b", "2,1"}, {"-1", "a", ""}, {"0,1", "a", "0,2"}},
		abc + "s: x y; x: ; y: a;":         {{"-1", "x", "0,1"}, {"-1", "y", ""}, {"-1", "a", ""}, {"0,1", "y", "0,2"}, {"0,1", "a", "2,1"}},
		// productions that are told twice
		abc + "s: x | x; x: a % b | a;": {{"-1", "x", "0,1 1,1"}, {"-1", "a", "2,1 3,1"}, {"1", "x", "1,1"}, {"2", "a", "2,1"}},
	} {
		g := good(t, s)
		for _, c := range each {
			led(t, s, g, list(t, c.from), symbol(t, g, c.by), list(t, c.want))
			led(t, s, g, items.Closure(g, list(t, c.from)), symbol(t, g, c.by), list(t, c.want))
		}
	}
}

// TestGotoStrange: numbers that are no symbol lead nowhere, whatever the items; nor does the end.
func TestGotoStrange(t *testing.T) {
	for _, s := range []string{whole, "s: ;", "s: s;", numbered(16, "token t# /x/; ") + numbered(16, "n#: t# n#; ")} {
		g := good(t, s)
		last := gram.Terms(g) + len(g.Nonts)
		for _, sym := range append(strange(), 0, -1, -last, -last-1, last+1, last+2, 2*last+1) {
			led(t, s, g, nil, sym, nil)
			led(t, s, g, every(g), sym, nil)
			for _, x := range every(g) {
				led(t, s, g, []api.Item{x}, sym, nil)
			}
		}
		// each item moved over what stands behind its dot
		for sym := 1; sym <= last; sym++ {
			var want []api.Item
			for _, x := range every(g) {
				if x.Dot > 0 && items.Side(g, x.Prod)[x.Dot-1] == sym {
					want = append(want, x)
				}
			}
			led(t, s, g, every(g), sym, want)
			led(t, s, g, turned(every(g)), sym, want)
		}
	}
}

// TestMany: lists of any length, of which only the last one may be wrong.
func TestMany(t *testing.T) {
	const many = 1 << 17
	g := good(t, whole)
	closed(t, "one", g, slices.Repeat(list(t, "-1"), many), list(t, "-1 0 1 2 3"))
	closed(t, "several", g, slices.Repeat(list(t, "6,1 5,1 0,3"), many/2), list(t, "0 0,3 1 2 3 4 5 5,1 6 6,1 7"))
	closed(t, "all", g, slices.Repeat(turned(every(g)), many/16), every(g))
	wrong(t, "the last", g, append(slices.Repeat(list(t, "-1 0"), many), item(0, 4)))
	wrong(t, "the first", g, append(list(t, "8"), slices.Repeat(list(t, "-1 0"), many)...))
}

// TestAll: of all items, and of as many as there may be.
func TestAll(t *testing.T) {
	tokens := numbered(16, "token t# /x/; ")
	for _, s := range []string{
		whole, "s: ;",
		tokens + numbered(15, "n#: n@ n@ n@ n@ n@ n@ n@ n@ | ; ") + "n15: n0 n1 n2 n3 n4 n5 n6 n7 | n8 n9 n10 n11 n12 n13 n14 n15 | t0 n0 t1 n1 t2 n2 t3 n3 | t4 n4 t5 n5 t6 n6 t7 n7 | t8 n8 t9 n9 t10 n10 t11 n11 | t12 n12 t13 n13 t14 n14 t15 n15 | t15 | t14 | t13 | ;",
	} {
		g := good(t, s)
		closed(t, s, g, every(g), every(g))
		// with Dot 0, none of which is wanting
		var begun []api.Item
		for n := range g.Prods {
			begun = append(begun, item(n, 0))
		}
		closed(t, s, g, begun, begun)
		closed(t, s, g, append(list(t, "-1,1"), begun...), append(list(t, "-1,1"), begun...))
		// all others bring those with Dot 0 of what stands within
		if len(g.Prods) == 40 {
			closed(t, s, g, list(t, "-1"), append(list(t, "-1"), begun...))
			closed(t, s, g, list(t, "28,1"), append(append(slices.Clone(begun[:29]), item(28, 1)), begun[29:]...))
			if len(every(g)) != 2+21*9+15+4+3 {
				t.Error(len(every(g)))
			}
		}
	}
}

// TestAgain: Closure of Closure is Closure, and Goto of it is that of the list, at each list of at most two items.
func TestAgain(t *testing.T) {
	for _, s := range []string{whole, abc + "e: e a e | b e c | c;", "s: t u; t: s | ; u: u t;", abc + "s: a x | ; x: b | x y; y: s;"} {
		g := good(t, s)
		all := every(g)
		for _, x := range all {
			closed(t, s, g, []api.Item{x}, items.Closure(g, []api.Item{x}))
			for _, y := range all {
				closed(t, s, g, []api.Item{x, y}, items.Closure(g, []api.Item{x, y}))
			}
		}
	}
}

// unsound are changes of whole's grammar behind which it isn't sound.
func unsound() map[string]func(g *api.Grammar) {
	return map[string]func(g *api.Grammar){
		"no Levels":                     func(g *api.Grammar) { g.Levels = nil },
		"a Level more":                  func(g *api.Grammar) { g.Levels = append(g.Levels, api.Level{}) },
		"a Level of the end":            func(g *api.Grammar) { g.Levels[0] = api.Level{Power: 1, Side: 1} },
		"a side of no Level":            func(g *api.Grammar) { g.Levels[2].Side = 1 },
		"no Start":                      func(g *api.Grammar) { g.Start = 0 },
		"a Start that is a terminal":    func(g *api.Grammar) { g.Start = 3 },
		"a Start behind all":            func(g *api.Grammar) { g.Start = 8 },
		"a Start below 0":               func(g *api.Grammar) { g.Start = -1 },
		"a Left that is a terminal":     func(g *api.Grammar) { g.Prods[7].Left = 3 },
		"a Left that is the end":        func(g *api.Grammar) { g.Prods[7].Left = 0 },
		"a Left behind all":             func(g *api.Grammar) { g.Prods[7].Left = 8 },
		"a Left below 0":                func(g *api.Grammar) { g.Prods[7].Left = math.MinInt },
		"the end in a right side":       func(g *api.Grammar) { g.Prods[0].Right[1] = 0 },
		"a number behind all":           func(g *api.Grammar) { g.Prods[0].Right[2] = 8 },
		"a number below 0":              func(g *api.Grammar) { g.Prods[0].Right[0] = -1 },
		"a number far off":              func(g *api.Grammar) { g.Prods[0].Right[0] = math.MaxInt },
		"nine symbols":                  func(g *api.Grammar) { g.Prods[7].Right = slices.Repeat([]int{5}, 9) },
		"a Prec that is a nonterminal":  func(g *api.Grammar) { g.Prods[7].Prec = 4 },
		"a Prec below 0":                func(g *api.Grammar) { g.Prods[7].Prec = -1 },
		"41 productions":                func(g *api.Grammar) { g.Prods = slices.Repeat(g.Prods[:1], 41) },
		"a million productions":         func(g *api.Grammar) { g.Prods = slices.Repeat(g.Prods[:1], 1<<20) },
		"17 nonterminals":               func(g *api.Grammar) { g.Nonts = strings.Fields(numbered(17, "n# ")) },
		"17 rules":                      func(g *api.Grammar) { g.Rules = slices.Repeat(g.Rules[:1], 17) },
		"a rule that isn't right":       func(g *api.Grammar) { g.Rules[0].Re = []api.Cell{{Op: api.RStar}} },
		"a rule without cells":          func(g *api.Grammar) { g.Rules[1].Re = nil },
		"a rule without a name":         func(g *api.Grammar) { g.Rules[2].Name = "" },
		"a rule that isn't left out":    func(g *api.Grammar) { g.Rules[1].Skip = false },
		"a rule that is left out":       func(g *api.Grammar) { g.Rules[0].Skip = true },
		"a name there twice":            func(g *api.Grammar) { g.Nonts[1] = "a" },
		"a nonterminal of a name of 17": func(g *api.Grammar) { g.Nonts[3] = strings.Repeat("n", 17) },
		"a name that says skip":         func(g *api.Grammar) { g.Nonts[3] = "skip" },
		"no nonterminals":               func(g *api.Grammar) { g.Nonts = nil },
	}
}

// nothing asks that a grammar has no items: nothing is told of any.
func nothing(t *testing.T, what string, g api.Grammar) {
	t.Helper()
	numbers := append(strange(), -1, 0, 1, 2, 3, 4, 5, 6, 7, 8, 39, 40)
	for _, p := range numbers {
		if got := items.Side(g, p); len(got) != 0 {
			t.Errorf("%s: Side of %d: %v", what, p, got)
		}
		for _, dot := range []int{0, 1, 2, 3, -1, math.MaxInt, math.MinInt} {
			x := item(p, dot)
			if got := items.Next(g, x); got != 0 {
				t.Errorf("%s: Next of %v: %d", what, x, got)
			}
			if items.Right(g, []api.Item{x}) {
				t.Errorf("%s: right: %v", what, x)
			}
		}
	}
	for _, l := range []string{"", "-1", "-1,1", "0", "0,1", "7", "-1 0 1 2 3", "8", "-2"} {
		wrong(t, what, g, list(t, l))
	}
	wrong(t, what, g, []api.Item{})
}

func TestUnsound(t *testing.T) {
	nothing(t, "nothing", api.Grammar{})
	nothing(t, "empty lists", api.Grammar{Rules: []api.Rule{}, Nonts: []string{}, Levels: []api.Level{}, Prods: []api.Prod{}})
	nothing(t, "a production of nothing", api.Grammar{Prods: []api.Prod{{}}})
	nothing(t, "a production of the end", api.Grammar{Levels: []api.Level{{}}, Prods: []api.Prod{{}}})
	nothing(t, "a Start", api.Grammar{Levels: []api.Level{{}}, Start: 1})
	nothing(t, "without its Level", api.Grammar{Nonts: []string{"s"}, Prods: []api.Prod{prod(1)}, Start: 1})
	nothing(t, "without its Start", api.Grammar{Levels: []api.Level{{}}, Nonts: []string{"s"}, Prods: []api.Prod{prod(1, 1)}})
	for what, change := range unsound() {
		g := good(t, whole)
		change(&g)
		if check.Sound(g) {
			t.Fatalf("%s: sound", what)
		}
		nothing(t, what, g)
	}
}

// TestNoNonterminal: a sound grammar that has none has no items, the added ones among them.
func TestNoNonterminal(t *testing.T) {
	for _, g := range []api.Grammar{{Levels: []api.Level{{}}}, {Rules: []api.Rule{}, Nonts: []string{}, Levels: []api.Level{{}}, Prods: []api.Prod{}}, good(t, ""), good(t, "skip w / /;"), good(t, abc), good(t, abc+"left a;"), good(t, numbered(16, "token t# /x/; "))} {
		if !check.Sound(g) {
			t.Fatalf("not sound: %v", g)
		}
		nothing(t, fmt.Sprintf("%.100s", fmt.Sprint(g)), g)
	}
}

// TestExamples are the chapter's.
func TestExamples(t *testing.T) {
	g := good(t, "token a /a/; s: a s | ;")
	closed(t, "the chapter's", g, list(t, "-1,0"), list(t, "-1,0 0,0 1,0"))
	led(t, "the chapter's", g, list(t, "-1,0"), 1, list(t, "0,1"))
}

// TestNewMemory: no two answers share memory, nor does one with an argument, spare room included: so what is written into one is seen in no other one.
func TestNewMemory(t *testing.T) {
	for _, s := range []string{whole, "s: ;", "s: s s | ;", abc + "s: t; t: u; u: a;", abc + "start t; s: t a; t: s | b;"} {
		g := good(t, s)
		given := every(g)
		answers := func() ([][]int, [][]api.Item) {
			var sides [][]int
			for n := -1; n <= len(g.Prods); n++ {
				sides = append(sides, items.Side(g, n))
			}
			lists := [][]api.Item{items.Closure(g, given), items.Closure(g, given[:1]), items.Closure(g, given[1:2]), items.Closure(g, given[:0])}
			for sym := range gram.Terms(g) + 1 + len(g.Nonts) {
				lists = append(lists, items.Goto(g, given, sym), items.Goto(g, given[:1], sym))
			}
			return sides, lists
		}
		sides, lists := answers()
		keptSides, keptLists := copied(sides), copied(lists)
		for range 2 {
			newSides, newLists := answers()
			spoilt(t, s, newSides, keptSides, 77)
			spoilt(t, s, newLists, keptLists, item(77, 77))
		}
		if !same(sides, keptSides) || !same(lists, keptLists) {
			t.Errorf("%q: changed: %v, %v", s, sides, lists)
		}
		if !reflect.DeepEqual(g, good(t, s)) || !slices.Equal(given, every(g)) {
			t.Errorf("%q: changed: %v, %v", s, g, given)
		}
	}
}

func copied[E any](lists [][]E) [][]E {
	all := make([][]E, len(lists))
	for i, l := range lists {
		all[i] = slices.Clone(l)
	}
	return all
}

func same[E comparable](a, b [][]E) bool { return slices.EqualFunc(a, b, slices.Equal) }

// spoilt writes over one list after the other, spare room included, and asks that those behind it are still what they were.
func spoilt[E comparable](t *testing.T, what string, lists, want [][]E, x E) {
	t.Helper()
	for i, l := range lists {
		if !slices.Equal(l, want[i]) {
			t.Errorf("%q: %d: %v, want %v", what, i, l, want[i])
		}
		for k := range l[:cap(l)] {
			l[:cap(l)][k] = x
		}
		_ = append(l, x, x, x, x)
	}
}

// TestUnchanged: what is handed in isn't changed, spare room included.
func TestUnchanged(t *testing.T) {
	spare := func() api.Grammar {
		g := good(t, whole)
		g.Rules = append(g.Rules, api.Rule{Name: "spare"})
		g.Nonts = append(g.Nonts, "spare")
		g.Levels = append(g.Levels, api.Level{Power: 7, Side: 7})
		g.Prods = append(g.Prods, prod(7, 7))
		for i := range g.Prods {
			g.Prods[i].Right = append(g.Prods[i].Right, 77)
		}
		return g
	}
	cut := func(g api.Grammar) api.Grammar {
		g.Rules, g.Nonts, g.Levels, g.Prods = g.Rules[:len(g.Rules)-1], g.Nonts[:4], g.Levels[:4], slices.Clone(g.Prods[:len(g.Prods)-1])
		for i, p := range g.Prods {
			g.Prods[i].Right = p.Right[:len(p.Right)-1]
		}
		return g
	}
	g := spare()
	given := cut(g)
	for _, c := range []struct{ from, want, by5 string }{
		{"0,1 -1 0,1", "-1 0 0,1 1 2 3 4 5", "0,1 2,1 4,1"}, {"0 2 3", "0 2 3", "0,1 2,1"}, {"3 2 0", "0 2 3", "0,1 2,1"}, {"3 3 3", "3", ""}, {"7,1 -1,1", "-1,1 7,1", ""}, {"", "", ""},
	} {
		l := append(list(t, c.from), item(77, 77), item(-77, 77), item(77, 0), item(0, 77))
		kept := slices.Clone(l)
		closed(t, "with spare room", given, l[:len(l)-4], list(t, c.want))
		led(t, "with spare room", given, l[:len(l)-4], 5, list(t, c.by5))
		if !slices.Equal(l, kept) {
			t.Errorf("changed: %v, want %v", l, kept)
		}
		wrong(t, "with what is behind", given, l)
		if !slices.Equal(l, kept) {
			t.Errorf("changed: %v, want %v", l, kept)
		}
	}
	for n := -1; n <= 8; n++ {
		_ = append(items.Side(given, n), 99, 99, 99)
	}
	if !reflect.DeepEqual(g, spare()) || !reflect.DeepEqual(given, cut(spare())) {
		t.Error("changed:", g)
	}
}

// TestManyAtOnce: calls at the same time have nothing to do with one another, even of one grammar.
func TestManyAtOnce(t *testing.T) {
	one := good(t, whole)
	var wait sync.WaitGroup
	for n := range 8 {
		g := good(t, numbered(n, "token t# /x/; ")+"s: x s | ; x: x | ; y: y;")
		what := fmt.Sprint(n, " terminals")
		wait.Go(func() {
			for range 30 {
				closed(t, what, g, list(t, "-1 0,1"), list(t, "-1 0 0,1 1 2 3"))
				led(t, what, g, list(t, "-1 0,1"), n+1, list(t, "-1,1 0,2"))
				closed(t, "whole", one, list(t, "6,1"), list(t, "2 3 4 5 6 6,1 7"))
				led(t, "whole", one, list(t, "5 1"), 1, list(t, "1,1 5,1"))
			}
		})
	}
	wait.Wait()
}
