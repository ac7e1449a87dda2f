package diff_test

import (
	"fmt"
	"math"
	"reflect"
	"slices"
	"strings"
	"sync"
	"testing"
	"unsafe"

	"topiary/api"
	"topiary/diff"
	"topiary/gram"
	"topiary/regex"
)

// whole is a text of a grammar that has something of everything: terminals a 1, b 2, c 3; nonterminals s 4, t 5, u 6; six productions.
const whole = "token a /a/; skip w / +/; token b /b+/; token c /c?d/; left a; none c; s: a t b | t; t: u s % a | c; u: u u b | ; skip v /#/;"

// good is the grammar of a text that has no fault.
func good(t *testing.T, s string) api.Grammar {
	t.Helper()
	g, at, e := gram.Parse(s)
	if e != api.OK {
		t.Fatalf("Parse(%.200q): %d, %v", s, at, e)
	}
	return g
}

func cells(t *testing.T, s string) []api.Cell {
	t.Helper()
	l, _, e := regex.Parse(s)
	if e != api.OK {
		t.Fatal(s, e)
	}
	return l
}

func level(power, side int) api.Level { return api.Level{Power: power, Side: side} }

// numbered is n items, each made of its number.
func numbered(n int, item string) string {
	var out strings.Builder
	for i := range n {
		out.WriteString(strings.ReplaceAll(item, "#", fmt.Sprint(i)))
	}
	return out.String()
}

// change is what Of tells of productions: pairs, gone ones, new ones.
func change(kept [][2]int, gone, fresh []int) api.Change {
	return api.Change{Kept: kept, Gone: gone, New: fresh}
}

func likeChange(a, b api.Change) bool {
	return slices.Equal(a.Kept, b.Kept) && slices.Equal(a.Gone, b.Gone) && slices.Equal(a.New, b.New) &&
		a.Rules == b.Rules && a.Levels == b.Levels && a.Start == b.Start
}

// holds holds Of to want, and the promise that each production is told once; what is told again must be alike.
func holds(t *testing.T, what string, g, h api.Grammar, want api.Change) {
	t.Helper()
	for range 3 {
		c, e := diff.Of(g, h)
		if e != api.OK || !likeChange(c, want) {
			t.Errorf("%s: %v, %v, want %v", what, c, e, want)
		}
		once(t, what, c, len(g.Prods), len(h.Prods))
	}
}

// once asks that Kept and Gone have each number below n, Kept and New each one below m, in their order.
func once(t *testing.T, what string, c api.Change, n, m int) {
	t.Helper()
	old, fresh := slices.Clone(c.Gone), slices.Clone(c.New)
	rising := slices.IsSorted(c.Gone) && slices.IsSorted(c.New) &&
		slices.IsSortedFunc(c.Kept, func(a, b [2]int) int { return a[1] - b[1] })
	for _, pair := range c.Kept {
		old, fresh = append(old, pair[0]), append(fresh, pair[1])
	}
	slices.Sort(old)
	slices.Sort(fresh)
	if !rising || !slices.Equal(old, below(n)) || !slices.Equal(fresh, below(m)) {
		t.Errorf("%s: not each once, or not in order: %v", what, c)
	}
}

func below(n int) []int {
	var l []int
	for i := range n {
		l = append(l, i)
	}
	return l
}

// pairs are those of numbers that are kept as they are.
func pairs(n int) [][2]int {
	var l [][2]int
	for i := range n {
		l = append(l, [2]int{i, i})
	}
	return l
}

// oneField are changes of whole's grammar in one field each, also such that it isn't sound any more.
func oneField() map[string]func(g *api.Grammar) {
	all := map[string]func(g *api.Grammar){
		"two rules' order":             func(g *api.Grammar) { g.Rules[1], g.Rules[4] = g.Rules[4], g.Rules[1] },
		"two nonterminals' order":      func(g *api.Grammar) { g.Nonts[0], g.Nonts[1] = g.Nonts[1], g.Nonts[0] },
		"two Levels' order":            func(g *api.Grammar) { g.Levels[2], g.Levels[3] = g.Levels[3], g.Levels[2] },
		"two productions' order":       func(g *api.Grammar) { g.Prods[4], g.Prods[5] = g.Prods[5], g.Prods[4] },
		"a right side's order":         func(g *api.Grammar) { r := g.Prods[0].Right; r[0], r[1] = r[1], r[0] },
		"one more rule":                func(g *api.Grammar) { g.Rules = append(g.Rules, api.Rule{}) },
		"one more nonterminal":         func(g *api.Grammar) { g.Nonts = append(g.Nonts, "") },
		"one more Level":               func(g *api.Grammar) { g.Levels = append(g.Levels, api.Level{}) },
		"one more production":          func(g *api.Grammar) { g.Prods = append(g.Prods, api.Prod{}) },
		"the first rule again":         func(g *api.Grammar) { g.Rules = slices.Insert(g.Rules, 0, g.Rules[0]) },
		"the last production again":    func(g *api.Grammar) { g.Prods = append(g.Prods, g.Prods[5]) },
		"one rule less":                func(g *api.Grammar) { g.Rules = g.Rules[:4] },
		"one nonterminal less":         func(g *api.Grammar) { g.Nonts = g.Nonts[:2] },
		"one Level less":               func(g *api.Grammar) { g.Levels = g.Levels[:3] },
		"one production less":          func(g *api.Grammar) { g.Prods = g.Prods[:5] },
		"no rules":                     func(g *api.Grammar) { g.Rules = nil },
		"no nonterminals":              func(g *api.Grammar) { g.Nonts = nil },
		"no Levels":                    func(g *api.Grammar) { g.Levels = nil },
		"no productions":               func(g *api.Grammar) { g.Prods = nil },
		"Start":                        func(g *api.Grammar) { g.Start++ },
		"no Start":                     func(g *api.Grammar) { g.Start = 0 },
		"a Start far off, with 32 bit": func(g *api.Grammar) { g.Start += 1 << 32 },
	}
	for i := range 5 {
		all[fmt.Sprint("name of rule ", i)] = func(g *api.Grammar) { g.Rules[i].Name += "_" }
		all[fmt.Sprint("no name of rule ", i)] = func(g *api.Grammar) { g.Rules[i].Name = "" }
		all[fmt.Sprint("rule left out ", i)] = func(g *api.Grammar) { g.Rules[i].Skip = !g.Rules[i].Skip }
		all[fmt.Sprint("one more cell of rule ", i)] = func(g *api.Grammar) { g.Rules[i].Re = append(g.Rules[i].Re, api.Cell{Op: api.RStar}) }
		all[fmt.Sprint("no cells of rule ", i)] = func(g *api.Grammar) { g.Rules[i].Re = nil }
		all[fmt.Sprint("kind of a cell of rule ", i)] = func(g *api.Grammar) { g.Rules[i].Re[len(g.Rules[i].Re)-1].Op++ }
		for w := range 4 {
			all[fmt.Sprint("bytes of rule ", i, " ", w)] = func(g *api.Grammar) { g.Rules[i].Re[0].Set[w] ^= 1 << 63 }
		}
	}
	for i := range 3 {
		all[fmt.Sprint("nonterminal ", i)] = func(g *api.Grammar) { g.Nonts[i] = strings.ToUpper(g.Nonts[i]) }
	}
	for i := range 4 {
		all[fmt.Sprint("Power ", i)] = func(g *api.Grammar) { g.Levels[i].Power += 5 }
		all[fmt.Sprint("Side ", i)] = func(g *api.Grammar) { g.Levels[i].Side++ }
	}
	for i := range 6 {
		all[fmt.Sprint("Left ", i)] = func(g *api.Grammar) { g.Prods[i].Left ^= 1 }
		all[fmt.Sprint("Prec ", i)] = func(g *api.Grammar) { g.Prods[i].Prec ^= 1 }
		all[fmt.Sprint("one more symbol of ", i)] = func(g *api.Grammar) { g.Prods[i].Right = append(g.Prods[i].Right, 0) }
	}
	for i, n := range []int{3, 1, 2, 1, 3, 0} {
		for k := range n {
			all[fmt.Sprint("symbol ", k, " of ", i)] = func(g *api.Grammar) { g.Prods[i].Right[k]-- }
		}
		if n > 0 {
			all[fmt.Sprint("one symbol less of ", i)] = func(g *api.Grammar) { g.Prods[i].Right = g.Prods[i].Right[:n-1] }
			all[fmt.Sprint("no symbols of ", i)] = func(g *api.Grammar) { g.Prods[i].Right = nil }
		}
	}
	return all
}

func TestSame(t *testing.T) {
	for what, change := range oneField() {
		g, h, again := good(t, whole), good(t, whole), good(t, whole)
		change(&h)
		change(&again)
		if diff.Same(g, h) || diff.Same(h, g) {
			t.Errorf("%s: the same", what)
		}
		if !diff.Same(g, g) || !diff.Same(h, h) || !diff.Same(h, again) {
			t.Errorf("%s: not the same as itself", what)
		}
	}
	for _, s := range []string{"", "s: ;", "token a /x/;", "skip a /x/;", whole, whole + " x: ;", "# r\n"} {
		for _, other := range []string{"", "s: ;", "token a /x/;", "skip a /x/;", whole, whole + " x: ;"} {
			want := s == other || s == "# r\n" && other == ""
			if got := diff.Same(good(t, s), good(t, other)); got != want {
				t.Errorf("%q, %q: %t", s, other, got)
			}
		}
	}
}

// TestSameNothing: of grammars that have nothing; nil and empty lists are one.
func TestSameNothing(t *testing.T) {
	empty := api.Grammar{Rules: []api.Rule{}, Nonts: []string{}, Levels: []api.Level{}, Prods: []api.Prod{}}
	if !diff.Same(api.Grammar{}, api.Grammar{}) || !diff.Same(api.Grammar{}, empty) || !diff.Same(empty, api.Grammar{}) || !diff.Same(empty, empty) {
		t.Error("nothing isn't itself")
	}
	g := api.Grammar{Rules: []api.Rule{{}}, Prods: []api.Prod{{}}}
	h := api.Grammar{Rules: []api.Rule{{Re: []api.Cell{}}}, Prods: []api.Prod{{Right: []int{}}}}
	if !diff.Same(g, h) || !diff.Same(h, g) || diff.Same(g, empty) || diff.Same(empty, h) {
		t.Error("empty lists within")
	}
	for _, h := range []api.Grammar{{Rules: []api.Rule{{}}}, {Nonts: []string{""}}, {Levels: []api.Level{{}}}, {Prods: []api.Prod{{}}}, {Start: 1}, {Start: -1}, {Start: math.MinInt}} {
		if diff.Same(api.Grammar{}, h) || diff.Same(h, empty) || !diff.Same(h, h) {
			t.Error(h)
		}
	}
}

func TestText(t *testing.T) {
	const rules = "token a /a/; skip w / /; token bc /b/; left a; "
	for s, want := range map[string][]string{
		"":                         nil,
		rules:                      nil,
		"s: ;":                     {"s: % $"},
		"s: s;":                    {"s: s % $"},
		"s: s s s s s s s s;":      {"s: s s s s s s s s % $"},
		"s: | s | ;":               {"s: % $", "s: s % $", "s: % $"},
		rules + "s: a;":            {"s: a % a"},
		rules + "s: a bc s;":       {"s: a bc s % bc"},
		rules + "s: a bc s % a;":   {"s: a bc s % a"},
		rules + "s: % bc | s % a;": {"s: % bc", "s: s % a"},
		"x: s; start s; s: x a % b | ; token b /b/; y: ; token a /a/;":  {"x: s % $", "s: x a % b", "s: % $", "y: % $"},
		rules + "s: bc a bc a bc a bc a | bc bc bc bc bc bc bc bc % a;": {"s: bc a bc a bc a bc a % a", "s: bc bc bc bc bc bc bc bc % a"},
		"abcdefghijklmnop: ABCDEFGHIJKLMNOP _; token ABCDEFGHIJKLMNOP /x/; _: abcdefghijklmnop % ABCDEFGHIJKLMNOP;": {
			"abcdefghijklmnop: ABCDEFGHIJKLMNOP _ % ABCDEFGHIJKLMNOP", "_: abcdefghijklmnop % ABCDEFGHIJKLMNOP"},
		"s: " + strings.Repeat("s|", 39) + ";": append(slices.Repeat([]string{"s: s % $"}, 39), "s: % $"),
		whole:                                  {"s: a t b % b", "s: t % $", "t: u s % a", "t: c % c", "u: u u b % b", "u: % $"},
	} {
		texts(t, good(t, s), want)
	}
}

// texts holds Text to want at each number of a production, and to nothing at each that is none.
func texts(t *testing.T, g api.Grammar, want []string) {
	t.Helper()
	if len(g.Prods) != len(want) {
		t.Errorf("%d productions, want %d", len(g.Prods), len(want))
	}
	for p, text := range want {
		if got := diff.Text(g, p); got != text || diff.Text(g, p) != got {
			t.Errorf("%d: %q, want %q", p, got, text)
		}
	}
	n := len(g.Prods)
	for _, p := range []int{-1, -2, -n, -n - 1, n, n + 1, 2 * n, 99, 1 << 32, -1 << 32, 1<<32 + n, math.MaxInt, math.MinInt} {
		if got := diff.Text(g, p); (p < 0 || p >= n) && got != "" {
			t.Errorf("%d: %q", p, got)
		}
	}
}

// TestTextWrong: of grammars that aren't sound: what is no symbol has no name, and what has one keeps it.
func TestTextWrong(t *testing.T) {
	texts(t, api.Grammar{}, nil)
	texts(t, api.Grammar{Prods: []api.Prod{{}, {Left: 1}, {Right: []int{0, 0}}}}, []string{"$: % $", ": % $", "$: $ $ % $"})
	g := good(t, "token a /a/; skip w / /; s: a s | ;")
	g.Prods = append(g.Prods,
		api.Prod{Left: 1, Right: []int{1}, Prec: 2}, api.Prod{Left: 3, Right: []int{3, 1, -1, 2}, Prec: 3}, api.Prod{Left: math.MinInt, Right: []int{math.MaxInt}, Prec: -1},
		api.Prod{Right: slices.Repeat([]int{2}, 20), Prec: math.MaxInt})
	texts(t, g, []string{"s: a s % a", "s: % $", "a: a % s", ":  a  s % ", ":  % ", "$:" + strings.Repeat(" s", 20) + " % "})
	g = api.Grammar{Rules: []api.Rule{{Name: ""}, {Name: "w", Skip: true}, {Name: "a b"}, {Name: "%"}}, Nonts: []string{"", "a b", "token"}, Prods: []api.Prod{{Left: 6, Right: []int{1, 2, 3, 4, 5}, Prec: 2}, {Left: 4, Right: []int{4}, Prec: 1}}, Start: 99}
	texts(t, g, []string{"token:  a b %  a b % a b", ":  % "})
	g = api.Grammar{Nonts: []string{"s"}, Prods: slices.Repeat([]api.Prod{{Left: 1, Right: []int{1}}}, 1000)}
	texts(t, g, slices.Repeat([]string{"s: s % $"}, 1000))
}

// TestWrong: what isn't sound is refused, in whichever place it is; beside the error there is nothing.
func TestWrong(t *testing.T) {
	wrong := []api.Grammar{
		{}, {Levels: []api.Level{}}, {Levels: []api.Level{{}, {}}}, {Levels: []api.Level{{Power: 1, Side: 1}}}, {Levels: []api.Level{{}}, Start: 1}, {Levels: []api.Level{{}}, Prods: []api.Prod{{Left: 1}}},
		{Levels: []api.Level{{}}, Nonts: []string{"s"}}, {Levels: []api.Level{{}}, Nonts: []string{"s", "s"}, Start: 1}, {Levels: []api.Level{{}}, Nonts: []string{"left"}, Start: 1}, {Levels: make([]api.Level, 2), Rules: []api.Rule{{Name: "a"}}},
		{Levels: []api.Level{{}}, Nonts: []string{"s"}, Start: 1, Prods: slices.Repeat([]api.Prod{{Left: 1}}, 41)},
		{Levels: []api.Level{{}}, Nonts: []string{"s"}, Start: 1, Prods: []api.Prod{{Left: 1, Right: slices.Repeat([]int{1}, 9)}}},
	}
	for _, change := range []func(g *api.Grammar){
		func(g *api.Grammar) { g.Start = 3 }, func(g *api.Grammar) { g.Prods[2].Left = 1 }, func(g *api.Grammar) { g.Prods[0].Right[1] = 0 }, func(g *api.Grammar) { g.Prods[5].Prec = 4 }, func(g *api.Grammar) { g.Levels[2].Power = -1 },
		func(g *api.Grammar) { g.Rules[0].Re = nil }, func(g *api.Grammar) { g.Rules[1].Name = "s" }, func(g *api.Grammar) { g.Rules[4].Skip = false }, func(g *api.Grammar) { g.Nonts[0] = "" }, func(g *api.Grammar) { g.Levels = g.Levels[:3] },
	} {
		g := good(t, whole)
		change(&g)
		wrong = append(wrong, g)
	}
	for i, g := range wrong {
		for what, each := range map[string][2]api.Grammar{"first": {g, good(t, whole)}, "second": {good(t, whole), g}, "both": {g, g}, "and nothing": {g, good(t, "")}, "behind nothing": {good(t, ""), g}, "and another": {g, wrong[0]}} {
			if c, e := diff.Of(each[0], each[1]); e != api.ErrArg || !reflect.ValueOf(c).IsZero() {
				t.Errorf("%d, %s: %v, %v", i, what, c, e)
			}
		}
	}
}

// TestKept: which productions are kept, gone, and new.
func TestKept(t *testing.T) {
	const rules = "token a /a/; token b /b/; "
	for _, c := range []struct {
		g, h string
		want api.Change
	}{
		// the chapter's own
		{"s: a | b;", "s: b | a b;", change([][2]int{{1, 0}}, []int{0}, []int{1})},
		// all, none, another order
		{"s: a | b;", "s: a | b;", change(pairs(2), nil, nil)},
		{"s: a | b;", "s: b | a;", change([][2]int{{1, 0}, {0, 1}}, nil, nil)},
		{"s: a | b;", "s: a a | b b;", change(nil, []int{0, 1}, []int{0, 1})},
		{"s: a | b | ;", "s: s;", change(nil, []int{0, 1, 2}, []int{0})},
		{"s: s;", "s: a | b | ;", change(nil, []int{0}, []int{0, 1, 2})},
		{"s: | a | b | s;", "s: s | b | a | ;", change([][2]int{{3, 0}, {2, 1}, {1, 2}, {0, 3}}, nil, nil)},
		{"s: s | a | a s | b | b s;", "s: s s | b s | a b | a s | b b | s;", change([][2]int{{4, 1}, {2, 3}, {0, 5}}, []int{1, 3}, []int{0, 2, 4})},
		// the same text twice and three times, in the one, in the other, in both
		{"s: a | a;", "s: a;", change([][2]int{{0, 0}}, []int{1}, nil)},
		{"s: a;", "s: a | a;", change([][2]int{{0, 0}}, nil, []int{1})},
		{"s: a | a;", "s: a | a;", change(pairs(2), nil, nil)},
		{"s: a | b | a | a;", "s: a;", change([][2]int{{0, 0}}, []int{1, 2, 3}, nil)},
		{"s: a;", "s: a | b | a | a;", change([][2]int{{0, 0}}, nil, []int{1, 2, 3})},
		{"s: b | a | b | a | b | a;", "s: a | a;", change([][2]int{{1, 0}, {3, 1}}, []int{0, 2, 4, 5}, nil)},
		{"s: a | a;", "s: b | a | b | a | b | a;", change([][2]int{{0, 1}, {1, 3}}, nil, []int{0, 2, 4, 5})},
		{"s: a | b | a | a | b;", "s: b | b | a | a | a;", change([][2]int{{1, 0}, {4, 1}, {0, 2}, {2, 3}, {3, 4}}, nil, nil)},
		{"s: a | b | a | a | b;", "s: a | | b | a | b | b | a | a;", change([][2]int{{0, 0}, {1, 2}, {2, 3}, {4, 4}, {3, 6}}, nil, []int{1, 5, 7})},
		{"s: | | ;", "s: a | | a | ;", change([][2]int{{0, 1}, {1, 3}}, []int{2}, []int{0, 2})},
		// by their names' order, the right side's and the left one's
		{"s: a b;", "s: b a;", change(nil, []int{0}, []int{0})},
		{"s: a s b;", "s: a b s b;", change(nil, []int{0}, []int{0})},
		{"s: a; t: b;", "t: a; s: b; start s;", change(nil, []int{0, 1}, []int{0, 1})},
		{"s: a; t: a;", "t: a; s: a; start s;", change([][2]int{{1, 0}, {0, 1}}, nil, nil)},
		// that differ in their level alone
		{"s: a | a % b | b a % a;", "s: a % b | b a | a % a | b a % b;", change([][2]int{{1, 0}, {2, 1}, {0, 2}}, nil, []int{3})},
		{"s: a | s % a | s | s % b;", "s: s | s % b | s | a % b;", change([][2]int{{2, 0}, {3, 1}}, []int{0, 1}, []int{2, 3})},
		{"s: % a | ;", "s: | % b | ;", change([][2]int{{1, 0}}, []int{0}, []int{1, 2})},
		// a name's first letters
		{"s: ss; ss: ;", "s: s s; ss: ;", change([][2]int{{1, 1}}, []int{0}, []int{0})},
	} {
		holds(t, c.g+" to "+c.h, good(t, rules+c.g), good(t, rules+c.h), c.want)
	}
}

// TestKeptByName: other numbers of symbols, or other kinds, don't matter: names do.
func TestKeptByName(t *testing.T) {
	for _, c := range []struct {
		g, h string
		want api.Change
	}{
		{"token a /a/; token b /b/; s: a t | b; t: s;", "start s; t: s; token b /b/; token c /c/; token a /a/; u: ; s: b | a t | c;",
			api.Change{Kept: [][2]int{{2, 0}, {1, 2}, {0, 3}}, New: []int{1, 4}, Rules: true, Levels: true}},
		{"token a /a/; token b /b/; s: a;", "token b /b/; token a /a/; s: b;", api.Change{Gone: []int{0}, New: []int{0}, Rules: true}},
		{"token a /a/; token b /b/; s: a;", "token b /a/; token a /b/; s: b;", api.Change{Gone: []int{0}, New: []int{0}, Rules: true}},
		{"token a /a/; token b /b/; s: a;", "token b /b/; token a /a/; s: a;", api.Change{Kept: pairs(1), Rules: true}},
		{"skip w / /; token a /a/; s: a;", "token a /a/; skip w / /; s: a;", api.Change{Kept: pairs(1), Rules: true}},
		// a terminal in the one is a nonterminal in the other: its name is the same, but not what stands beside it
		{"token a /a/; s: a s s;", "s: a s s; a: ;", api.Change{Gone: []int{0}, New: []int{0, 1}, Rules: true, Levels: true}},
		{"token a /a/; token b /b/; s: a b;", "token b /b/; s: a b; a: ;", api.Change{Kept: pairs(1), New: []int{1}, Rules: true, Levels: true}},
		{"token a /a/; s: t; t: ;", "token t /t/; s: t % t | t; a: s;", api.Change{Gone: []int{0, 1}, New: []int{0, 1, 2}, Rules: true, Levels: true}},
		// the same left side's name under another number
		{"s: ; t: ; u: ;", "u: ; t: ; s: ;", api.Change{Kept: [][2]int{{2, 0}, {1, 1}, {0, 2}}, Start: true}},
		{"s: t; t: ;", "t: s; s: ;", api.Change{Gone: []int{0, 1}, New: []int{0, 1}, Start: true}},
	} {
		holds(t, c.g+" to "+c.h, good(t, c.g), good(t, c.h), c.want)
	}
}

// TestNoProds: one that has none, or nothing at all.
func TestNoProds(t *testing.T) {
	g := good(t, whole)
	holds(t, "nothing", good(t, ""), good(t, ""), api.Change{})
	holds(t, "from nothing", good(t, ""), g, api.Change{New: below(6), Rules: true, Levels: true, Start: true})
	holds(t, "to nothing", g, good(t, ""), api.Change{Gone: below(6), Rules: true, Levels: true, Start: true})
	h := good(t, whole)
	h.Prods = nil
	holds(t, "from no productions", h, g, change(nil, nil, below(6)))
	holds(t, "to no productions", g, h, change(nil, below(6), nil))
	h.Prods = []api.Prod{}
	holds(t, "none in both", h, h, api.Change{})
	holds(t, "empty lists", api.Grammar{Rules: []api.Rule{}, Nonts: []string{}, Levels: []api.Level{{}}, Prods: []api.Prod{}}, good(t, ""), api.Change{})
}

// TestMany: as many as there may be: all the same text, all kept, turned round, none.
func TestMany(t *testing.T) {
	all := func(text string) api.Grammar {
		return good(t, "s: "+strings.Repeat(text+"|", 39)+text+"; token a /a/;")
	}
	g, h := all("s"), all("s")
	holds(t, "40 of one text", g, h, change(pairs(40), nil, nil))
	h.Prods = h.Prods[:7]
	holds(t, "7 of 40", g, h, change(pairs(7), below(40)[7:], nil))
	holds(t, "40 of 7", h, g, change(pairs(7), nil, below(40)[7:]))
	holds(t, "none of 40", g, all("a"), change(nil, below(40), below(40)))
	h = all("a")
	h.Prods[39] = g.Prods[0]
	h.Prods[20] = g.Prods[0]
	gone, fresh := below(40)[2:], slices.Delete(below(39), 20, 21)
	holds(t, "the last one", g, h, change([][2]int{{0, 20}, {1, 39}}, gone, fresh))
	// 40 texts, each its own
	g, h = all("s"), all("s")
	for i := range g.Prods {
		g.Prods[i].Right = nil
		for bit := range 6 {
			g.Prods[i].Right = append(g.Prods[i].Right, 1+i>>bit&1)
		}
		h.Prods[39-i] = g.Prods[i]
	}
	texts := map[string]int{}
	var want [][2]int
	for i := range g.Prods {
		texts[diff.Text(g, i)]++
		want = append(want, [2]int{39 - i, i})
	}
	if len(texts) == 40 {
		holds(t, "turned round", g, h, change(want, nil, nil))
	} else {
		t.Error("not 40 texts:", len(texts))
	}
}

// TestRules: names, cells, whether they are left out, their order, their number.
func TestRules(t *testing.T) {
	const same = "token a /a/; skip w / /; token b /[b-d]+/; s: a; "
	for s, want := range map[string]bool{
		same: false, "s: a; token a /[a]/; token b /[b-d]+/;": true, "s: a; token a /(a)/; skip w /[ ]/; # r\ntoken b /[dcb]+/;": false,
		"token c /a/; skip w / /; token b /[b-d]+/; s: c;": true, "token a /a/; skip v / /; token b /[b-d]+/; s: a;": true, "token a /a/; skip w / /; token B /[b-d]+/; s: a;": true,
		"token a /b/; skip w / /; token b /[b-d]+/; s: a;": true, "token a /a/; skip w /  /; token b /[b-d]+/; s: a;": true, "token a /a/; skip w / /; token b /[b-d]*/; s: a;": true, "token a /a/; skip w / /; token b /[b-e]+/; s: a;": true, "token a /a/; skip w / /; token b /b|c|d+/; s: a;": true,
		"token a /a/; token w / /; token b /[b-d]+/; s: a;": true, "token a /a/; skip w / /; skip b /[b-d]+/; s: a;": true,
		"token b /[b-d]+/; skip w / /; token a /a/; s: a;": true, "token a /a/; token b /[b-d]+/; skip w / /; s: a;": true, "skip w / /; token a /a/; token b /[b-d]+/; s: a;": true,
		same + "token c /c/;": true, same + "skip c /c/;": true, "skip c /c/; " + same: true, "token a /a/; skip w / /; s: a;": true,
		same + "left a;": false, same + "t: ;": false, same + "t: ; start t;": false, "token a /a/; skip w / /; token b /[b-d]+/; s: ;": false, "token a /a/; skip w / /; token b /[b-d]+/;": false,
	} {
		g, h := good(t, same), good(t, s)
		for _, each := range [][2]api.Grammar{{g, h}, {h, g}} {
			if c, e := diff.Of(each[0], each[1]); e != api.OK || c.Rules != want {
				t.Errorf("%q: %v, %v", s, c, e)
			}
		}
	}
}

// TestLevels: each terminal's, by its name.
func TestLevels(t *testing.T) {
	const rules = "token a /a/; token b /b/; token c /c/; skip w / /; s: ; "
	const same = rules + "left a; none c; "
	for s, want := range map[string]bool{
		same: false, rules + "left a; none c; # r": false,
		// another Power, another Side, none, one more
		rules + "none c; left a;": true, rules + "left a; left c;": true, rules + "right a; none c;": true, rules + "none a; none c;": true, rules + "left a; none b; none c;": true, rules + "left a c;": true,
		rules: true, rules + "left a;": true, rules + "none c;": true, same + "left b;": true, rules + "left a b; none c;": true, rules + "left b; none c;": true, rules + "left a; none b;": true,
		// a name that the other one hasn't, with a level and without
		same + "token d /d/;": true, same + "token d /d/; right d;": true, "token d /d/; " + same: true, "token a /a/; token c /c/; skip w / /; s: ; left a; none c;": true, "token a /a/; token B /b/; token c /c/; left a; none c;": true, "token A /a/; token b /b/; token c /c/; left A; none c;": true,
		// another one's level
		"token b /a/; token a /b/; token c /c/; s: ; left b; none c;": true, "token c /a/; token b /b/; token a /c/; s: ; left c; none a;": true,
		// a terminal that is a rule left out, or a nonterminal, in the other, with a level and without
		"token a /a/; skip b /b/; token c /c/; left a; none c;": true, "token a /a/; token b /b/; skip c /c/; left a;": true, "token a /a/; token c /c/; b: ; left a; none c;": true, "token a /a/; token b /b/; c: ; left a;": true,
		same + "skip v /v/;": false, same + "t: ;": false, "token a /a/; token b /b/; token c /c/; token w / /; left a; none c;": true, "token a /a/; token b /b/; token c /c/; token s / /; left a; none c;": true,
		// other numbers, other rules, other productions, another start, all levels the same
		"token c /a/; token a /b/; token b /c/; s: ; left a; none c;": false, "skip w / /; token b /b/; token c /c/; token a /a/; left a; none c;": false, "token a /x/; token b /y/; token c /z/; t: a b c; left a; none c;": false, "token a /a/; token b /b/; token c /c/; left a; none c;": false, same + "t: s; start t;": false,
	} {
		g, h := good(t, same), good(t, s)
		for _, each := range [][2]api.Grammar{{g, h}, {h, g}} {
			if c, e := diff.Of(each[0], each[1]); e != api.OK || c.Levels != want {
				t.Errorf("%q: %v, %v", s, c, e)
			}
		}
	}
	// strengths that no text gives: they differ, though they stand in the same order
	g, h := good(t, same), good(t, same)
	h.Levels[3].Power = math.MaxInt
	holds(t, "another strength, the same order", g, h, api.Change{Kept: pairs(1), Levels: true})
	h.Levels[3], h.Levels[2] = level(2, 3), level(2, 3)
	holds(t, "one more", g, h, api.Change{Kept: pairs(1), Levels: true})
}

// TestStart: by its name, whichever number it has.
func TestStart(t *testing.T) {
	for _, c := range []struct {
		g, h string
		want bool
	}{
		{"s: ;", "s: ;", false}, {"s: ;", "t: ;", true}, {"s: ;", "S: ;", true}, {"s: ; t: ;", "s: ; t: ; start t;", true}, {"s: ; t: ;", "t: ; s: ; start s;", false}, {"s: ; t: ;", "t: ; s: ;", true},
		{"token a /a/; s: ;", "s: ;", false}, {"token a /a/; s: ;", "s: ; t: ; start t;", true}, {"s: ;", "t: ; u: ; s: ; start s;", false}, {"s: ; t: ; start t;", "start t; t: ;", false},
		{"", "s: ;", true}, {"", "", false}, {"", "token a /a/;", false}, {"token a /a/; token b /b/;", "skip w / /;", false}, {"token s /s/;", "s: ;", true}, {"token a /a/; s: ;", "token s /s/; a: ;", true},
	} {
		for _, each := range [][2]string{{c.g, c.h}, {c.h, c.g}} {
			if got, e := diff.Of(good(t, each[0]), good(t, each[1])); e != api.OK || got.Start != c.want {
				t.Errorf("%q: %v, %v", each, got, e)
			}
		}
	}
}

// TestSameOf: of two that are the same all are kept, and nothing changed, even if productions are there twice.
func TestSameOf(t *testing.T) {
	for _, s := range []string{
		"", "s: ;", "s: | | ;", whole, "token a /a/;", "skip w / /;", "s: a | a | b | a; token a /a/; token b /b/; left b; right a;", "s: ; s1: s; start s1;",
		numbered(16, "token t# /x/; left t#; ") + numbered(15, "n#: n# t0 | ; ") + "n15: " + strings.Repeat("n15 ", 8) + strings.Repeat("|", 9) + "; start n9;",
	} {
		g, h := good(t, s), good(t, s)
		if !diff.Same(g, h) {
			t.Errorf("%.80q: not the same", s)
		}
		holds(t, s, g, h, change(pairs(len(g.Prods)), nil, nil))
		holds(t, s, g, g, change(pairs(len(g.Prods)), nil, nil))
	}
}

// TestOneFieldOf: each change in one field that leaves a sound grammar is told, in one way or another.
func TestOneFieldOf(t *testing.T) {
	sound := 0
	for what, change := range oneField() {
		g, h := good(t, whole), good(t, whole)
		change(&h)
		c, e := diff.Of(g, h)
		if e == api.ErrArg {
			continue
		}
		sound++
		once(t, what, c, len(g.Prods), len(h.Prods))
		if !c.Rules && !c.Levels && !c.Start && slices.Equal(c.Kept, pairs(6)) && len(h.Prods) == 6 {
			t.Errorf("%s: nothing is told: %v", what, c)
		}
	}
	if sound < 40 {
		t.Error("too few are sound:", sound)
	}
}

// TestNewMemory: no two answers share memory, nor an answer with an argument, spare room included; nor do lists of one answer.
func TestNewMemory(t *testing.T) {
	g := good(t, "token a /a/; token b /b/; s: a | b | a | s | s s;")
	h := good(t, "token a /a/; token b /b/; s: s s s | b | a | s s | s s s s | a s;")
	want := change([][2]int{{1, 1}, {0, 2}, {4, 3}}, []int{2, 3}, []int{0, 4, 5})
	one, _ := diff.Of(g, h)
	other, _ := diff.Of(g, h)
	for i := range other.Kept[:cap(other.Kept)] {
		other.Kept[:cap(other.Kept)][i] = [2]int{77, 77}
	}
	for _, l := range [][]int{other.Gone, other.New} {
		for i := range l[:cap(l)] {
			l[:cap(l)][i] = 77
		}
	}
	holds(t, "behind a change of an answer", g, h, want)
	_ = append(one.Gone, 77, 77, 77)
	_ = append(one.New, 77, 77, 77)
	_ = append(one.Kept, [2]int{77, 77})
	if !likeChange(one, want) {
		t.Error(one)
	}
	// a text keeps none of the names
	names := [][]byte{[]byte("a"), []byte("s")}
	g.Rules[0].Name = unsafe.String(&names[0][0], 1)
	g.Nonts[0] = unsafe.String(&names[1][0], 1)
	text, kept := diff.Text(g, 0), "s: a % a"
	names[0][0], names[1][0] = 'x', 'y'
	if text != kept || diff.Text(g, 0) != "y: x % x" {
		t.Error(text, diff.Text(g, 0))
	}
}

// TestUnchanged: what is handed in isn't changed, spare room included.
func TestUnchanged(t *testing.T) {
	spare := func(s string) api.Grammar {
		g := good(t, s)
		g.Rules = append(g.Rules, api.Rule{Name: "spare"})
		g.Nonts = append(g.Nonts, "spare")
		g.Levels = append(g.Levels, level(7, 7))
		g.Prods = append(g.Prods, api.Prod{Left: 7, Prec: 7})
		for i := range g.Prods {
			g.Prods[i].Right = append(g.Prods[i].Right, 77)
		}
		for i := range g.Rules {
			g.Rules[i].Re = append(g.Rules[i].Re, api.Cell{Op: 77})
		}
		return g
	}
	cut := func(g api.Grammar) api.Grammar {
		g.Rules, g.Nonts, g.Levels, g.Prods = slices.Clone(g.Rules[:len(g.Rules)-1]), g.Nonts[:len(g.Nonts)-1], g.Levels[:len(g.Levels)-1], slices.Clone(g.Prods[:len(g.Prods)-1])
		for i, p := range g.Prods {
			g.Prods[i].Right = p.Right[:len(p.Right)-1]
		}
		for i, r := range g.Rules {
			g.Rules[i].Re = r.Re[:len(r.Re)-1]
		}
		return g
	}
	const turned = "u: | u u b; token b /b+/; t: c | u s % a; token a /a/; token c /c?d/; skip w / +/; s: t | a t b; right a;"
	g, h := spare(whole), spare(turned)
	one, other := cut(g), cut(h)
	holds(t, "with spare room", one, other, api.Change{Kept: [][2]int{{5, 0}, {4, 1}, {3, 2}, {2, 3}, {1, 4}, {0, 5}}, Rules: true, Levels: true, Start: true})
	if diff.Same(one, other) || diff.Text(one, 0) != "s: a t b % b" || diff.Text(other, 0) != "u: % $" {
		t.Error("texts")
	}
	if !reflect.DeepEqual(g, spare(whole)) || !reflect.DeepEqual(h, spare(turned)) || !diff.Same(one, good(t, whole)) || !diff.Same(other, good(t, turned)) {
		t.Error("changed:", g, h)
	}
}

// TestManyAtOnce: calls at the same time have nothing to do with one another, even of the same grammars.
func TestManyAtOnce(t *testing.T) {
	one := good(t, whole)
	var wait sync.WaitGroup
	for n := range 8 {
		g := good(t, "s: "+strings.Repeat("s |", n)+"; token a /a/;")
		h := good(t, "token a /a/; start s; t: a; s: | "+strings.Repeat("| s", n)+";")
		want := api.Change{Kept: [][2]int{{n, 1}}, New: []int{0, 2}}
		for i := range n {
			want.Kept = append(want.Kept, [2]int{i, i + 3})
		}
		wait.Go(func() {
			for range 50 {
				holds(t, fmt.Sprint(n), g, h, want)
				holds(t, "whole", one, one, change(pairs(6), nil, nil))
				if !diff.Same(one, one) || diff.Same(g, h) || diff.Text(one, 2) != "t: u s % a" {
					t.Error(n)
				}
			}
		})
	}
	wait.Wait()
}
