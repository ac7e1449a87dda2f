package auto_test

import (
	"fmt"
	"math"
	"reflect"
	"slices"
	"strings"
	"sync"
	"testing"

	"topiary/api"
	"topiary/auto"
	"topiary/check"
)

// mapped holds Map of two grammars' automata to want.
func mapped(t *testing.T, what string, g, h api.Grammar, want []int) {
	t.Helper()
	l, m := built(t, what, g), built(t, what, h)
	for range 2 {
		if got, e := auto.Map(l, m, g, h); e != api.OK || !slices.Equal(got, want) {
			t.Errorf("%s: %v, %v, want %v", what, got, e, want)
		}
	}
}

func TestMap(t *testing.T) {
	for _, c := range []struct {
		g, h     string
		to, back []int
	}{
		// a production more, less
		{abc + "s: a s | b;", abc + "s: b | a s | a;", []int{0, -1, 2, 3, 4}, []int{0, -1, 2, 3, 4}},
		{abc + "s: a s | b;", abc + "s: a s | b | c;", []int{0, 1, 2, 4, 5}, []int{0, 1, 2, -1, 3, 4}},
		{abc + "s: a s | b;", abc + "s: a s;", []int{0, 1, -1, 2, 3}, []int{0, 1, 3, 4}},
		{abc + "s: a s | b;", abc + "s: a s | b | ;", []int{0, 1, 2, 3, 4}, []int{0, 1, 2, 3, 4}},
		// one changed: in its last symbol, its first, its left side, its level
		{abc + "s: a b c;", abc + "s: a b b;", []int{0, -1, 2, -1, -1}, []int{0, -1, 2, -1, -1}},
		{abc + "s: a b c;", abc + "s: b b c;", []int{0, -1, 2, -1, -1}, []int{0, -1, 2, -1, -1}},
		{abc + "s: a t; t: b; u: ;", abc + "s: a u; u: b; t: ;", []int{0, -1, 2, -1, -1}, []int{0, -1, 2, -1, -1}},
		{abc + "s: a b c;", abc + "s: a b c % b;", []int{0, -1, 2, -1, -1}, []int{0, -1, 2, -1, -1}},
		{abc + "s: a b c;", abc + "left a b; right c; s: a b c % c;", []int{0, 1, 2, 3, 4}, []int{0, 1, 2, 3, 4}},
		// in another order, with other numbers of productions, symbols and states
		{abc + "s: a s | b;", "token c /c/; token b /b/; token a /a/; s: b | a s;", []int{0, 2, 1, 3, 4}, []int{0, 2, 1, 3, 4}},
		{abc + "s: t u; t: a; u: b t;", abc + "start s; u: b t; t: a; s: t u;", []int{0, 1, 3, 2, 4, 5, 6}, []int{0, 1, 3, 2, 4, 5, 6}},
		{abc + "s: t b | u b; t: a; u: c;", abc + "start s; u: c; t: a; s: u b | t b;", []int{0, 1, 2, 5, 4, 3, 7, 6}, []int{0, 1, 2, 5, 4, 3, 7, 6}},
		{whole, "token c /c/; token b /b/; token a /a/; start s; v: v | u v c; u: a s % b | t; t: | t b; s: a | t u c;", []int{0, 1, 3, 2, 5, 4, 7, 6, 8, 9}, []int{0, 1, 3, 2, 5, 4, 7, 6, 8, 9}},
		// kernels of several items, of which one is new or gone: of no other kernel
		{"s: s s | ;", "s: s s s | s s | ;", []int{0, -1, -1}, []int{0, -1, -1, -1}},
		{abc + "s: a b | a c;", abc + "s: a b | a c | a;", []int{0, -1, 2, 3, 4}, []int{0, -1, 2, 3, 4}},
		{abc + "s: a b | a c;", abc + "s: a b;", []int{0, -1, 2, 3, -1}, []int{0, -1, 2, 3}},
		{abc + "s: a b | a c;", abc + "s: a b | c c;", []int{0, -1, 3, 4, -1}, []int{0, -1, -1, 2, 3, -1}},
		// items whose numbers rise in the one, and not in the other: sorted by names they are the same
		{abc + "s: a b | a c | a;", abc + "s: a | a c | a b;", []int{0, 1, 2, 3, 4}, []int{0, 1, 2, 3, 4}},
		{abc + "s: t | t a; t: t b | c;", abc + "start s; t: c | t b; s: t a | t;", []int{0, 1, 3, 2, 4, 5}, []int{0, 1, 3, 2, 4, 5}},
		// productions that are alike: each as often
		{abc + "s: a | a;", abc + "s: a | a;", []int{0, 1, 2}, []int{0, 1, 2}},
		{abc + "s: a | a;", abc + "s: a;", []int{0, -1, 2}, []int{0, -1, 2}},
		{abc + "s: a | a;", abc + "s: a | a | a;", []int{0, -1, 2}, []int{0, -1, 2}},
		{abc + "s: a | a | b;", abc + "s: b | a | b | a;", []int{0, 1, -1, 3}, []int{0, 1, -1, 3}},
		{abc + "s: a b | b c | a b | b a;", abc + "s: a b | b c | b a | b c | a b | ;", []int{0, 1, -1, 3, 4, 5, -1}, []int{0, 1, -1, 3, 4, 5, -1}},
		{abc + "s: t | t; t: a;", abc + "s: t; t: a | a;", []int{0, -1, 2, -1}, []int{0, -1, 2, -1}},
		// names changed: of the nonterminal, of a terminal, of each other
		{abc + "s: a s | b;", abc + "t: a t | b;", []int{0, -1, -1, 3, -1}, []int{0, -1, -1, 3, -1}},
		{abc + "s: a s | b;", "token d /a/; token b /b/; token c /c/; s: d s | b;", []int{0, -1, 2, 3, -1}, []int{0, -1, 2, 3, -1}},
		{abc + "s: a s | b;", "token b /a/; token a /b/; token c /c/; s: b s | a;", []int{0, -1, -1, 3, -1}, []int{0, -1, -1, 3, -1}},
		{abc + "s: a s | b;", "token b /a/; token a /b/; token c /c/; s: a s | b;", []int{0, 2, 1, 3, 4}, []int{0, 2, 1, 3, 4}},
		// a name that is a terminal's in the one, a nonterminal's in the other, or a rule's of another text
		{abc + "s: a x b; x: c;", "token a /a/; token b /b/; token x /c/; s: a x b;", []int{0, 1, 2, -1, 3, 4}, []int{0, 1, 2, 4, 5}},
		{abc + "s: x a; x: c;", "token a /a/; token x /c/; s: x a;", []int{0, -1, 2, 1, 3}, []int{0, 3, 2, 4}},
		{abc + "s: a s | b;", "token a /aa/; skip x /z/; token b /bb*/; s: a s | b;", []int{0, 1, 2, 3, 4}, []int{0, 1, 2, 3, 4}},
		// the added production has no name, whatever the start symbol is
		{abc + "s: a t; t: b;", abc + "start t; s: a t; t: b;", []int{0, -1, 2, 1, -1}, []int{0, 3, 2}},
		{abc + "s: a;", abc + "x: b;", []int{0, -1, 2}, []int{0, -1, 2}},
		{"s: ;", "x: y; y: ;", []int{0, 1}, []int{0, 1, -1}},
		{"s: ;", "s: s;", []int{0, -1}, []int{0, -1}},
		{abc + "s: s a | b;", abc + "start t; s: s a | b; t: s;", []int{0, 1, -1, 4}, []int{0, 1, -1, -1, 3}},
		// names of which the one with the next begins as another
		{"token a /a/; token aa /b/; s: a aa | aa a;", "token aa /a/; token a /b/; s: aa a | a aa;", []int{0, 2, 1, 3, 5, 4}, []int{0, 2, 1, 3, 5, 4}},
		{"token a /a/; token aa /b/; s: a aa;", "token a /a/; token aa /b/; s: aa a;", []int{0, -1, 2, -1}, []int{0, -1, 2, -1}},
	} {
		g, h := good(t, c.g), good(t, c.h)
		mapped(t, c.g+" to "+c.h, g, h, c.to)
		mapped(t, c.h+" to "+c.g, h, g, c.back)
	}
}

// TestMapWrong: lists that aren't the automata of their grammars.
func TestMapWrong(t *testing.T) {
	g, h := good(t, whole), good(t, strings.Replace(whole, "t b | ;", " | t b;", 1))
	l, m := built(t, "g", g), built(t, "h", h)
	none := api.Grammar{}
	for what, c := range map[string]struct {
		l, m []api.State
		g, h api.Grammar
	}{
		"both of g":           {l, l, g, h},
		"both of h":           {m, m, g, h},
		"turned round":        {m, l, g, h},
		"grammars alone are":  {l, m, h, g},
		"none of g":           {nil, m, g, h},
		"none of h":           {l, nil, g, h},
		"an empty one of g":   {[]api.State{}, m, g, h},
		"an empty one of h":   {l, []api.State{}, g, h},
		"none":                {nil, nil, g, h},
		"no first grammar":    {l, m, none, h},
		"no second grammar":   {l, m, g, none},
		"no grammar":          {l, m, none, none},
		"nothing at all":      {nil, nil, none, none},
		"nothing of no one":   {nil, m, none, h},
		"nothing of no other": {l, nil, g, none},
	} {
		if got, e := auto.Map(c.l, c.m, c.g, c.h); e != api.ErrArg || got != nil {
			t.Errorf("%s: %v, %v", what, got, e)
		}
	}
	mapped(t, "as they are", g, h, []int{0, 1, 2, 3, 4, 5, 6, 7, 8, 9})
}

// unsound are changes of whole's grammar behind which it isn't sound.
func unsound() map[string]func(g *api.Grammar) {
	return map[string]func(g *api.Grammar){
		"no Levels":                     func(g *api.Grammar) { g.Levels = nil },
		"a Level more":                  func(g *api.Grammar) { g.Levels = append(g.Levels, api.Level{}) },
		"a Level of the end":            func(g *api.Grammar) { g.Levels[0] = api.Level{Power: 1, Side: 1} },
		"a side of no Level":            func(g *api.Grammar) { g.Levels[2].Side = 1 },
		"no Start":                      func(g *api.Grammar) { g.Start = 0 },
		"a Start that is a terminal":    func(g *api.Grammar) { g.Start = 3 },
		"a Start behind all":            func(g *api.Grammar) { g.Start = 8 },
		"a Start below 0":               func(g *api.Grammar) { g.Start = -1 },
		"a Left that is a terminal":     func(g *api.Grammar) { g.Prods[7].Left = 3 },
		"a Left that is the end":        func(g *api.Grammar) { g.Prods[7].Left = 0 },
		"a Left behind all":             func(g *api.Grammar) { g.Prods[7].Left = 8 },
		"a Left below 0":                func(g *api.Grammar) { g.Prods[7].Left = math.MinInt },
		"the end in a right side":       func(g *api.Grammar) { g.Prods[0].Right[1] = 0 },
		"a number behind all":           func(g *api.Grammar) { g.Prods[0].Right[2] = 8 },
		"a number below 0":              func(g *api.Grammar) { g.Prods[0].Right[0] = -1 },
		"a number far off":              func(g *api.Grammar) { g.Prods[0].Right[0] = math.MaxInt },
		"nine symbols":                  func(g *api.Grammar) { g.Prods[7].Right = slices.Repeat([]int{5}, 9) },
		"a Prec that is a nonterminal":  func(g *api.Grammar) { g.Prods[7].Prec = 4 },
		"a Prec below 0":                func(g *api.Grammar) { g.Prods[7].Prec = -1 },
		"41 productions":                func(g *api.Grammar) { g.Prods = slices.Repeat(g.Prods[:1], 41) },
		"a million productions":         func(g *api.Grammar) { g.Prods = slices.Repeat(g.Prods[:1], 1<<20) },
		"17 nonterminals":               func(g *api.Grammar) { g.Nonts = strings.Fields(numbered(17, "n# ")) },
		"17 rules":                      func(g *api.Grammar) { g.Rules = slices.Repeat(g.Rules[:1], 17) },
		"a rule that isn't right":       func(g *api.Grammar) { g.Rules[0].Re = []api.Cell{{Op: api.RStar}} },
		"a rule without cells":          func(g *api.Grammar) { g.Rules[1].Re = nil },
		"a rule without a name":         func(g *api.Grammar) { g.Rules[2].Name = "" },
		"a rule that isn't left out":    func(g *api.Grammar) { g.Rules[1].Skip = false },
		"a rule that is left out":       func(g *api.Grammar) { g.Rules[0].Skip = true },
		"a name there twice":            func(g *api.Grammar) { g.Nonts[1] = "a" },
		"a nonterminal of a name of 17": func(g *api.Grammar) { g.Nonts[3] = strings.Repeat("n", 17) },
		"a name that says skip":         func(g *api.Grammar) { g.Nonts[3] = "skip" },
		"no nonterminals":               func(g *api.Grammar) { g.Nonts = nil },
	}
}

// nothing asks that a grammar has no automaton, and that no list is taken as one.
func nothing(t *testing.T, what string, g api.Grammar) {
	t.Helper()
	if l, e := auto.Build(g); e != api.ErrArg || l != nil {
		t.Errorf("%s: built: %v, %v", what, l, e)
	}
	other := good(t, whole)
	l := built(t, whole, other)
	for _, wrong := range [][]api.State{nil, {}, {{}}, l, {{Kernel: list(t, "-1"), Next: make([]int, symbols(g))}}, states(t, g, []string{"-1"}), states(t, g, []string{"-1", "-1,1"})} {
		if auto.Right(g, wrong) {
			t.Errorf("%s: right: %v", what, wrong)
		}
		for _, c := range []struct {
			l, m []api.State
			g, h api.Grammar
		}{{wrong, wrong, g, g}, {wrong, l, g, other}, {l, wrong, other, g}} {
			if got, e := auto.Map(c.l, c.m, c.g, c.h); e != api.ErrArg || got != nil {
				t.Errorf("%s: mapped: %v, %v", what, got, e)
			}
		}
	}
}

func TestUnsound(t *testing.T) {
	nothing(t, "nothing", api.Grammar{})
	nothing(t, "empty lists", api.Grammar{Rules: []api.Rule{}, Nonts: []string{}, Levels: []api.Level{}, Prods: []api.Prod{}})
	nothing(t, "a production of nothing", api.Grammar{Prods: []api.Prod{{}}})
	nothing(t, "a production of the end", api.Grammar{Levels: []api.Level{{}}, Prods: []api.Prod{{}}})
	nothing(t, "a Start", api.Grammar{Levels: []api.Level{{}}, Start: 1})
	nothing(t, "without its Level", api.Grammar{Nonts: []string{"s"}, Prods: []api.Prod{prod(1)}, Start: 1})
	nothing(t, "without its Start", api.Grammar{Levels: []api.Level{{}}, Nonts: []string{"s"}, Prods: []api.Prod{prod(1, 1)}})
	for what, change := range unsound() {
		g := good(t, whole)
		change(&g)
		if check.Sound(g) {
			t.Fatalf("%s: sound", what)
		}
		nothing(t, what, g)
	}
	// it isn't sound, and would have too many states
	g := branches(t, api.MaxStates)
	g.Levels = nil
	nothing(t, "too many", g)
}

// TestNoNonterminal: a sound grammar that has none has no automaton.
func TestNoNonterminal(t *testing.T) {
	for _, g := range []api.Grammar{{Levels: []api.Level{{}}}, {Rules: []api.Rule{}, Nonts: []string{}, Levels: []api.Level{{}}, Prods: []api.Prod{}}, good(t, ""), good(t, "skip w / /;"), good(t, abc), good(t, abc+"left a;"), good(t, numbered(16, "token t# /x/; "))} {
		if !check.Sound(g) {
			t.Fatalf("not sound: %v", g)
		}
		nothing(t, fmt.Sprintf("%.100s", fmt.Sprint(g)), g)
	}
}

// TestExample is the chapter's.
func TestExample(t *testing.T) {
	g := good(t, "token a /a/; s: a s | ;")
	l := built(t, "the chapter's", g)
	if len(l) != 4 || auto.Walk(l, 0, text(t, g, "a")) != 1 || auto.Walk(l, 0, text(t, g, "s")) != 2 || auto.Walk(l, 1, text(t, g, "s")) != 3 {
		t.Error(l)
	}
}

// spoil writes over all that an automaton has, spare room included.
func spoil(l []api.State) {
	for n := range l {
		kernel, next := l[n].Kernel[:cap(l[n].Kernel)], l[n].Next[:cap(l[n].Next)]
		for i := range kernel {
			kernel[i] = item(77, 77)
		}
		for i := range next {
			next[i] = 77
		}
	}
	l = l[:cap(l)]
	for n := range l {
		l[n] = api.State{Kernel: []api.Item{item(77, 77)}, Next: []int{77}}
	}
}

// TestNewMemory: no two lists of one answer share memory, nor do two answers, nor does one with an argument, spare room included: so what is written into one is seen in no other one.
func TestNewMemory(t *testing.T) {
	for s := range whats() {
		g := good(t, s)
		l := built(t, s, g)
		kept := copied(l)
		for range 2 {
			spoil(built(t, s, g))
			to, e := auto.Map(l, l, g, g)
			again, f := auto.Map(l, l, g, g)
			if e != api.OK || f != api.OK {
				t.Fatal(s, e, f)
			}
			was := slices.Clone(again)
			to = to[:cap(to)]
			for n := range to {
				to[n] = 77
			}
			if !slices.Equal(again, was) {
				t.Errorf("%q: changed: %v, want %v", s, again, was)
			}
		}
		if !sameStates(l, kept) || !sameStates(built(t, s, g), kept) || !reflect.DeepEqual(g, good(t, s)) {
			t.Errorf("%q: changed: %v, want %v; %v", s, l, kept, g)
		}
		// one list of an answer after the other
		for n := range l {
			kernel, next := l[n].Kernel, l[n].Next
			for i := range kernel[:cap(kernel)] {
				kernel[:cap(kernel)][i] = item(77, 77)
			}
			for i := range next[:cap(next)] {
				next[:cap(next)][i] = 77
			}
			if !sameStates(l[n+1:], kept[n+1:]) {
				t.Errorf("%q: state %d: others changed: %v, want %v", s, n, l, kept)
			}
		}
	}
}

// TestUnchanged: what is handed in isn't changed, spare room included.
func TestUnchanged(t *testing.T) {
	spare := func() api.Grammar {
		g := good(t, whole)
		g.Rules = append(g.Rules, api.Rule{Name: "spare"})
		g.Nonts = append(g.Nonts, "spare")
		g.Levels = append(g.Levels, api.Level{Power: 7, Side: 7})
		g.Prods = append(g.Prods, prod(7, 7))
		for i := range g.Prods {
			g.Prods[i].Right = append(g.Prods[i].Right, 77)
		}
		return g
	}
	cut := func(g api.Grammar) api.Grammar {
		g.Rules, g.Nonts, g.Levels, g.Prods = g.Rules[:len(g.Rules)-1], g.Nonts[:4], g.Levels[:4], slices.Clone(g.Prods[:len(g.Prods)-1])
		for i, p := range g.Prods {
			g.Prods[i].Right = p.Right[:len(p.Right)-1]
		}
		return g
	}
	roomy := func() []api.State {
		l := append(built(t, whole, good(t, whole)), api.State{}, api.State{Next: []int{77}})
		for n, s := range l {
			l[n] = api.State{Kernel: append(slices.Clone(s.Kernel), item(77, 77), item(-77, 0)), Next: append(slices.Clone(s.Next), 77, -77)}
		}
		return l
	}
	narrow := func(l []api.State) []api.State {
		l = slices.Clone(l[:len(l)-2])
		for n, s := range l {
			l[n] = api.State{Kernel: s.Kernel[:len(s.Kernel)-2], Next: s.Next[:len(s.Next)-2]}
		}
		return l
	}
	g, l, text := spare(), roomy(), []int{5, 6, 3, 77, 77}
	given, handed := cut(g), narrow(l)
	for range 2 {
		if got := built(t, whole, given); !sameStates(got, handed) || !auto.Right(given, handed) || auto.Right(given, l) {
			t.Error(got)
		}
		if got, e := auto.Map(handed, handed, given, given); e != api.OK || !slices.Equal(got, []int{0, 1, 2, 3, 4, 5, 6, 7, 8, 9}) {
			t.Error(got, e)
		}
		if got := auto.Walk(handed, 0, text[:3]); got != 9 {
			t.Error(got)
		}
	}
	if !reflect.DeepEqual(g, spare()) || !reflect.DeepEqual(given, cut(spare())) {
		t.Error("changed:", g)
	}
	if !reflect.DeepEqual(l, roomy()) || !reflect.DeepEqual(handed, narrow(roomy())) || !slices.Equal(text, []int{5, 6, 3, 77, 77}) {
		t.Error("changed:", l, text)
	}
}

// TestManyAtOnce: calls at the same time have nothing to do with one another, even of one grammar.
func TestManyAtOnce(t *testing.T) {
	one := good(t, whole)
	l := built(t, whole, one)
	var wait sync.WaitGroup
	for n := range 8 {
		g := good(t, numbered(n, "token t# /x/; ")+"s: x s | ; x: x | ; y: y;")
		what := fmt.Sprint(n, " terminals")
		want := states(t, g, []string{"-1 > s:1 x:2", "-1,1", "0,1 2,1 > s:3 x:2", "0,2"})
		wait.Go(func() {
			for range 20 {
				if got, e := auto.Build(g); e != api.OK || !sameStates(got, want) {
					t.Errorf("%s: %v, %v, want %v", what, got, e, want)
				}
				if !auto.Right(one, l) || auto.Right(one, want) || auto.Walk(l, 0, []int{5, 6, 3}) != 9 {
					t.Errorf("%s: of one", what)
				}
				if got, e := auto.Map(want, l, g, one); e != api.OK || !slices.Equal(got, []int{0, 2, -1, -1}) {
					t.Errorf("%s: mapped: %v, %v", what, got, e)
				}
			}
		})
	}
	wait.Wait()
}
