package look_test

import (
	"fmt"
	"math"
	"reflect"
	"slices"
	"strings"
	"sync"
	"testing"

	"topiary/api"
	"topiary/auto"
	"topiary/check"
	"topiary/items"
	"topiary/look"
)

// copiedStates is an automaton in memory of its own.
func copiedStates(l []api.State) []api.State {
	all := slices.Clone(l)
	for n, s := range all {
		all[n] = api.State{Kernel: slices.Clone(s.Kernel), Next: slices.Clone(s.Next)}
	}
	return all
}

// altered are lists that differ from an automaton in little.
func altered(g api.Grammar, l []api.State) map[string][]api.State {
	all := map[string][]api.State{
		"nothing":                              nil,
		"an empty list":                        {},
		"without the last":                     copiedStates(l)[:len(l)-1],
		"without the first":                    copiedStates(l)[1:],
		"with the last one again, behind all":  append(copiedStates(l), copiedStates(l)[len(l)-1]),
		"with the first one again, behind all": append(copiedStates(l), copiedStates(l)[0]),
		"with one of nothing, behind all":      append(copiedStates(l), api.State{}),
		"with one of nothing, ahead of all":    append([]api.State{{}}, copiedStates(l)...),
		"turned round":                         copiedStates(l),
		"twice":                                append(copiedStates(l), copiedStates(l)...),
	}
	slices.Reverse(all["turned round"])
	change := func(what string, n int, change func(s *api.State)) {
		other := copiedStates(l)
		change(&other[n])
		all[fmt.Sprint(what, " of state ", n)] = other
	}
	for n, s := range l {
		change("nothing at all", n, func(s *api.State) { *s = api.State{} })
		change("a Next of nothing", n, func(s *api.State) { s.Next = nil })
		change("a Next that is shorter", n, func(s *api.State) { s.Next = s.Next[:len(s.Next)-1] })
		change("a Next without symbol 0", n, func(s *api.State) { s.Next = s.Next[1:] })
		change("a Next that is longer", n, func(s *api.State) { s.Next = append(s.Next, -1) })
		for sym, to := range s.Next {
			for _, other := range []int{0, 1, -1, -2, to + 1, to - 1, len(l) - 1, len(l), math.MaxInt, math.MinInt, to + 1<<32} {
				if other != to {
					change(fmt.Sprint(other, " by ", sym), n, func(s *api.State) { s.Next[sym] = other })
				}
			}
		}
		change("a kernel of nothing", n, func(s *api.State) { s.Kernel = nil })
		change("a kernel without its first item", n, func(s *api.State) { s.Kernel = s.Kernel[1:] })
		change("a kernel with its first item twice", n, func(s *api.State) { s.Kernel = slices.Insert(s.Kernel, 0, s.Kernel[0]) })
		change("a kernel with the item -2", n, func(s *api.State) { s.Kernel = slices.Insert(s.Kernel, 0, item(-2, 0)) })
		change("a kernel with an item behind all", n, func(s *api.State) { s.Kernel = append(s.Kernel, item(len(g.Prods), 0)) })
		if len(s.Kernel) > 1 {
			change("a kernel without its last item", n, func(s *api.State) { s.Kernel = s.Kernel[:len(s.Kernel)-1] })
			change("a kernel that falls", n, func(s *api.State) { slices.Reverse(s.Kernel) })
		}
		if closure := items.Closure(g, s.Kernel); len(closure) != len(s.Kernel) {
			change("the closure", n, func(s *api.State) { s.Kernel = closure })
		}
		for i := range s.Kernel {
			change(fmt.Sprint("a Dot more at ", i), n, func(s *api.State) { s.Kernel[i].Dot++ })
			change(fmt.Sprint("a Dot less at ", i), n, func(s *api.State) { s.Kernel[i].Dot-- })
			change(fmt.Sprint("a Prod more at ", i), n, func(s *api.State) { s.Kernel[i].Prod++ })
			change(fmt.Sprint("a Prod less at ", i), n, func(s *api.State) { s.Kernel[i].Prod-- })
			change(fmt.Sprint("a Prod far off at ", i), n, func(s *api.State) { s.Kernel[i].Prod += 1 << 32 })
		}
	}
	for n := range l[1:] {
		other := copiedStates(l)
		other[n], other[n+1] = other[n+1], other[n]
		all[fmt.Sprint("turned round at ", n)] = other
	}
	return all
}

// refused asks that a list isn't taken as the automaton of g.
func refused(t *testing.T, what string, g api.Grammar, wrong []api.State) {
	t.Helper()
	for range 2 {
		if m, e := look.Of(g, wrong); e != api.ErrArg || m != nil {
			t.Errorf("%.300s: %.300s, %v", what, fmt.Sprint(m), e)
		}
	}
}

// TestWrong: what differs from an automaton in little isn't it.
func TestWrong(t *testing.T) {
	for s, lines := range whats() {
		g := good(t, s)
		l := built(t, s, g)
		for what, wrong := range altered(g, l) {
			refused(t, s+": "+what, g, wrong)
		}
		if m := told(t, s, g, copiedStates(l)); !sameLooks(m, looks(t, g, l, lines)) {
			t.Errorf("%q: as it is: %v", s, m)
		}
	}
}

// TestOther: the automaton of another grammar is taken if it is also that of this one.
func TestOther(t *testing.T) {
	l := built(t, whole, good(t, whole))
	for other, right := range map[string]bool{
		"s: t u c | a; t: t b | ; u: t | a s % b; v: u v c | v;": true,
		// a production less, more, in another place, changed
		"s: t u c; t: t b | ; u: t | a s % b; v: u v c | v;":         false,
		"s: t u c | a | a; t: t b | ; u: t | a s % b; v: u v c | v;": false,
		"s: t u c | a; t:  | t b; u: t | a s % b; v: u v c | v;":     false,
		"s: t u b | a; t: t b | ; u: t | a s % b; v: u v c | v;":     false,
		"s: t u c | a; t: t b | b; u: t | a s % b; v: u v c | v;":    false,
		// the same states, as nothing leads to v
		"s: t u c | a; t: t b | ; u: t | a s % b; v: u v c | v | a;": true,
		"s: t u c | a; t: t b | ; u: t | a s % b; v: v | u v c;":     true,
		// a start symbol, symbols more and less
		"start u; s: t u c | a; t: t b | ; u: t | a s % b; v: u v c | v;":     false,
		"s: t u c | a; t: t b | ; u: t | a s % b; v: u v c | v; x: ;":         false,
		"token d /d/; s: t u c | a; t: t b | ; u: t | a s % b; v: u v c | v;": false,
		// names and levels
		"s: y u c | a; y: y b | ; u: y | a s % b; z: u z c | z;":                      true,
		"left a; right b; s: t u c | a % b; t: t b | ; u: t | a s % b; v: u v c | v;": true,
	} {
		g := good(t, abc+other)
		if !right {
			refused(t, other, g, l)
			continue
		}
		lines := whats()[whole]
		if m, want := told(t, other, g, l), looks(t, good(t, whole), l, lines); !sameLooks(m, want) {
			t.Errorf("%q: %v, want %v", other, m, want)
		}
	}
}

// unsound are changes of whole's grammar behind which it isn't sound.
func unsound() map[string]func(g *api.Grammar) {
	return map[string]func(g *api.Grammar){
		"no Levels":                     func(g *api.Grammar) { g.Levels = nil },
		"a Level more":                  func(g *api.Grammar) { g.Levels = append(g.Levels, api.Level{}) },
		"a Level of the end":            func(g *api.Grammar) { g.Levels[0] = api.Level{Power: 1, Side: 1} },
		"a side of no Level":            func(g *api.Grammar) { g.Levels[2].Side = 1 },
		"no Start":                      func(g *api.Grammar) { g.Start = 0 },
		"a Start that is a terminal":    func(g *api.Grammar) { g.Start = 3 },
		"a Start behind all":            func(g *api.Grammar) { g.Start = 8 },
		"a Start below 0":               func(g *api.Grammar) { g.Start = -1 },
		"a Left that is a terminal":     func(g *api.Grammar) { g.Prods[7].Left = 3 },
		"a Left that is the end":        func(g *api.Grammar) { g.Prods[7].Left = 0 },
		"a Left behind all":             func(g *api.Grammar) { g.Prods[7].Left = 8 },
		"a Left below 0":                func(g *api.Grammar) { g.Prods[7].Left = math.MinInt },
		"the end in a right side":       func(g *api.Grammar) { g.Prods[0].Right[1] = 0 },
		"a number behind all":           func(g *api.Grammar) { g.Prods[0].Right[2] = 8 },
		"a number below 0":              func(g *api.Grammar) { g.Prods[0].Right[0] = -1 },
		"a number far off":              func(g *api.Grammar) { g.Prods[0].Right[0] = math.MaxInt },
		"nine symbols":                  func(g *api.Grammar) { g.Prods[7].Right = slices.Repeat([]int{5}, 9) },
		"a Prec that is a nonterminal":  func(g *api.Grammar) { g.Prods[7].Prec = 4 },
		"a Prec below 0":                func(g *api.Grammar) { g.Prods[7].Prec = -1 },
		"41 productions":                func(g *api.Grammar) { g.Prods = slices.Repeat(g.Prods[:1], 41) },
		"a million productions":         func(g *api.Grammar) { g.Prods = slices.Repeat(g.Prods[:1], 1<<20) },
		"17 nonterminals":               func(g *api.Grammar) { g.Nonts = strings.Fields(numbered(17, "n# ")) },
		"17 rules":                      func(g *api.Grammar) { g.Rules = slices.Repeat(g.Rules[:1], 17) },
		"a rule that isn't right":       func(g *api.Grammar) { g.Rules[0].Re = []api.Cell{{Op: api.RStar}} },
		"a rule without cells":          func(g *api.Grammar) { g.Rules[1].Re = nil },
		"a rule without a name":         func(g *api.Grammar) { g.Rules[2].Name = "" },
		"a rule that isn't left out":    func(g *api.Grammar) { g.Rules[1].Skip = false },
		"a rule that is left out":       func(g *api.Grammar) { g.Rules[0].Skip = true },
		"a name there twice":            func(g *api.Grammar) { g.Nonts[1] = "a" },
		"a nonterminal of a name of 17": func(g *api.Grammar) { g.Nonts[3] = strings.Repeat("n", 17) },
		"a name that says skip":         func(g *api.Grammar) { g.Nonts[3] = "skip" },
		"no nonterminals":               func(g *api.Grammar) { g.Nonts = nil },
	}
}

// nothing asks that no list is taken as the automaton of a grammar.
func nothing(t *testing.T, what string, g api.Grammar) {
	t.Helper()
	next := slices.Repeat([]int{-1}, symbols(g))
	to := append(slices.Clone(next[1:]), 1)
	for _, l := range [][]api.State{
		nil,
		{},
		{{}},
		built(t, whole, good(t, whole)),
		{{Kernel: []api.Item{item(-1, 0)}}},
		{{Kernel: []api.Item{item(-1, 0)}, Next: next}},
		{{Kernel: []api.Item{item(-1, 0)}, Next: to}, {Kernel: []api.Item{item(-1, 1)}, Next: next}},
	} {
		refused(t, what, g, l)
	}
}

func TestUnsound(t *testing.T) {
	nothing(t, "nothing", api.Grammar{})
	nothing(t, "empty lists", api.Grammar{Rules: []api.Rule{}, Nonts: []string{}, Levels: []api.Level{}, Prods: []api.Prod{}})
	nothing(t, "a production of nothing", api.Grammar{Prods: []api.Prod{{}}})
	nothing(t, "a production of the end", api.Grammar{Levels: []api.Level{{}}, Prods: []api.Prod{{}}})
	nothing(t, "a Start", api.Grammar{Levels: []api.Level{{}}, Start: 1})
	nothing(t, "without its Level", api.Grammar{Nonts: []string{"s"}, Prods: []api.Prod{prod(1)}, Start: 1})
	nothing(t, "without its Start", api.Grammar{Levels: []api.Level{{}}, Nonts: []string{"s"}, Prods: []api.Prod{prod(1, 1)}})
	for what, change := range unsound() {
		g := good(t, whole)
		change(&g)
		if check.Sound(g) {
			t.Fatalf("%s: sound", what)
		}
		nothing(t, what, g)
	}
}

// TestNoNonterminal: a sound grammar that has none has no automaton.
func TestNoNonterminal(t *testing.T) {
	for _, g := range []api.Grammar{{Levels: []api.Level{{}}}, {Rules: []api.Rule{}, Nonts: []string{}, Levels: []api.Level{{}}, Prods: []api.Prod{}}, good(t, ""), good(t, "skip w / /;"), good(t, abc), good(t, abc+"left a;"), good(t, numbered(16, "token t# /x/; "))} {
		if !check.Sound(g) {
			t.Fatalf("not sound: %v", g)
		}
		nothing(t, fmt.Sprintf("%.100s", fmt.Sprint(g)), g)
	}
}

// allStates are those of a grammar as an automaton has them, however many they are.
func allStates(g api.Grammar) []api.State {
	l := []api.State{{Kernel: []api.Item{item(-1, 0)}}}
	for n := 0; n < len(l); n++ {
		for sym := range symbols(g) {
			kernel, to := items.Goto(g, l[n].Kernel, sym), -1
			if len(kernel) > 0 {
				to = slices.IndexFunc(l, func(s api.State) bool { return slices.Equal(s.Kernel, kernel) })
				if to < 0 {
					to = len(l)
					l = append(l, api.State{Kernel: kernel})
				}
			}
			l[n].Next = append(l[n].Next, to)
		}
	}
	return l
}

// TestTooMany: a grammar that would have too many states has no automaton, not even those that it would be.
func TestTooMany(t *testing.T) {
	just := branches(t, api.MaxStates-2)
	l := built(t, "just all", just)
	if all := allStates(just); !reflect.DeepEqual(all, l) {
		t.Fatalf("%d states, want %d", len(all), len(l))
	}
	for _, n := range []int{api.MaxStates - 1, api.MaxStates, 255, 295} {
		g := branches(t, n)
		all := allStates(g)
		if _, e := auto.Build(g); e != api.ErrFull || len(all) != n+2 {
			t.Fatalf("%d: %d states, %v", n, len(all), e)
		}
		for _, wrong := range [][]api.State{nil, {}, l, all, all[:api.MaxStates], all[:api.MaxStates+1]} {
			refused(t, fmt.Sprint(n), g, wrong)
		}
	}
}

// TestExample is the chapter's.
func TestExample(t *testing.T) {
	g := good(t, "token a /a/; s: a s | ;")
	m := told(t, "the chapter's", g, built(t, "the chapter's", g))
	if len(m) != 4 || len(m[1]) != 1 || m[1][0].Prod != 1 || !slices.Equal(m[1][0].Terms, []int{0}) {
		t.Error(m)
	}
}

// spoil writes over all that an answer has, spare room included.
func spoil(m [][]api.Look) {
	for n := range m {
		done := m[n][:cap(m[n])]
		for i := range done {
			terms := done[i].Terms[:cap(done[i].Terms)]
			for k := range terms {
				terms[k] = 77
			}
			done[i] = api.Look{Prod: 77, Terms: []int{77}}
		}
	}
	m = m[:cap(m)]
	for n := range m {
		m[n] = []api.Look{{Prod: 77}}
	}
}

// TestNewMemory: no two lists of one answer share memory, nor do two answers, nor does one with an argument, spare room included: so what is written into one is seen in no other one.
func TestNewMemory(t *testing.T) {
	for s := range whats() {
		g := good(t, s)
		l := built(t, s, g)
		kept := copiedStates(l)
		m := told(t, s, g, l)
		was := copied(m)
		for range 2 {
			spoil(told(t, s, g, l))
		}
		if !sameLooks(m, was) || !sameLooks(told(t, s, g, l), was) {
			t.Errorf("%q: changed: %v, want %v", s, m, was)
		}
		if !reflect.DeepEqual(l, kept) || !reflect.DeepEqual(g, good(t, s)) {
			t.Errorf("%q: changed: %v, want %v; %v", s, l, kept, g)
		}
		// one list of an answer after the other
		for n := range m {
			for i := range m[n] {
				terms := m[n][i].Terms
				for k := range terms[:cap(terms)] {
					terms[:cap(terms)][k] = 77
				}
				if !sameLooks([][]api.Look{m[n][i+1:]}, [][]api.Look{was[n][i+1:]}) || !sameLooks(m[n+1:], was[n+1:]) {
					t.Errorf("%q: state %d: others changed: %v, want %v", s, n, m, was)
				}
			}
			spare := m[n][:cap(m[n])]
			for i := range spare {
				spare[i] = api.Look{Prod: 77}
			}
			if !sameLooks(m[n+1:], was[n+1:]) {
				t.Errorf("%q: state %d: others changed: %v, want %v", s, n, m, was)
			}
		}
	}
}

// TestUnchanged: what is handed in isn't changed, spare room included.
func TestUnchanged(t *testing.T) {
	spare := func() api.Grammar {
		g := good(t, whole)
		g.Rules = append(g.Rules, api.Rule{Name: "spare"})
		g.Nonts = append(g.Nonts, "spare")
		g.Levels = append(g.Levels, api.Level{Power: 7, Side: 7})
		g.Prods = append(g.Prods, prod(7, 7))
		for i := range g.Prods {
			g.Prods[i].Right = append(g.Prods[i].Right, 77)
		}
		return g
	}
	cut := func(g api.Grammar) api.Grammar {
		g.Rules, g.Nonts, g.Levels, g.Prods = g.Rules[:len(g.Rules)-1], g.Nonts[:4], g.Levels[:4], slices.Clone(g.Prods[:len(g.Prods)-1])
		for i, p := range g.Prods {
			g.Prods[i].Right = p.Right[:len(p.Right)-1]
		}
		return g
	}
	roomy := func() []api.State {
		l := append(built(t, whole, good(t, whole)), api.State{}, api.State{Next: []int{77}})
		for n, s := range l {
			l[n] = api.State{Kernel: append(slices.Clone(s.Kernel), item(77, 77), item(-77, 0)), Next: append(slices.Clone(s.Next), 77, -77)}
		}
		return l
	}
	narrow := func(l []api.State) []api.State {
		l = slices.Clone(l[:len(l)-2])
		for n, s := range l {
			l[n] = api.State{Kernel: s.Kernel[:len(s.Kernel)-2], Next: s.Next[:len(s.Next)-2]}
		}
		return l
	}
	g, l := spare(), roomy()
	given, handed := cut(g), narrow(l)
	for range 2 {
		if m := told(t, whole, given, handed); !sameLooks(m, looks(t, given, handed, whats()[whole])) {
			t.Error(m)
		}
		refused(t, "with what is spare", given, l)
		refused(t, "with what is spare", g, handed)
	}
	if !reflect.DeepEqual(g, spare()) || !reflect.DeepEqual(given, cut(spare())) {
		t.Error("changed:", g)
	}
	if !reflect.DeepEqual(l, roomy()) || !reflect.DeepEqual(handed, narrow(roomy())) {
		t.Error("changed:", l)
	}
}

// TestManyAtOnce: calls at the same time have nothing to do with one another, even of one grammar.
func TestManyAtOnce(t *testing.T) {
	one := good(t, whole)
	l := built(t, whole, one)
	want := looks(t, one, l, whats()[whole])
	var wait sync.WaitGroup
	for n := range 8 {
		g := good(t, numbered(n, "token t# /x/; ")+"s: x s | ; x: x | ; y: y;")
		states := built(t, "its own", g)
		own := looks(t, g, states, []string{"> 1 $; 3 $", "s > -1 $", "x > 1 $; 2 $; 3 $", "x s > 0 $"})
		wait.Go(func() {
			for range 20 {
				if m, e := look.Of(g, states); e != api.OK || !sameLooks(m, own) {
					t.Errorf("%d terminals: %v, %v, want %v", n, m, e, own)
				}
				if m, e := look.Of(one, l); e != api.OK || !sameLooks(m, want) {
					t.Errorf("%d terminals: of one: %v, %v, want %v", n, m, e, want)
				}
				if m, e := look.Of(g, l); e != api.ErrArg || m != nil {
					t.Errorf("%d terminals: of another: %v, %v", n, m, e)
				}
			}
		})
	}
	wait.Wait()
}
