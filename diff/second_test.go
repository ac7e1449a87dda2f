package diff_test

import (
	"fmt"
	"slices"
	"strings"
	"testing"

	"topiary/api"
	"topiary/check"
	"topiary/diff"
)

// symbols are the names of a sound grammar's symbols, told a second way.
func symbols(g api.Grammar) []string {
	names := []string{"$"}
	for _, r := range g.Rules {
		if !r.Skip {
			names = append(names, r.Name)
		}
	}
	return append(names, g.Nonts...)
}

// named is a production in names: left side, right side, and the level's.
func named(g api.Grammar, p api.Prod) (string, []string, string) {
	names := symbols(g)
	var right []string
	for _, sym := range p.Right {
		right = append(right, names[sym])
	}
	return names[p.Left], right, names[p.Prec]
}

func likeNamed(g, h api.Grammar, p, q api.Prod) bool {
	left, right, prec := named(g, p)
	otherLeft, otherRight, otherPrec := named(h, q)
	return left == otherLeft && slices.Equal(right, otherRight) && prec == otherPrec
}

// second tells the chapter's sentence a second way: each production of h looks for its own through all of g.
func second(g, h api.Grammar) api.Change {
	var c api.Change
	kept := make([]bool, len(g.Prods))
	for k, q := range h.Prods {
		first := -1
		for i, p := range g.Prods {
			if first < 0 && !kept[i] && likeNamed(g, h, p, q) {
				first = i
			}
		}
		if first < 0 {
			c.New = append(c.New, k)
			continue
		}
		kept[first] = true
		c.Kept = append(c.Kept, [2]int{first, k})
	}
	for i := range g.Prods {
		if !kept[i] {
			c.Gone = append(c.Gone, i)
		}
	}
	c.Rules = fmt.Sprint(g.Rules) != fmt.Sprint(h.Rules)
	c.Levels = otherLevels(g, h) || otherLevels(h, g)
	c.Start = symbols(g)[g.Start] != symbols(h)[h.Start]
	return c
}

// otherLevels tells whether some terminal of g has another level in h, or is no terminal there.
func otherLevels(g, h api.Grammar) bool {
	terms, others := symbols(g)[:len(g.Levels)], symbols(h)[:len(h.Levels)]
	for i, name := range terms {
		k := slices.Index(others, name)
		if k < 0 || g.Levels[i] != h.Levels[k] {
			return true
		}
	}
	return false
}

// again holds all calls to their second way, and tells what Of told.
func again(t *testing.T, g, h api.Grammar) api.Change {
	t.Helper()
	if !check.Sound(g) || !check.Sound(h) {
		t.Fatalf("not sound: %v, %v", g, h)
	}
	want := second(g, h)
	c, e := diff.Of(g, h)
	if e != api.OK || !likeChange(c, want) {
		t.Fatalf("%v to %v: %v, %v, want %v", g, h, c, e, want)
	}
	once(t, "second", c, len(g.Prods), len(h.Prods))
	for i, p := range g.Prods {
		left, right, prec := named(g, p)
		if text := left + ": " + strings.Join(append(right, "%"), " ") + " " + prec; diff.Text(g, i) != text {
			t.Fatalf("%v, %d: %q, want %q", g, i, diff.Text(g, i), text)
		}
	}
	same := fmt.Sprint(g) == fmt.Sprint(h)
	if diff.Same(g, h) != same || diff.Same(h, g) != same {
		t.Fatalf("%v, %v: %t", g, h, !same)
	}
	if same && !likeChange(c, change(pairs(len(g.Prods)), nil, nil)) {
		t.Fatalf("%v: changed: %v", g, c)
	}
	return c
}

// TestSmall: each two lists of at most three productions out of four, of which two differ in their level alone.
func TestSmall(t *testing.T) {
	parts := []api.Prod{{Left: 2, Right: []int{1}, Prec: 1}, {Left: 2, Right: []int{1}}, {Left: 2}, {Left: 2, Right: []int{2}}}
	lists := [][]api.Prod{nil}
	for n := 0; n < len(lists); n++ {
		if len(lists[n]) < 3 {
			for _, p := range parts {
				lists = append(lists, append(slices.Clone(lists[n]), p))
			}
		}
	}
	if len(lists) != 1+4+16+64 {
		t.Fatal(len(lists))
	}
	g, h := good(t, "token a /a/; s: ;"), good(t, "token a /a/; s: ;")
	for _, one := range lists {
		for _, other := range lists {
			g.Prods, h.Prods = one, other
			again(t, g, h)
		}
	}
}

// drawn is a sound grammar made by a rule of numbers: its names are few, so that two of them have many texts in common.
func drawn(pick func(n int) int) api.Grammar {
	names := []string{"a", "b", "c", "d", "e", "f"}
	for i := range names {
		k := i + pick(len(names)-i)
		if pick(3) > 0 {
			k = i
		}
		names[i], names[k] = names[k], names[i]
	}
	g := api.Grammar{Levels: make([]api.Level, 1), Nonts: slices.Clone(names[4-pick(2):])}
	terms := 0
	for _, name := range names[:6-len(g.Nonts)-pick(2)] {
		r := api.Rule{Name: name, Re: []api.Cell{{Op: api.RSet}}, Skip: pick(8) == 0}
		r.Re[0].Set[1] = 2 << pick(6)
		if pick(4) > 0 {
			r.Re[0].Set[1] = 2
		}
		g.Rules = append(g.Rules, r)
		if !r.Skip {
			terms++
			g.Levels = append(g.Levels, []api.Level{{}, {}, {}, level(1, 1), level(1, 2), level(2, 1)}[pick(6)])
		}
	}
	g.Start = terms + 1 + pick(len(g.Nonts))
	for range pick(12) {
		p := api.Prod{Left: terms + 1 + pick(len(g.Nonts)), Prec: pick(terms+1) * pick(2)}
		for range pick(3) {
			p.Right = append(p.Right, 1+pick(terms+len(g.Nonts)))
		}
		g.Prods = append(g.Prods, p)
	}
	return g
}

// nearly is g with a few changes.
func nearly(g api.Grammar, pick func(n int) int) api.Grammar {
	g.Rules, g.Levels, g.Prods = slices.Clone(g.Rules), slices.Clone(g.Levels), slices.Clone(g.Prods)
	for range pick(4) {
		switch n := len(g.Prods); {
		case n > 0 && pick(2) > 0:
			i, k := pick(n), pick(n)
			g.Prods[i], g.Prods[k] = g.Prods[k], g.Prods[i]
		case n > 0 && pick(2) > 0:
			g.Prods = slices.Insert(g.Prods, pick(n), g.Prods[pick(n)])
		case n > 0 && pick(2) > 0:
			i := pick(n)
			g.Prods = slices.Delete(g.Prods, i, i+1)
		case len(g.Levels) > 1 && pick(2) > 0:
			g.Levels[1+pick(len(g.Levels)-1)] = level(1+pick(2), 1)
		case len(g.Rules) > 0 && pick(3) > 0:
			g.Rules[pick(len(g.Rules))].Re = []api.Cell{{Op: api.REmpty}}
		case pick(2) > 0:
			g.Start = len(g.Levels) + pick(len(g.Nonts))
		}
	}
	return g
}

// TestMixed: greater ones, of which many have much in common, and some are the same.
func TestMixed(t *testing.T) {
	seed := uint64(3)
	pick := func(n int) int {
		seed = seed*6364136223846793005 + 1442695040888963407
		return int(seed>>33) % n
	}
	met := map[string]int{}
	count := func(what string, is bool) {
		if is {
			met[what]++
		} else {
			met["not "+what]++
		}
	}
	for range 8000 {
		g := drawn(pick)
		other := drawn(pick)
		for _, h := range []api.Grammar{nearly(g, pick), other} {
			c := again(t, g, h)
			again(t, h, g)
			count("Rules", c.Rules)
			count("Levels", c.Levels)
			count("Start", c.Start)
			count("Kept", len(c.Kept) > 0)
			count("Gone", len(c.Gone) > 0)
			count("New", len(c.New) > 0)
			count("same", diff.Same(g, h))
			count("in another order", !slices.IsSortedFunc(c.Kept, func(a, b [2]int) int { return a[0] - b[0] }))
			count("no rules, but levels", !c.Rules && c.Levels)
			count("rules, but no levels", c.Rules && !c.Levels)
		}
	}
	if len(met) != 20 {
		t.Error("some are missing:", met)
	}
	for what, n := range met {
		if n < 200 {
			t.Error("too few:", what, n)
		}
	}
}
