package items_test

import (
	"fmt"
	"slices"
	"testing"

	"topiary/api"
	"topiary/check"
	"topiary/gram"
	"topiary/items"
)

// closedSets are all sets of a grammar's items (bit n: item n of all) that have, with an item behind whose dot a nonterminal stands, all its productions with Dot 0.
func closedSets(g api.Grammar, all []api.Item) []int {
	asks := make([]int, len(all))
	for n, x := range all {
		right := []int{g.Start}
		if x.Prod >= 0 {
			right = g.Prods[x.Prod].Right
		}
		for k, y := range all {
			if x.Dot < len(right) && y.Dot == 0 && y.Prod >= 0 && g.Prods[y.Prod].Left == right[x.Dot] {
				asks[n] |= 1 << k
			}
		}
	}
	var sets []int
	for set := range 1 << len(all) {
		closed := true
		for n := range all {
			closed = closed && (set>>n&1 == 0 || set&asks[n] == asks[n])
		}
		if closed {
			sets = append(sets, set)
		}
	}
	return sets
}

// least is what all of the sets have that have all of a list.
func least(sets []int, list int) int {
	all := -1
	for _, set := range sets {
		if set&list == list {
			all &= set
		}
	}
	return all
}

// of are the items of a set.
func of(set int, all []api.Item) []api.Item {
	var l []api.Item
	for n, x := range all {
		if set>>n&1 == 1 {
			l = append(l, x)
		}
	}
	return l
}

// TestLeast: all grammars of one terminal, two nonterminals and at most two productions, whose right sides have at most two symbols, at both starts: of each set of items the closure is, by the chapter's words themselves, what all closed sets have that have it.
func TestLeast(t *testing.T) {
	prods := []api.Prod{{}}
	for left := 2; left <= 3; left++ {
		prods = append(prods, prod(left))
		for one := 1; one <= 3; one++ {
			prods = append(prods, prod(left, one))
			for other := 1; other <= 3; other++ {
				prods = append(prods, prod(left, one, other))
			}
		}
	}
	g := good(t, "token a /a/; s: ; t: ;")
	for i := range prods {
		for k := range prods {
			g.Prods = slices.DeleteFunc([]api.Prod{prods[i], prods[k]}, func(p api.Prod) bool { return p.Left == 0 })
			for g.Start = 2; g.Start <= 3; g.Start++ {
				leastOf(t, g)
			}
		}
	}
}

// leastOf holds the calls to the closed sets, at each set of items of a grammar that has few.
func leastOf(t *testing.T, g api.Grammar) {
	t.Helper()
	all := every(g)
	sets := closedSets(g, all)
	for set := range 1 << len(all) {
		l, want := of(set, all), of(least(sets, set), all)
		if got := items.Closure(g, l); !slices.Equal(got, want) {
			t.Fatalf("%v: Closure of %v: %v, want %v", g, l, got, want)
		}
		if len(l) > 1 {
			continue
		}
		for sym := range gram.Terms(g) + 1 + len(g.Nonts) {
			if got, next := items.Goto(g, l, sym), moved(g, want, sym); !slices.Equal(got, next) {
				t.Fatalf("%v: Goto of %v by %d: %v, want %v", g, l, sym, got, next)
			}
		}
	}
}

// moved are those of all items that come of one of a list by a symbol.
func moved(g api.Grammar, l []api.Item, sym int) []api.Item {
	var next []api.Item
	for _, x := range every(g) {
		right := []int{g.Start}
		if x.Prod >= 0 {
			right = g.Prods[x.Prod].Right
		}
		if x.Dot > 0 && right[x.Dot-1] == sym && slices.Contains(l, item(x.Prod, x.Dot-1)) {
			next = append(next, x)
		}
	}
	return next
}

// leading tells of each two symbols whether the one leads to the other by first symbols of right sides, in any number of steps.
func leading(g api.Grammar) [][]bool {
	count := gram.Terms(g) + 1 + len(g.Nonts)
	way := make([][]bool, count)
	for sym := range way {
		way[sym] = make([]bool, count)
		way[sym][sym] = true
	}
	for _, p := range g.Prods {
		if len(p.Right) > 0 {
			way[p.Left][p.Right[0]] = true
		}
	}
	for by := range count {
		for from := range count {
			for to := range count {
				way[from][to] = way[from][to] || way[from][by] && way[by][to]
			}
		}
	}
	return way
}

// byWays is the closure by which symbols lead to which.
func byWays(g api.Grammar, l []api.Item) []api.Item {
	way := leading(g)
	var want []api.Item
	for _, x := range every(g) {
		in := slices.Contains(l, x)
		for _, y := range l {
			right := []int{g.Start}
			if y.Prod >= 0 {
				right = g.Prods[y.Prod].Right
			}
			in = in || x.Dot == 0 && x.Prod >= 0 && y.Dot < len(right) && way[right[y.Dot]][g.Prods[x.Prod].Left]
		}
		if in {
			want = append(want, x)
		}
	}
	return want
}

// TestMixed: greater grammars and lists, made by a rule of numbers.
func TestMixed(t *testing.T) {
	seed := uint64(16)
	pick := func(n int) int {
		seed = seed*6364136223846793005 + 1442695040888963407
		return int(seed>>33) % n
	}
	met := map[string]int{}
	for range 1500 {
		terms, nonts := pick(5), 1+pick(7)
		g := good(t, numbered(terms, "token t# /x/; skip w# /y/; ")+numbered(nonts, "n#: ; "))
		g.Start = terms + 1 + pick(nonts)
		g.Prods = nil
		for range pick(4 + 2*nonts) {
			p := prod(terms + 1 + pick(nonts))
			for range pick(5) {
				p.Right = append(p.Right, 1+pick(terms+nonts))
			}
			g.Prods = append(g.Prods, p)
		}
		if !check.Sound(g) {
			t.Fatalf("not sound: %v", g)
		}
		all, what := every(g), fmt.Sprint(g)
		for range 5 {
			var l []api.Item
			for range pick(6) {
				l = append(l, all[pick(len(all))])
			}
			want := byWays(g, l)
			closed(t, what, g, l, want)
			for sym := range terms + 1 + nonts {
				next := moved(g, want, sym)
				led(t, what, g, l, sym, next)
				met[fmt.Sprint("moved ", len(next))]++
			}
			met[fmt.Sprint("handed in ", len(l))]++
			met[fmt.Sprint("more ", len(want)-len(l))]++
			wrong(t, what, g, slices.Insert(slices.Clone(l), pick(len(l)+1), item(len(g.Prods), 0)))
			wrong(t, what, g, slices.Insert(slices.Clone(l), pick(len(l)+1), item(-1, 2)))
		}
	}
	for _, kind := range []string{"moved ", "handed in ", "more "} {
		for n := range 5 {
			if met[fmt.Sprint(kind, n)] < 100 {
				t.Error("too few:", kind, n, met)
			}
		}
	}
}
