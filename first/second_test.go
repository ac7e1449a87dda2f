package first_test

import (
	"fmt"
	"slices"
	"testing"

	"topiary/api"
	"topiary/check"
	"topiary/first"
	"topiary/gram"
)

// derived are the texts of at most so many symbols that come of a text by way of such texts alone, one production at a time, at any place.
func derived(g api.Grammar, text []int, most int) [][]int {
	texts := [][]int{text}
	key := func(text []int) string {
		var b []byte
		for _, sym := range text {
			b = append(b, byte(sym))
		}
		return string(b)
	}
	met := map[string]int{key(text): 1}
	for n := 0; n < len(texts); n++ {
		for at, sym := range texts[n] {
			for _, p := range g.Prods {
				if p.Left != sym || len(texts[n])-1+len(p.Right) > most {
					continue
				}
				next := slices.Concat(texts[n][:at], p.Right, texts[n][at+1:])
				if met[key(next)] == 0 {
					met[key(next)] = 1
					texts = append(texts, next)
				}
			}
		}
	}
	return texts
}

// told is all that the calls tell of a grammar, of its symbols one by one.
type told struct {
	vanish []int
	begins [][]int
	behind [][]int
}

// marksOf are the numbers that have a mark.
func marksOf(marks []bool) []int {
	var l []int
	for n, mark := range marks {
		if mark {
			l = append(l, n)
		}
	}
	return l
}

// byTexts tells it by the chapter's words themselves: by the texts that are derived.
func byTexts(g api.Grammar, most int) told {
	terms, count := gram.Terms(g), gram.Terms(g)+1+len(g.Nonts)
	all := told{begins: make([][]int, count), behind: make([][]int, count)}
	marks := make([][]bool, count)
	for sym := range marks {
		marks[sym] = make([]bool, terms+1)
	}
	for sym := 1; sym < count; sym++ {
		begin := make([]bool, terms+1)
		for _, text := range derived(g, []int{sym}, most) {
			if len(text) == 0 {
				all.vanish = append(all.vanish, sym)
			} else if text[0] <= terms {
				begin[text[0]] = true
			}
		}
		all.begins[sym] = marksOf(begin)
	}
	for _, text := range derived(g, []int{g.Start, 0}, most+1) {
		for i := 1; i < len(text); i++ {
			if text[i] <= terms {
				marks[text[i-1]][text[i]] = true
			}
		}
	}
	for sym := range marks {
		all.behind[sym] = marksOf(marks[sym])
	}
	return all
}

// pairs of symbols: the one leads to the other.
type pairs map[[2]int]int

// led puts to pairs of symbols below count those that come of two that meet, and each symbol with itself.
func led(way pairs, count int) pairs {
	for by := range count {
		way[[2]int{by, by}] = 1
		for from := range count {
			for to := range count {
				if way[[2]int{from, by}] > 0 && way[[2]int{by, to}] > 0 {
					way[[2]int{from, to}] = 1
				}
			}
		}
	}
	return way
}

// vanishes tells whether all of a text does, by trees of at most so many steps from the root on.
func vanishes(g api.Grammar, text []int, steps int) bool {
	for _, sym := range text {
		some := false
		for _, p := range g.Prods {
			some = some || steps > 0 && p.Left == sym && vanishes(g, p.Right, steps-1)
		}
		if !some {
			return false
		}
	}
	return true
}

// byEdges tells it by which symbols may be the first or the last part of which: what meets in a right side meets by those.
func byEdges(g api.Grammar) told {
	terms, count := gram.Terms(g), gram.Terms(g)+1+len(g.Nonts)
	all := told{begins: make([][]int, count), behind: make([][]int, count)}
	null := make([]bool, count)
	for sym := range null {
		null[sym] = vanishes(g, []int{sym}, len(g.Nonts))
	}
	all.vanish = marksOf(null)
	empty := func(text []int) bool { return !slices.ContainsFunc(text, func(sym int) bool { return !null[sym] }) }
	heads, tails, leads := pairs{}, pairs{}, pairs{}
	for _, p := range g.Prods {
		for i, sym := range p.Right {
			leads[[2]int{p.Left, sym}] = 1
			if empty(p.Right[:i]) {
				heads[[2]int{p.Left, sym}] = 1
			}
			if empty(p.Right[i+1:]) {
				tails[[2]int{p.Left, sym}] = 1
			}
		}
	}
	heads, tails, leads = led(heads, count), led(tails, count), led(leads, count)
	meet := pairs{{g.Start, 0}: 1}
	for _, p := range g.Prods {
		for i := range p.Right {
			for k := i + 1; k < len(p.Right); k++ {
				if leads[[2]int{g.Start, p.Left}] > 0 && empty(p.Right[i+1:k]) {
					meet[[2]int{p.Right[i], p.Right[k]}] = 1
				}
			}
		}
	}
	for sym := 1; sym < count; sym++ {
		for term := range terms + 1 {
			if term > 0 && heads[[2]int{sym, term}] > 0 {
				all.begins[sym] = append(all.begins[sym], term)
			}
			some := false
			for pair := range meet {
				some = some || tails[[2]int{pair[0], sym}] > 0 && heads[[2]int{pair[1], term}] > 0
			}
			if some {
				all.behind[sym] = append(all.behind[sym], term)
			}
		}
	}
	return all
}

// again holds the calls to what a second way told.
func again(t *testing.T, g api.Grammar, want told) {
	t.Helper()
	if !check.Sound(g) {
		t.Fatalf("not sound: %v", g)
	}
	if got := first.Vanish(g); !slices.Equal(got, want.vanish) {
		t.Fatalf("%v: Vanish: %v, want %v", g, got, want.vanish)
	}
	if got := first.Behind(g); !slices.EqualFunc(got, want.behind, slices.Equal) {
		t.Fatalf("%v: Behind: %v, want %v", g, got, want.behind)
	}
	for sym := 1; sym < len(want.begins); sym++ {
		got, null := first.Of(g, []int{sym})
		if !slices.Equal(got, want.begins[sym]) || null != slices.Contains(want.vanish, sym) {
			t.Fatalf("%v: Of %d: %v, %t, want %v", g, sym, got, null, want)
		}
	}
}

// ahead is what a text begins with by what its symbols do.
func (all told) ahead(text []int) ([]int, bool) {
	var l []int
	for _, sym := range text {
		l = append(l, all.begins[sym]...)
		if !slices.Contains(all.vanish, sym) {
			return slices.Compact(rising(l)), false
		}
	}
	return slices.Compact(rising(l)), true
}

// TestSmall: all grammars of one terminal, two nonterminals and at most three productions, whose right sides have at most two symbols, at both starts.
func TestSmall(t *testing.T) {
	prods := []api.Prod{{}}
	for left := 2; left <= 3; left++ {
		prods = append(prods, prod(left))
		for one := 1; one <= 3; one++ {
			prods = append(prods, prod(left, one))
			for other := 1; other <= 3; other++ {
				prods = append(prods, prod(left, one, other))
			}
		}
	}
	g := good(t, "token a /a/; s: ; t: ;")
	for i := range prods {
		for k := range prods[:i+1] {
			for m := range prods[:k+1] {
				g.Prods = slices.DeleteFunc([]api.Prod{prods[i], prods[k], prods[m]}, func(p api.Prod) bool { return p.Left == 0 })
				for g.Start = 2; g.Start <= 3; g.Start++ {
					again(t, g, byTexts(g, 6))
					again(t, g, byEdges(g))
				}
			}
		}
	}
}

// TestMixed: greater ones, made by a rule of numbers; of the smaller ones each that is told by a text is told by the calls too.
func TestMixed(t *testing.T) {
	seed := uint64(15)
	pick := func(n int) int {
		seed = seed*6364136223846793005 + 1442695040888963407
		return int(seed>>33) % n
	}
	met := map[string]int{}
	for n := range 6000 {
		terms, nonts := 1+pick(4), 1+pick(6)
		g := good(t, numbered(terms, "token t# /x/; skip w# /y/; ")+numbered(nonts, "n#: ; "))
		g.Start = terms + 1 + pick(nonts)
		g.Prods = nil
		for range pick(4 + 2*nonts) {
			p := prod(terms + 1 + pick(nonts))
			for range pick(5) {
				p.Right = append(p.Right, 1+pick(terms+nonts))
			}
			g.Prods = append(g.Prods, p)
		}
		want := byEdges(g)
		again(t, g, want)
		for range 10 {
			var text []int
			for range pick(6) {
				text = append(text, 1+pick(terms+nonts))
			}
			l, null := want.ahead(text)
			begins(t, fmt.Sprint(g), g, text, l, null)
		}
		if n%10 == 0 {
			within(t, g, byTexts(g, 4), want)
		}
		met[fmt.Sprint("vanish ", len(want.vanish))]++
		met[fmt.Sprint("behind the start ", len(want.behind[g.Start]))]++
		met[fmt.Sprint("reached ", len(check.Reached(g)))]++
		met[fmt.Sprint("ends ", len(check.Ends(g)))]++
	}
	for _, what := range []string{"vanish ", "behind the start ", "reached ", "ends "} {
		for n := 1; n <= 4; n++ {
			if met[fmt.Sprint(what, n)] < 100 {
				t.Error("too few:", what, n, met)
			}
		}
	}
}

// within asks that what texts told is told: they are too short for all of it.
func within(t *testing.T, g api.Grammar, some, all told) {
	t.Helper()
	part := func(l, of []int) bool {
		return !slices.ContainsFunc(l, func(n int) bool { return !slices.Contains(of, n) })
	}
	ok := part(some.vanish, all.vanish)
	for sym := range all.begins {
		ok = ok && part(some.begins[sym], all.begins[sym]) && part(some.behind[sym], all.behind[sym])
	}
	if !ok {
		t.Fatalf("%v: %v, texts tell %v", g, all, some)
	}
}
