package look_test

import (
	"fmt"
	"maps"
	"slices"
	"testing"

	"topiary/api"
	"topiary/auto"
	"topiary/check"
	"topiary/first"
	"topiary/gram"
	"topiary/items"
)

// place is an item in a state.
type place struct {
	state int
	item  api.Item
}

// behindDot is the nonterminal behind an item's dot and the text behind that; 0, if there is none.
func behindDot(g api.Grammar, x api.Item) (int, []int) {
	side := items.Side(g, x.Prod)
	if x.Dot == len(side) || side[x.Dot] <= gram.Terms(g) {
		return 0, nil
	}
	return side[x.Dot], side[x.Dot+1:]
}

// byWords tells lookaheads by the chapter's words: round by round each item of each state has what the three sentences say, till a round tells nothing new. Terminals are bits.
func byWords(g api.Grammar, l []api.State) [][]api.Look {
	closures := make([][]api.Item, len(l))
	for n, s := range l {
		closures[n] = items.Closure(g, s.Kernel)
	}
	has := map[place]uint32{{0, item(-1, 0)}: 1}
	more := true
	give := func(to place, terms uint32) {
		if has[to]|terms != has[to] {
			has[to] |= terms
			more = true
		}
	}
	type rest struct {
		sym      int
		begins   uint32
		vanishes bool
	}
	rests := map[api.Item]rest{}
	for more {
		more = false
		for n, closure := range closures {
			for _, x := range closure {
				r, met := rests[x]
				if !met {
					sym, behind := behindDot(g, x)
					r.sym = sym
					begins, vanishes := first.Of(g, behind)
					r.vanishes = vanishes
					for _, term := range begins {
						r.begins |= 1 << term
					}
					rests[x] = r
				}
				for prod, p := range g.Prods {
					if p.Left != r.sym {
						continue
					}
					give(place{n, item(prod, 0)}, r.begins)
					if r.vanishes {
						give(place{n, item(prod, 0)}, has[place{n, x}])
					}
				}
				side := items.Side(g, x.Prod)
				if x.Dot < len(side) {
					give(place{l[n].Next[side[x.Dot]], item(x.Prod, x.Dot+1)}, has[place{n, x}])
				}
			}
		}
	}
	all := make([][]api.Look, len(l))
	for n, closure := range closures {
		for _, x := range closure {
			if x.Dot == len(items.Side(g, x.Prod)) {
				all[n] = append(all[n], api.Look{Prod: x.Prod, Terms: bits(has[place{n, x}])})
			}
		}
	}
	return all
}

// bits are the numbers of those that are set.
func bits(set uint32) []int {
	var l []int
	for n := range 32 {
		if set>>n&1 == 1 {
			l = append(l, n)
		}
	}
	return l
}

// none stands as a terminal for what is there whatever comes behind.
const none = -1

// ahead is an item, and a terminal that comes behind all of it.
type ahead struct {
	item api.Item
	term int
}

// byTexts tells lookaheads by what is valid for texts, of which those for which the same is valid are one: to each state lead many of these, and the lookaheads there are those of all together. It tells false, if they are more than most.
func byTexts(g api.Grammar, l []api.State, most int) ([][]api.Look, bool) {
	begins := map[string][]int{}
	behind := func(rest []int, term int) []int {
		key := fmt.Sprint(rest)
		if _, met := begins[key]; !met {
			terms, vanishes := first.Of(g, rest)
			terms = append(terms, none)
			if vanishes {
				terms = append(terms, 99)
			}
			begins[key] = terms
		}
		terms := slices.Clone(begins[key])
		if n := slices.Index(terms, 99); n >= 0 {
			terms[n] = term
		}
		return terms
	}
	closed := func(set map[ahead]int) {
		work := slices.Collect(maps.Keys(set))
		for ; len(work) > 0; work = work[1:] {
			sym, rest := behindDot(g, work[0].item)
			for prod, p := range g.Prods {
				if sym == 0 || p.Left != sym {
					continue
				}
				for _, term := range behind(rest, work[0].term) {
					x := ahead{item(prod, 0), term}
					if set[x] == 0 {
						set[x] = 1
						work = append(work, x)
					}
				}
			}
		}
	}
	type class struct {
		set   map[ahead]int
		state int
	}
	start := class{set: map[ahead]int{{item(-1, 0), none}: 1, {item(-1, 0), 0}: 1}}
	met := map[string]int{}
	found := make([]map[int]uint32, len(l))
	for work := []class{start}; len(work) > 0; work = work[1:] {
		c := work[0]
		key := fmt.Sprint(c.set)
		if met[key] > 0 {
			continue
		}
		met[key] = 1
		if len(met) > most {
			return nil, false
		}
		closed(c.set)
		if found[c.state] == nil {
			found[c.state] = map[int]uint32{}
		}
		next := map[int]map[ahead]int{}
		for x := range c.set {
			side := items.Side(g, x.item.Prod)
			if x.item.Dot == len(side) {
				found[c.state][x.item.Prod] |= 1 << (x.term + 1)
				continue
			}
			sym := side[x.item.Dot]
			if next[sym] == nil {
				next[sym] = map[ahead]int{}
			}
			next[sym][ahead{item(x.item.Prod, x.item.Dot+1), x.term}] = 1
		}
		for sym, set := range next {
			work = append(work, class{set, auto.Walk(l, c.state, []int{sym})})
		}
	}
	all := make([][]api.Look, len(l))
	for n, done := range found {
		for _, prod := range slices.Sorted(maps.Keys(done)) {
			all[n] = append(all[n], api.Look{Prod: prod, Terms: bits(done[prod] >> 1)})
		}
	}
	return all, true
}

// sorts counts what lookaheads there were: of nothing, of the end alone, of terminals alone, of both; with others in one state; just as in another state, and not so; with less than stands behind the nonterminal.
type sorts struct {
	none, end, terms, both, several, same, other, less int
}

// count puts those of a grammar to the others.
func (c *sorts) count(g api.Grammar, m [][]api.Look) {
	stands := first.Behind(g)
	met := map[int][]int{}
	for _, done := range m {
		if len(done) > 1 {
			c.several++
		}
		for _, one := range done {
			switch {
			case len(one.Terms) == 0:
				c.none++
			case one.Terms[len(one.Terms)-1] == 0:
				c.end++
			case one.Terms[0] > 0:
				c.terms++
			default:
				c.both++
			}
			if one.Prod < 0 {
				continue
			}
			if len(one.Terms) < len(stands[g.Prods[one.Prod].Left]) {
				c.less++
			}
			if other, ok := met[one.Prod]; ok && slices.Equal(other, one.Terms) {
				c.same++
			} else if ok {
				c.other++
			}
			met[one.Prod] = one.Terms
		}
	}
}

// least tells how often the rarest of all was there.
func (c sorts) least() int {
	return min(c.none, c.end, c.terms, c.both, c.several, c.same, c.other, c.less)
}

// shortProds are all productions of the nonterminals from first to last whose right sides have at most two symbols, and ahead of all none.
func shortProds(first, last int) []api.Prod {
	prods := []api.Prod{{}}
	for left := first; left <= last; left++ {
		prods = append(prods, prod(left))
		for one := 1; one <= last; one++ {
			prods = append(prods, prod(left, one))
			for other := 1; other <= last; other++ {
				prods = append(prods, prod(left, one, other))
			}
		}
	}
	return prods
}

// both holds Of to both second ways.
func both(t *testing.T, g api.Grammar, c *sorts) {
	t.Helper()
	what := fmt.Sprint(g.Prods, g.Start)
	l := built(t, what, g)
	m := told(t, what, g, l)
	if want := byWords(g, l); !sameLooks(m, want) {
		t.Fatalf("%s: %v, want %v by the chapter's words", what, m, want)
	}
	if want, ok := byTexts(g, l, 1000); !ok || !sameLooks(m, want) {
		t.Fatalf("%s: %v, want %v by texts, %t", what, m, want, ok)
	}
	c.count(g, m)
}

// TestTwoTerminals: all grammars of two terminals, two nonterminals and at most two productions, whose right sides have at most two symbols, at both starts.
func TestTwoTerminals(t *testing.T) {
	prods := shortProds(3, 4)
	g := good(t, "token a /a/; token b /b/; s: ; t: ;")
	var c sorts
	for i := range prods {
		for k := range prods[:i+1] {
			g.Prods = slices.DeleteFunc([]api.Prod{prods[i], prods[k]}, func(p api.Prod) bool { return p.Left == 0 })
			for g.Start = 3; g.Start <= 4; g.Start++ {
				both(t, g, &c)
			}
		}
	}
	if c.least() < 10 {
		t.Errorf("too few: %+v", c)
	}
}

// TestOneTerminal: all of one terminal, two nonterminals and at most three productions.
func TestOneTerminal(t *testing.T) {
	prods := shortProds(2, 3)
	g := good(t, "token a /a/; s: ; t: ;")
	var c sorts
	for i := range prods {
		for j := range prods[:i+1] {
			for k := range prods[:j+1] {
				g.Prods = slices.DeleteFunc([]api.Prod{prods[j], prods[i], prods[k]}, func(p api.Prod) bool { return p.Left == 0 })
				both(t, g, &c)
			}
		}
	}
	if c.least() < 50 {
		t.Errorf("too few: %+v", c)
	}
}

// mixer makes grammars by a rule of numbers.
type mixer struct{ seed uint64 }

func (m *mixer) pick(n int) int {
	m.seed = m.seed*6364136223846793005 + 1442695040888963407
	return int(m.seed>>33) % n
}

// mixed is a grammar of so many terminals and nonterminals.
func (m *mixer) mixed(t *testing.T, terms, nonts, prods, right int) api.Grammar {
	t.Helper()
	g := good(t, numbered(terms, "token t# /x/; skip w# /y/; ")+numbered(nonts, "n#: ; "))
	g.Start = terms + 1 + m.pick(nonts)
	g.Prods = nil
	for n := range prods {
		p := prod(terms + 1 + m.pick(nonts))
		for range m.pick(right + 1) {
			sym := 1 + m.pick(terms+nonts)
			if sym <= terms && m.pick(3) == 0 {
				sym = terms + 1 + m.pick(nonts)
			}
			p.Right = append(p.Right, sym)
		}
		// so that the start symbol has one, and few nonterminals have none
		if n == 0 {
			p.Left = g.Start
		} else if n <= nonts && m.pick(4) > 0 {
			p.Left = terms + n
		}
		p.Prec = m.pick(8) % (terms + 1) / 2
		g.Prods = append(g.Prods, p)
	}
	if !check.Sound(g) {
		t.Fatalf("not sound: %v", g)
	}
	return g
}

// TestMixed: greater grammars, held to both ways, to that by texts if it isn't too much.
func TestMixed(t *testing.T) {
	m := mixer{seed: 18}
	var c sorts
	great, texts := 0, 0
	for range 900 {
		terms, nonts := m.pick(6), 1+m.pick(6)
		g := m.mixed(t, terms, nonts, 1+m.pick(6+3*nonts), 1+m.pick(6))
		l, e := auto.Build(g)
		if e != api.OK {
			continue
		}
		what := fmt.Sprint(g.Prods, g.Start)
		got := told(t, what, g, l)
		if want := byWords(g, l); !sameLooks(got, want) {
			t.Fatalf("%s: %v, want %v by the chapter's words", what, got, want)
		}
		if len(l) > 30 {
			great++
		} else if want, ok := byTexts(g, l, 60); ok {
			texts++
			if !sameLooks(got, want) {
				t.Fatalf("%s: %v, want %v by texts", what, got, want)
			}
		}
		c.count(g, got)
	}
	if c.least() < 200 || great < 50 || texts < 500 {
		t.Errorf("too few: %+v, great %d, by texts %d", c, great, texts)
	}
}
