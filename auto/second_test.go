package auto_test

import (
	"fmt"
	"slices"
	"testing"

	"topiary/api"
	"topiary/auto"
	"topiary/check"
	"topiary/items"
)

// far is how many symbols the texts have that TestTexts goes through.
const far = 5

// begun tells behind which texts, of at most far symbols, nonterminals may come: the start symbol behind the empty one, and the nonterminals of a right side behind what is ahead of them in it.
func begun(g api.Grammar) map[string][]int {
	come := map[string][]int{}
	var mark func(text string, sym int)
	mark = func(text string, sym int) {
		if len(text) > far || slices.Contains(come[text], sym) {
			return
		}
		come[text] = append(come[text], sym)
		for _, p := range g.Prods {
			if p.Left != sym {
				continue
			}
			for dot, next := range p.Right {
				if next >= symbols(g)-len(g.Nonts) {
					mark(text+spelt(p.Right[:dot]), next)
				}
			}
		}
	}
	mark("", g.Start)
	return come
}

// spelt is a text of symbols as a string, a byte a symbol.
func spelt(text []int) string {
	var out []byte
	for _, sym := range text {
		out = append(out, byte(sym))
	}
	return string(out)
}

// valid are the items that are for a text, rising: it ends with what each has done, ahead of which its left side may come.
func valid(g api.Grammar, come map[string][]int, text string) []api.Item {
	var l []api.Item
	if text == "" {
		l = append(l, item(-1, 0))
	}
	if text == spelt([]int{g.Start}) {
		l = append(l, item(-1, 1))
	}
	for n, p := range g.Prods {
		for dot := range len(p.Right) + 1 {
			ahead := len(text) - dot
			if ahead >= 0 && text[ahead:] == spelt(p.Right[:dot]) && slices.Contains(come[text[:ahead]], p.Left) {
				l = append(l, item(n, dot))
			}
		}
	}
	return l
}

// kernelOf are the items of which something is done, and that of state 0.
func kernelOf(l []api.Item) []api.Item {
	var kernel []api.Item
	for _, x := range l {
		if x.Dot > 0 || x.Prod == -1 {
			kernel = append(kernel, x)
		}
	}
	return kernel
}

// byTexts holds an automaton to what is valid for each text: text by text, the shorter ones ahead, symbol by symbol, states are met in the order of their numbers.
func byTexts(t *testing.T, g api.Grammar) int {
	t.Helper()
	what := fmt.Sprint(g.Prods, g.Start)
	l := built(t, what, g)
	come := begun(g)
	var met []string
	for texts := [][]int{nil}; len(texts) > 0; texts = texts[1:] {
		text := texts[0]
		want := kernelOf(valid(g, come, spelt(text)))
		state := auto.Walk(l, 0, text)
		if len(want) == 0 {
			if state != -1 {
				t.Fatalf("%s: by %v: %d, want nowhere", what, text, state)
			}
			continue
		}
		if state < 0 || state >= len(l) || !slices.Equal(l[state].Kernel, want) {
			t.Fatalf("%s: by %v: %d, want that of %v", what, text, state, want)
		}
		if number := slices.Index(met, fmt.Sprint(want)); number < 0 {
			met = append(met, fmt.Sprint(want))
		}
		if number := slices.Index(met, fmt.Sprint(want)); state != number {
			t.Fatalf("%s: by %v: %d, want %d", what, text, state, number)
		}
		if len(text) < far {
			for sym := range symbols(g) {
				texts = append(texts, append(slices.Clone(text), sym))
			}
		}
	}
	if len(met) != len(l) {
		t.Fatalf("%s: %d states, want %d", what, len(l), len(met))
	}
	return len(l)
}

// TestTexts: all grammars of one terminal, two nonterminals and at most two productions, whose right sides have at most two symbols, at both starts.
func TestTexts(t *testing.T) {
	prods := []api.Prod{{}}
	for left := 2; left <= 3; left++ {
		prods = append(prods, prod(left))
		for one := 1; one <= 3; one++ {
			prods = append(prods, prod(left, one))
			for other := 1; other <= 3; other++ {
				prods = append(prods, prod(left, one, other))
			}
		}
	}
	g := good(t, "token a /a/; s: ; t: ;")
	met := map[int]int{}
	for i := range prods {
		for k := range prods {
			g.Prods = slices.DeleteFunc([]api.Prod{prods[i], prods[k]}, func(p api.Prod) bool { return p.Left == 0 })
			for g.Start = 2; g.Start <= 3; g.Start++ {
				count := byTexts(t, g)
				met[count]++
				l := built(t, "small", g)
				defined(t, "small", g, l)
				comeTo(t, "small", g, l)
			}
		}
	}
	for n := 2; n <= 6; n++ {
		if met[n] < 20 {
			t.Error("too few:", n, met)
		}
	}
}

// count is how many kernels there are, or one more than there may be states.
func count(g api.Grammar) int {
	work := [][]api.Item{{item(-1, 0)}}
	met := []string{fmt.Sprint(work[0])}
	for ; len(work) > 0 && len(met) <= api.MaxStates; work = work[1:] {
		for sym := range symbols(g) {
			next := items.Goto(g, work[0], sym)
			if len(next) > 0 && !slices.Contains(met, fmt.Sprint(next)) {
				met = append(met, fmt.Sprint(next))
				work = append(work, next)
			}
		}
	}
	return min(len(met), api.MaxStates+1)
}

// named is a production in names, with its Dot.
type named struct {
	left, right, prec string
	dot               int
}

// names are those of a kernel's items, each as often as it has it.
func names(g api.Grammar, kernel []api.Item) map[named]int {
	symbols := []string{"$"}
	for _, r := range g.Rules {
		if !r.Skip {
			symbols = append(symbols, r.Name)
		}
	}
	symbols = append(symbols, g.Nonts...)
	all := map[named]int{}
	for _, x := range kernel {
		name := named{dot: x.Dot}
		if x.Prod >= 0 {
			p := g.Prods[x.Prod]
			name.left, name.prec = symbols[p.Left], symbols[p.Prec]
			for _, sym := range p.Right {
				name.right += symbols[sym] + "/"
			}
		}
		all[name]++
	}
	return all
}

// mapping tells Map a second way: each state of l goes through all of m.
func mapping(g, h api.Grammar, l, m []api.State) []int {
	var to []int
	for _, s := range l {
		want := names(g, s.Kernel)
		to = append(to, slices.IndexFunc(m, func(other api.State) bool {
			got := names(h, other.Kernel)
			same := len(got) == len(want)
			for name, n := range want {
				same = same && got[name] == n
			}
			return same
		}))
	}
	return to
}

// mixer makes grammars by a rule of numbers.
type mixer struct{ seed uint64 }

func (m *mixer) pick(n int) int {
	m.seed = m.seed*6364136223846793005 + 1442695040888963407
	return int(m.seed>>33) % n
}

// mixed is a grammar of so many terminals and nonterminals.
func (m *mixer) mixed(t *testing.T, terms, nonts, prods, right int) api.Grammar {
	t.Helper()
	g := good(t, numbered(terms, "token t# /x/; skip w# /y/; ")+numbered(nonts, "n#: ; "))
	g.Start = terms + 1 + m.pick(nonts)
	g.Prods = nil
	for range prods {
		g.Prods = append(g.Prods, m.prod(terms, nonts, right))
	}
	// so that the start symbol has one, and something twice
	g.Prods[0].Left = g.Start
	if m.pick(3) == 0 {
		g.Prods[len(g.Prods)-1] = g.Prods[m.pick(len(g.Prods))]
	}
	if !check.Sound(g) {
		t.Fatalf("not sound: %v", g)
	}
	return g
}

func (m *mixer) prod(terms, nonts, right int) api.Prod {
	p := prod(terms + 1 + m.pick(nonts))
	for range m.pick(right + 1) {
		p.Right = append(p.Right, 1+m.pick(terms+nonts))
	}
	p.Prec = m.pick(8) % (terms + 1) / 2
	return p
}

// changes are of a grammar's productions, names and numbers.
func changes() []string {
	return []string{"nothing", "another order", "a production more", "one less", "one twice", "a name", "other numbers", "a start symbol", "a level", "new productions"}
}

// changed is a grammar that differs in little, and in what.
func (m *mixer) changed(g api.Grammar, terms int) (api.Grammar, string) {
	h := g
	h.Prods, h.Nonts = slices.Clone(g.Prods), slices.Clone(g.Nonts)
	one, other := m.pick(len(h.Prods)), m.pick(len(h.Prods))
	what := changes()[m.pick(len(changes()))]
	switch what {
	case "another order":
		slices.Reverse(h.Prods[one:])
		slices.Reverse(h.Prods)
	case "a production more":
		h.Prods = slices.Insert(h.Prods, one, m.prod(terms, len(h.Nonts), 4))
	case "one less":
		h.Prods = slices.Delete(h.Prods, one, one+1)
	case "one twice":
		h.Prods = slices.Insert(h.Prods, other, h.Prods[one])
	case "a name":
		h.Nonts[m.pick(len(h.Nonts))] = "other"
	case "other numbers":
		h = turned(h, terms)
	case "a start symbol":
		h.Start = terms + 1 + m.pick(len(h.Nonts))
	case "a level":
		h.Prods[one].Prec = terms
	case "new productions":
		h.Prods[one], h.Prods[other] = m.prod(terms, len(h.Nonts), 3), m.prod(terms, len(h.Nonts), 5)
	}
	return h, what
}

// turned is the same grammar by names, in which the nonterminals have their numbers the other way round, as have the terminals and the productions.
func turned(g api.Grammar, terms int) api.Grammar {
	number := func(sym int) int {
		switch {
		case sym > terms:
			return 2*terms + len(g.Nonts) + 1 - sym
		case sym > 0:
			return terms + 1 - sym
		}
		return 0
	}
	h := g
	h.Rules, h.Nonts, h.Prods, h.Start = slices.Clone(g.Rules), slices.Clone(g.Nonts), nil, number(g.Start)
	slices.Reverse(h.Rules)
	slices.Reverse(h.Nonts)
	for _, p := range slices.Backward(g.Prods) {
		turned := api.Prod{Left: number(p.Left), Prec: number(p.Prec)}
		for _, sym := range p.Right {
			turned.Right = append(turned.Right, number(sym))
		}
		h.Prods = append(h.Prods, turned)
	}
	return h
}

// TestMixed: greater grammars, and such as differ from them in little.
func TestMixed(t *testing.T) {
	m := mixer{seed: 17}
	var same, other, gone = map[string]int{}, map[string]int{}, map[string]int{}
	great := 0
	for range 1200 {
		terms, nonts := m.pick(6), 1+m.pick(5)
		g := m.mixed(t, terms, nonts, 1+m.pick(6+4*nonts), 1+m.pick(6))
		h, change := m.changed(g, terms)
		what := fmt.Sprint(g.Prods, change)
		l, e := auto.Build(g)
		k, f := auto.Build(h)
		if e != api.OK || f != api.OK {
			continue
		}
		defined(t, what, g, l)
		comeTo(t, what, g, l)
		defined(t, what, h, k)
		if auto.Right(g, k) != sameStates(l, k) || auto.Right(h, l) != sameStates(l, k) {
			t.Errorf("%s: Right of the other's", what)
		}
		want := mapping(g, h, l, k)
		if got, e := auto.Map(l, k, g, h); e != api.OK || !slices.Equal(got, want) {
			t.Errorf("%s: %v, %v, want %v", what, got, e, want)
		}
		for n, to := range want {
			switch to {
			case n:
				same[change]++
			case -1:
				gone[change]++
			default:
				other[change]++
			}
		}
		if change == "other numbers" && slices.Contains(want, -1) {
			t.Errorf("%s: gone: %v", what, want)
		}
		if len(l) > 30 {
			great++
		}
	}
	for n, change := range changes() {
		if same[change] < 100 || n > 1 && gone[change]+other[change] < 100 {
			t.Error("too few:", change, same[change], other[change], gone[change])
		}
	}
	if great < 100 {
		t.Error("too few great ones:", great)
	}
}

// TestMixedFull: grammars of which some have just too many states, by another count.
func TestMixedFull(t *testing.T) {
	m := mixer{seed: 171}
	met := map[api.Errno]int{}
	for range 40 {
		terms, nonts := 8, 1+m.pick(3)
		g := m.mixed(t, terms, nonts, 40, 0)
		for n := range g.Prods {
			for range 5 + m.pick(4) {
				g.Prods[n].Right = append(g.Prods[n].Right, 1+m.pick(terms+nonts))
			}
		}
		want := count(g)
		l, e := auto.Build(g)
		met[e]++
		switch {
		case want > api.MaxStates && (e != api.ErrFull || l != nil):
			t.Errorf("%v: %d states, %v, want too many", g.Prods, len(l), e)
		case want <= api.MaxStates && (e != api.OK || len(l) != want):
			t.Errorf("%v: %d states, %v, want %d", g.Prods, len(l), e, want)
		}
	}
	if met[api.OK] < 5 || met[api.ErrFull] < 5 {
		t.Error("too few:", met)
	}
}
