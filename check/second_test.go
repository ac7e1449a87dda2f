package check_test

import (
	"fmt"
	"regexp"
	"slices"
	"testing"

	"topiary/api"
	"topiary/check"
	"topiary/gram"
)

// endsWithin tells a second way whether a symbol ends: by a tree of at most so many steps from its root on.
func endsWithin(g api.Grammar, sym, steps int) bool {
	if sym <= gram.Terms(g) {
		return true
	}
	if steps == 0 {
		return false
	}
	for _, p := range g.Prods {
		if p.Left != sym {
			continue
		}
		all := true
		for _, part := range p.Right {
			all = all && endsWithin(g, part, steps-1)
		}
		if all {
			return true
		}
	}
	return false
}

// leads tells a second way which symbols lead to which: each two ways that meet make one.
func leads(g api.Grammar) map[[2]int]bool {
	ways := map[[2]int]bool{}
	last := gram.Terms(g) + len(g.Nonts)
	for _, p := range g.Prods {
		for _, sym := range p.Right {
			ways[[2]int{p.Left, sym}] = true
		}
	}
	for by := 1; by <= last; by++ {
		for from := 1; from <= last; from++ {
			for to := 1; to <= last; to++ {
				if ways[[2]int{from, by}] && ways[[2]int{by, to}] {
					ways[[2]int{from, to}] = true
				}
			}
		}
	}
	return ways
}

// second is what the calls must tell of a sound grammar whose rules fit no empty text.
func second(g api.Grammar) (reached, ends []int, want answer) {
	ways := leads(g)
	first := gram.Terms(g) + 1
	for sym := first; sym < first+len(g.Nonts); sym++ {
		if sym == g.Start || ways[[2]int{g.Start, sym}] {
			reached = append(reached, sym)
		} else if want.err != api.ErrReach {
			want = answer{sym, api.ErrReach}
		}
		if endsWithin(g, sym, len(g.Nonts)) {
			ends = append(ends, sym)
		} else if want.err == api.OK {
			want = answer{sym, api.ErrDry}
		}
	}
	return reached, ends, want
}

// same holds the calls to the second way, and tells which error there was.
func same(t *testing.T, g api.Grammar) api.Errno {
	t.Helper()
	if !check.Sound(g) {
		t.Fatalf("not sound: %v", g)
	}
	reached, ends, want := second(g)
	if r, e := check.Reached(g), check.Ends(g); !slices.Equal(r, reached) || !slices.Equal(e, ends) {
		t.Fatalf("%v: %v, %v, want %v, %v", g, r, e, reached, ends)
	}
	if n, e := check.Check(g); n != want.n || e != want.err {
		t.Fatalf("%v: %d, %v, want %v", g, n, e, want)
	}
	return want.err
}

// TestSmall: all grammars of one terminal, three nonterminals and three productions, whose right sides have at most two symbols, at two starts: the order within a right side is left to greater ones.
func TestSmall(t *testing.T) {
	var prods []api.Prod
	for left := 2; left <= 4; left++ {
		prods = append(prods, prod(left))
		for one := 1; one <= 4; one++ {
			prods = append(prods, prod(left, one))
			for other := one; other <= 4; other++ {
				prods = append(prods, prod(left, one, other))
			}
		}
	}
	g := good(t, "token a /a/; b: ; c: ; d: ;")
	met := map[api.Errno]int{}
	for start := 2; start <= 3; start++ {
		g.Start = start
		for i := range prods {
			for k := range prods {
				for m := range prods {
					g.Prods = []api.Prod{prods[i], prods[k], prods[m]}
					met[same(t, g)]++
				}
			}
		}
	}
	if len(met) != 3 || met[api.OK] < 500 || met[api.ErrDry] < 5000 || met[api.ErrReach] < 50000 {
		t.Error("too few of a kind:", met)
	}
}

// TestMixed: greater ones, made by a rule of numbers.
func TestMixed(t *testing.T) {
	seed := uint64(1)
	pick := func(n int) int {
		seed = seed*6364136223846793005 + 1442695040888963407
		return int(seed>>33) % n
	}
	met := map[api.Errno]int{}
	for range 20000 {
		terms, nonts := pick(3), 1+pick(6)
		g := sized(terms, pick(2), nonts, 0, 0)
		g.Start = terms + 1 + pick(nonts)
		for range pick(16) {
			p := prod(terms + 1 + pick(nonts))
			for range pick(4) {
				p.Right = append(p.Right, 1+pick(terms+nonts))
			}
			g.Prods = append(g.Prods, p)
		}
		met[same(t, g)]++
	}
	if len(met) != 3 || met[api.OK] < 500 || met[api.ErrDry] < 500 || met[api.ErrReach] < 500 {
		t.Error("too few of a kind:", met)
	}
}

// Names, and those that are none.
var (
	form = regexp.MustCompile(`\A[A-Za-z_][A-Za-z_0-9]{0,15}\z`)
	key  = regexp.MustCompile(`\A(token|skip|left|right|none|start)\z`)
)

// soundAgain tells the chapter's sentence a second way, of rules that are right.
func soundAgain(g api.Grammar) bool {
	names := slices.Clone(g.Nonts)
	kinds := []string{"end"}
	for _, r := range g.Rules {
		names = append(names, r.Name)
		if !r.Skip {
			kinds = append(kinds, "term")
		}
	}
	ok := len(g.Rules) <= 16 && len(g.Nonts) <= 16 && len(g.Prods) <= 40 && len(g.Levels) == len(kinds)
	for range g.Nonts {
		kinds = append(kinds, "nont")
	}
	kind := func(sym int) string {
		if sym < 0 || sym >= len(kinds) {
			return "none"
		}
		return kinds[sym]
	}
	for _, name := range names {
		ok = ok && form.MatchString(name) && !key.MatchString(name)
	}
	slices.Sort(names)
	ok = ok && len(slices.Compact(names)) == len(g.Rules)+len(g.Nonts)
	for i, l := range g.Levels {
		ok = ok && (l == level(0, 0) || i > 0 && l.Power > 0 && slices.Contains([]int{1, 2, 3}, l.Side))
	}
	ok = ok && (kind(g.Start) == "nont" || g.Start == 0 && len(g.Nonts) == 0)
	for _, p := range g.Prods {
		ok = ok && kind(p.Left) == "nont" && len(p.Right) <= 8 && (p.Prec == 0 || kind(p.Prec) == "term")
		for _, sym := range p.Right {
			ok = ok && (kind(sym) == "term" || kind(sym) == "nont")
		}
	}
	return ok
}

// TestSoundAgain: grammars about the limits, with a few numbers or names that may be wrong.
func TestSoundAgain(t *testing.T) {
	seed := uint64(7)
	pick := func(n int) int {
		seed = seed*6364136223846793005 + 1442695040888963407
		return int(seed>>33) % n
	}
	names := []string{"", "x", "x y", "token", "start", "n0", "r0", "r1", "_", "9", "abcdefghijklmnop", "abcdefghijklmnopq"}
	met := map[bool]int{}
	for range 40000 {
		terms, skips, nonts := pick(4), pick(3), pick(4)
		prods := 0
		if nonts > 0 {
			prods = pick(5)
		}
		g := sized(terms, skips, nonts, prods, pick(3))
		for range pick(3) {
			switch n := pick(20) - 3; pick(9) {
			case 0:
				g.Start = n
			case 1:
				g.Levels = append(g.Levels, level(pick(4)-1, pick(6)-1))[1:]
			case 2:
				g.Levels = slices.Repeat([]api.Level{{}}, pick(6))
			case 3:
				g.Prods = append(g.Prods, api.Prod{Left: terms + 1 + pick(4), Right: []int{1 + pick(4)}, Prec: pick(5)})
			case 4:
				g.Prods = append(g.Prods, prod(terms+1, slices.Repeat([]int{terms + 1}, 6+pick(4))...))
			case 5:
				g.Nonts = append(g.Nonts, names[pick(len(names))])
			case 6:
				g.Rules = append(g.Rules, api.Rule{Name: names[pick(len(names))], Re: []api.Cell{byteCell('x')}, Skip: pick(2) > 0})
			case 7:
				g.Start = terms + 1 + pick(4)
			case 8:
				g.Levels = append(g.Levels, level(pick(2), pick(2)))
			}
		}
		want := soundAgain(g)
		met[want]++
		judged(t, fmt.Sprint(g), g, want)
		if t.Failed() {
			return
		}
	}
	if met[true] < 8000 || met[false] < 8000 {
		t.Error("too few of a kind:", met)
	}
}

// TestShortTexts: each text of a few words that layer 12 reads is sound, and is told of as the second way does.
func TestShortTexts(t *testing.T) {
	words := []string{"s:", "t:", ";", "|", "s", "t", "a", "% a", "token a /x/;", "skip w /y/;", "left a;", "start t;"}
	read := 0
	var grow func(text string, more int)
	grow = func(text string, more int) {
		if g, _, e := gram.Parse(text); e == api.OK {
			read++
			if len(g.Nonts) > 0 {
				same(t, g)
			} else {
				holds(t, text, g, answer{0, api.ErrNone})
			}
		}
		if more == 0 {
			return
		}
		for _, w := range words {
			grow(text+" "+w, more-1)
		}
	}
	grow("", 5)
	if read < 400 {
		t.Error("too few were read:", read)
	}
}
