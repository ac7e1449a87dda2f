package gram_test

import (
	"math"
	"slices"
	"strings"
	"testing"

	"topiary/api"
	"topiary/gram"
)

// whole is a text as Show tells it, with one item of each kind.
const whole = "token n /[0-9]+/;\ntoken p /\\+/;\nskip b / +/;\nleft p;\nnone n;\nstart s;\ne: e p e | n % p | ;\ns: e;"

func shows(t *testing.T, s, want string) {
	t.Helper()
	g := good(t, s)
	if got, e := gram.Show(g); e != api.OK || got != want {
		t.Errorf("Show of %q: %q, %d, want %q", s, got, e, want)
	}
	holds(t, want, answer{g: g})
}

func refused(t *testing.T, what any, g api.Grammar) {
	t.Helper()
	if s, e := gram.Show(g); e != api.ErrArg || s != "" {
		t.Errorf("%v: Show(%.300v): %q, %d", what, g, short(s), e)
	}
}

func TestShow(t *testing.T) {
	for s, want := range map[string]string{
		"": "", " # nothing\n": "", whole: whole,
		// the start symbol is told, even if it is the first one
		"s:;": "start s;\ns: ;", "s:s;": "start s;\ns: s;", "s:|;": "start s;\ns:  | ;", "t:s;s:t s|;": "start t;\nt: s;\ns: t s | ;", "t:;s:;start s;": "start s;\nt: ;\ns: ;", "start t;t:;": "start t;\nt: ;",
		// rules, in their order, as layer 6 shows them
		"token a /x/;": "token a /x/;", "skip a /(x)|[y]/;": "skip a /x|y/;", `token b /[\/]/; skip w /[ ]/; token a /\x61*/;`: "token b /\\//;\nskip w / /;\ntoken a /a*/;", "token a /()/;": "token a /()/;",
		// levels by their strength, terminals rising
		"left b; right c a; token a /x/; token b /x/; token c /x/;":    "token a /x/;\ntoken b /x/;\ntoken c /x/;\nleft b;\nright a c;",
		"none c; s:; none b; token a /x/; token b /x/; token c /x/;":   "token a /x/;\ntoken b /x/;\ntoken c /x/;\nnone c;\nnone b;\nstart s;\ns: ;",
		"right a; left b; none c;token a /x/;token b /x/;token c /x/;": "token a /x/;\ntoken b /x/;\ntoken c /x/;\nright a;\nleft b;\nnone c;",
		// % only where it is needed
		"token a /x/;token b /x/;s: a % a|a b % b|a b s % b|a b % a|% b|s % a|a s;": "token a /x/;\ntoken b /x/;\nstart s;\ns: a | a b | a b s | a b % a | % b | s % a | a s;",
		// of two terminals of one level too, as it tells which
		"token a /x/;token b /x/;left a b;s: a % b;": "token a /x/;\ntoken b /x/;\nleft a b;\nstart s;\ns: a % b;",
		// items in any order
		"t: s a;start s;token a /x/;s: t|;skip w /x/;": "token a /x/;\nskip w /x/;\nstart s;\nt: s a;\ns: t | ;",
	} {
		shows(t, s, want)
	}
	most := numbered(8, "token t# /x/;\n") + numbered(8, "skip w# /x/;\n") + numbered(8, "left t#;\n") + "start n7;\n" + numbered(16, "n#: n0 n1 n2 n3 n4 n5 n6 n7 | t0;\n")
	most = strings.TrimSuffix(most, "\n")
	shows(t, most, most)
}

// TestShowLong: a text that Show would tell, but Parse doesn't take for its length, is none.
func TestShowLong(t *testing.T) {
	// as a class without ^ a set takes 14 bytes in the place of 4: of the rule, beyond 200
	class, set := "[^a]", "[\\x00-`b-\\xff]"
	shows(t, "token a /"+strings.Repeat(class, 14)+"/;", "token a /"+strings.Repeat(set, 14)+"/;")
	refused(t, "a rule beyond 200", good(t, "token a /"+strings.Repeat(class, 15)+"/;"))
	// of the whole, beyond MaxText
	g := good(t, numbered(16, "token a# /"+strings.Repeat(class, 14)+"/;")+"s:"+strings.Repeat("s s s s s s s s|", 39)+";")
	if len(g.Prods) != 40 {
		t.Fatal(len(g.Prods))
	}
	n := 0
	for ; len(g.Prods) > 0; g.Prods = g.Prods[:len(g.Prods)-1] {
		want := numbered(16, "token a# /"+strings.Repeat(set, 14)+"/;\n") + "start s;\ns: " + right(g.Prods) + ";"
		if len(want) > api.MaxText {
			refused(t, len(want), g)
			n++
		} else if got, e := gram.Show(g); e != api.OK || got != want {
			t.Errorf("%d productions, %d bytes: %q, %d", len(g.Prods), len(want), short(got), e)
		}
	}
	if n == 0 || n == 40 {
		t.Error(n)
	}
}

// right are alternatives of s alone.
func right(l []api.Prod) string {
	var out []string
	for _, p := range l {
		out = append(out, strings.TrimSuffix(strings.Repeat("s ", len(p.Right)), " "))
	}
	return strings.Join(out, " | ")
}

// TestShowNone: grammars that no text makes, each a step beside one that some does.
func TestShowNone(t *testing.T) {
	refused(t, "nothing at all, not even the end's level", api.Grammar{})
	for what, spoil := range map[string]func(g *api.Grammar){
		"rule without a name":               func(g *api.Grammar) { g.Rules[0].Name = "" },
		"rule with a word that is none":     func(g *api.Grammar) { g.Rules[2].Name = "token" },
		"rule with two words":               func(g *api.Grammar) { g.Rules[2].Name = "a b" },
		"rule with a long name":             func(g *api.Grammar) { g.Rules[2].Name = "abcdefghijklmnopq" },
		"rule with a sign":                  func(g *api.Grammar) { g.Rules[2].Name = "b;" },
		"rule with more in its name":        func(g *api.Grammar) { g.Rules[2].Name = "b/x/;skip c" },
		"rule with a remark":                func(g *api.Grammar) { g.Rules[2].Name = "b#" },
		"rule with a blank":                 func(g *api.Grammar) { g.Rules[2].Name = "b " },
		"rule with a name of another":       func(g *api.Grammar) { g.Rules[2].Name = "n" },
		"rule with a nonterminal's name":    func(g *api.Grammar) { g.Rules[2].Name = "e" },
		"rule without cells":                func(g *api.Grammar) { g.Rules[0].Re = nil },
		"rule that isn't right":             func(g *api.Grammar) { g.Rules[0].Re = g.Rules[0].Re[1:] },
		"rule of other cells":               func(g *api.Grammar) { g.Rules[2].Re = []api.Cell{{Op: 9}} },
		"rule with a set too much":          func(g *api.Grammar) { g.Rules[0].Re[1].Set[0] = 1 },
		"rule too many":                     func(g *api.Grammar) { g.Rules = slices.Repeat(g.Rules[2:3], 17) },
		"terminal left out":                 func(g *api.Grammar) { g.Rules[0].Skip = true },
		"terminal more":                     func(g *api.Grammar) { g.Rules[2].Skip = false },
		"rules gone":                        func(g *api.Grammar) { g.Rules = nil },
		"nonterminal without a name":        func(g *api.Grammar) { g.Nonts[0] = "" },
		"nonterminal with two words":        func(g *api.Grammar) { g.Nonts[0] = "a b" },
		"nonterminal with a blank":          func(g *api.Grammar) { g.Nonts[1] = "s " },
		"nonterminal with a remark ahead":   func(g *api.Grammar) { g.Nonts[0] = "#\ne" },
		"nonterminal with more":             func(g *api.Grammar) { g.Nonts[1] = "e;s" },
		"nonterminal with a long name":      func(g *api.Grammar) { g.Nonts[0] = strings.Repeat("e", 17) },
		"nonterminal with a great name":     func(g *api.Grammar) { g.Nonts[0] = strings.Repeat("e", 1<<20) },
		"nonterminal of a word that's none": func(g *api.Grammar) { g.Nonts[0] = "left" },
		"nonterminal twice":                 func(g *api.Grammar) { g.Nonts[1] = "e" },
		"nonterminal with a rule's name":    func(g *api.Grammar) { g.Nonts[1] = "b" },
		"nonterminal without productions":   func(g *api.Grammar) { g.Nonts = append(g.Nonts, "t") },
		"nonterminals gone":                 func(g *api.Grammar) { g.Nonts = nil },
		"nonterminal gone":                  func(g *api.Grammar) { g.Nonts = g.Nonts[:1] },
		"levels gone":                       func(g *api.Grammar) { g.Levels = nil },
		"level gone":                        func(g *api.Grammar) { g.Levels = g.Levels[:2] },
		"level more":                        func(g *api.Grammar) { g.Levels = append(g.Levels, api.Level{}) },
		"level of a nonterminal":            func(g *api.Grammar) { g.Levels = append(g.Levels, level(3, 1)) },
		"level of the end":                  func(g *api.Grammar) { g.Levels[0] = level(3, 1) },
		"level of the end, by its side":     func(g *api.Grammar) { g.Levels[0] = level(0, 1) },
		"level 1 of the end":                func(g *api.Grammar) { g.Levels[0] = g.Levels[2] },
		"level without a side":              func(g *api.Grammar) { g.Levels[1].Side = 0 },
		"level of side 4":                   func(g *api.Grammar) { g.Levels[1].Side = 4 },
		"level of side -1":                  func(g *api.Grammar) { g.Levels[1].Side = -1 },
		"level of a great side":             func(g *api.Grammar) { g.Levels[1].Side = math.MaxInt },
		"level of a least side":             func(g *api.Grammar) { g.Levels[1].Side = math.MinInt },
		"level without strength":            func(g *api.Grammar) { g.Levels[1].Power = 0 },
		"level below 0":                     func(g *api.Grammar) { g.Levels[1].Power = -1 },
		"level 1 left out":                  func(g *api.Grammar) { g.Levels[2].Power = 3 },
		"level 2 left out":                  func(g *api.Grammar) { g.Levels[1].Power = 3 },
		"level without one ahead":           func(g *api.Grammar) { g.Levels[2] = api.Level{} },
		"level far beyond":                  func(g *api.Grammar) { g.Levels[1].Power = math.MaxInt },
		"level far below":                   func(g *api.Grammar) { g.Levels[1].Power = math.MinInt },
		"two sides of one level":            func(g *api.Grammar) { g.Levels[1].Power = 1 },
		"no start":                          func(g *api.Grammar) { g.Start = 0 },
		"a terminal for start":              func(g *api.Grammar) { g.Start = 1 },
		"start beyond":                      func(g *api.Grammar) { g.Start = 5 },
		"start below 0":                     func(g *api.Grammar) { g.Start = -1 },
		"start far beyond":                  func(g *api.Grammar) { g.Start = math.MaxInt },
		"start far below":                   func(g *api.Grammar) { g.Start = math.MinInt },
		"productions gone":                  func(g *api.Grammar) { g.Prods = nil },
		"production of s gone":              func(g *api.Grammar) { g.Prods = g.Prods[:3] },
		"productions of e gone":             func(g *api.Grammar) { g.Prods = g.Prods[3:] },
		"productions turned round":          func(g *api.Grammar) { slices.Reverse(g.Prods) },
		"productions apart":                 func(g *api.Grammar) { g.Prods[2], g.Prods[3] = g.Prods[3], g.Prods[2] },
		"productions too many":              func(g *api.Grammar) { g.Prods = slices.Insert(g.Prods, 0, slices.Repeat(g.Prods[:1], 37)...) },
		"left side 0":                       func(g *api.Grammar) { g.Prods[0].Left = 0 },
		"left side a terminal":              func(g *api.Grammar) { g.Prods[0].Left = 1 },
		"left side beyond":                  func(g *api.Grammar) { g.Prods[3].Left = 5 },
		"left side below 0":                 func(g *api.Grammar) { g.Prods[3].Left = -1 },
		"left side far beyond":              func(g *api.Grammar) { g.Prods[3].Left = math.MaxInt },
		"right side with the end":           func(g *api.Grammar) { g.Prods[0].Right[0] = 0 },
		"right side beyond":                 func(g *api.Grammar) { g.Prods[0].Right[0] = 5 },
		"right side below 0":                func(g *api.Grammar) { g.Prods[0].Right[0] = -1 },
		"right side far beyond":             func(g *api.Grammar) { g.Prods[3].Right = []int{math.MaxInt} },
		"right side far below":              func(g *api.Grammar) { g.Prods[3].Right = []int{math.MinInt} },
		"right side of nine":                func(g *api.Grammar) { g.Prods[3].Right = slices.Repeat([]int{3}, 9) },
		"right side without end":            func(g *api.Grammar) { g.Prods[3].Right = slices.Repeat([]int{3}, 1<<20) },
		"no prec, with a terminal":          func(g *api.Grammar) { g.Prods[0].Prec = 0 },
		"a nonterminal's prec":              func(g *api.Grammar) { g.Prods[0].Prec = 3 },
		"prec beyond":                       func(g *api.Grammar) { g.Prods[0].Prec = 5 },
		"prec below 0":                      func(g *api.Grammar) { g.Prods[2].Prec = -1 },
		"prec far beyond":                   func(g *api.Grammar) { g.Prods[2].Prec = math.MaxInt },
		"prec far below":                    func(g *api.Grammar) { g.Prods[2].Prec = math.MinInt },
	} {
		g := good(t, whole)
		spoil(&g)
		refused(t, what, g)
	}
	g := good(t, "t: ; s: ;")
	g.Prods[0].Left, g.Prods[1].Left = g.Prods[1].Left, g.Prods[0].Left
	refused(t, "left sides changed for one another", g)
	// great ones, which are refused in no time
	many := 1 << 18
	g = good(t, "s: ;")
	g.Levels = slices.Repeat(g.Levels, many)
	refused(t, "many levels", g)
	g = good(t, "s: ;")
	g.Prods = slices.Repeat(g.Prods, many)
	refused(t, "many productions", g)
	g.Nonts = slices.Repeat(g.Nonts, many)
	refused(t, "many nonterminals", g)
	g = good(t, "token a /x/;")
	g.Rules, g.Levels = slices.Repeat(g.Rules, many), slices.Repeat(g.Levels[1:], many+1)
	refused(t, "many rules", g)
}

// TestShowBeside: what becomes of a step beside that is one that some text makes.
func TestShowBeside(t *testing.T) {
	for want, step := range map[string]func(g *api.Grammar){
		strings.Replace(whole, "start s", "start e", 1):     func(g *api.Grammar) { g.Start = 3 },
		strings.Replace(whole, "none n", "right n", 1):      func(g *api.Grammar) { g.Levels[1].Side = 2 },
		strings.Replace(whole, "left p;\nnone", "left", 1):  func(g *api.Grammar) { g.Levels = []api.Level{{}, level(1, 1), {}} },
		strings.Replace(whole, "n % p | ;", "n | % n;", 1):  func(g *api.Grammar) { g.Prods[1].Prec, g.Prods[2].Prec = 1, 1 },
		strings.Replace(whole, "s: e;", "s: e n p % n;", 1): func(g *api.Grammar) { g.Prods[3] = prod(4, 1, 3, 1, 2) },
		strings.Replace(whole, "skip b / +/;\n", "", 1):     func(g *api.Grammar) { g.Rules = g.Rules[:2] },
		whole: func(g *api.Grammar) { g.Prods[2].Right = []int{} },
	} {
		g := good(t, whole)
		step(&g)
		if got, e := gram.Show(g); e != api.OK || got != want {
			t.Errorf("%q, %d, want %q", got, e, want)
		}
	}
}
