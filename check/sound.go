package check

import (
	"topiary/api"
	"topiary/gram"
	"topiary/regex"
	"topiary/word"
)

func soundSize(g api.Grammar) bool {
	return len(g.Rules) <= api.MaxRules && len(g.Nonts) <= api.MaxNonts && len(g.Prods) <= api.MaxProds
}

func soundRules(g api.Grammar) bool {
	for _, r := range g.Rules {
		if !regex.Right(r.Re) {
			return false
		}
	}
	return true
}

// soundNames holds rules and nonterminals to one another, those rules that are no symbols among them.
func soundNames(g api.Grammar) bool {
	met := map[string]int{}
	once := func(name string) bool {
		if !soundName(name) {
			return false
		}
		met[name]++
		return met[name] == 1
	}
	for _, r := range g.Rules {
		if !once(r.Name) {
			return false
		}
	}
	for _, name := range g.Nonts {
		if !once(name) {
			return false
		}
	}
	return true
}

// soundName lets layer 11 judge, which cuts a name off whole: so blanks and remarks about it are to be seen.
func soundName(name string) bool {
	if len(name) > api.MaxName || keyword(name) {
		return false
	}
	words, _, e := word.All(name)
	return e == api.OK && len(words) == 1 && words[0].Kind == api.WName && words[0].Text == name
}

// keyword tells whether a word is no name of anything, as it begins an item of a grammar's text.
func keyword(name string) bool {
	switch name {
	case "token", "skip", "left", "right", "none", "start":
		return true
	}
	return false
}

func soundLevels(g api.Grammar) bool {
	if len(g.Levels) != gram.Terms(g)+1 || g.Levels[0] != (api.Level{}) {
		return false
	}
	for _, l := range g.Levels {
		if !soundLevel(l) {
			return false
		}
	}
	return true
}

func soundLevel(l api.Level) bool {
	if l.Power == 0 {
		return l.Side == 0
	}
	return l.Power > 0 && 1 <= l.Side && l.Side <= 3
}

func soundStart(g api.Grammar) bool {
	if len(g.Nonts) == 0 {
		return g.Start == 0
	}
	return nont(g, g.Start)
}

func soundProds(g api.Grammar) bool {
	for _, p := range g.Prods {
		if !soundProd(g, p) {
			return false
		}
	}
	return true
}

func soundProd(g api.Grammar, p api.Prod) bool {
	if len(p.Right) > api.MaxRight {
		return false
	}
	for _, sym := range p.Right {
		if !term(g, sym) && !nont(g, sym) {
			return false
		}
	}
	return nont(g, p.Left) && (p.Prec == 0 || term(g, p.Prec))
}

func term(g api.Grammar, sym int) bool {
	return 1 <= sym && sym <= gram.Terms(g)
}

func nont(g api.Grammar, sym int) bool {
	return firstNont(g) <= sym && sym < firstNont(g)+len(g.Nonts)
}
