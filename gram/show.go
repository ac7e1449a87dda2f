package gram

import (
	"slices"
	"strings"

	"topiary/api"
	"topiary/regex"
)

// fits tells whether g is within the limits, beyond which no text makes it. What is within them has no great text, and one level for each terminal and the end.
func fits(g api.Grammar) bool {
	return len(g.Rules) <= api.MaxRules && len(g.Nonts) <= api.MaxNonts && len(g.Prods) <= api.MaxProds &&
		len(g.Levels) == Terms(g)+1 &&
		!slices.ContainsFunc(g.Rules, func(r api.Rule) bool { return len(r.Name) > api.MaxName }) &&
		!slices.ContainsFunc(g.Nonts, func(s string) bool { return len(s) > api.MaxName }) &&
		!slices.ContainsFunc(g.Prods, func(p api.Prod) bool { return len(p.Right) > api.MaxRight })
}

// lines are the items of a text that is g's, if there is one. What can't be written is left out or spoilt: Parse tells it.
func lines(g api.Grammar) []string {
	var out []string
	for _, r := range g.Rules {
		out = append(out, ruleLine(r))
	}
	for power := 1; power < len(g.Levels); power++ {
		if terms := ofPower(g, power); len(terms) > 0 {
			out = append(out, levelLine(g, terms))
		}
	}
	if g.Start != 0 {
		out = append(out, "start "+name(g, g.Start)+";")
	}
	for i, s := range g.Nonts {
		out = append(out, s+": "+strings.Join(alternatives(g, Terms(g)+1+i), " | ")+";")
	}
	return out
}

// ruleLine of cells that aren't right has nothing between the slashes, which Parse doesn't take.
func ruleLine(r api.Rule) string {
	text, _ := regex.Show(r.Re)
	if r.Skip {
		return "skip " + r.Name + " /" + text + "/;"
	}
	return "token " + r.Name + " /" + text + "/;"
}

// ofPower are the terminals of that strength. The end is none, whatever its level.
func ofPower(g api.Grammar, power int) []int {
	var terms []int
	for term := 1; term < len(g.Levels); term++ {
		if g.Levels[term].Power == power {
			terms = append(terms, term)
		}
	}
	return terms
}

// levelLine takes the first one's side for that of all.
func levelLine(g api.Grammar, terms []int) string {
	line := sideWord(g.Levels[terms[0]].Side)
	for _, term := range terms {
		line += " " + name(g, term)
	}
	return line + ";"
}

// sideWord of a number that is no side is nothing, with which no item begins.
func sideWord(side int) string {
	words := sides()
	if side < 0 || side >= len(words) {
		return ""
	}
	return words[side]
}

// alternatives are those of one nonterminal.
func alternatives(g api.Grammar, left int) []string {
	var out []string
	for _, p := range g.Prods {
		if p.Left == left {
			out = append(out, alternative(g, p))
		}
	}
	return out
}

func alternative(g api.Grammar, p api.Prod) string {
	var words []string
	for _, sym := range p.Right {
		words = append(words, name(g, sym))
	}
	if p.Prec != lastTerm(g, p.Right) {
		words = append(words, "%", name(g, p.Prec))
	}
	return strings.Join(words, " ")
}

// lastTerm is the terminal whose level a production has without %, or 0.
func lastTerm(g api.Grammar, right []int) int {
	terms := Terms(g)
	for i := len(right) - 1; i >= 0; i-- {
		if 1 <= right[i] && right[i] <= terms {
			return right[i]
		}
	}
	return 0
}

func same(g, h api.Grammar) bool {
	return slices.EqualFunc(g.Rules, h.Rules, sameRule) && slices.Equal(g.Nonts, h.Nonts) &&
		slices.Equal(g.Levels, h.Levels) && slices.EqualFunc(g.Prods, h.Prods, sameProd) && g.Start == h.Start
}

func sameRule(a, b api.Rule) bool {
	return a.Name == b.Name && a.Skip == b.Skip && slices.Equal(a.Re, b.Re)
}

func sameProd(a, b api.Prod) bool {
	return a.Left == b.Left && a.Prec == b.Prec && slices.Equal(a.Right, b.Right)
}
