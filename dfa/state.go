package dfa

import (
	"strings"

	"topiary/api"
	"topiary/bytes"
	"topiary/sets"
	"topiary/spots"
)

// inside is the byte by which a state's text tells that a place is in it; other bytes of it are 0.
const inside = 1

// places are the ends of all rules, then the spots of all rules, in one count, rule by rule: so the first end of a state is the first rule's, and a state is a text with one byte for each place.
type places struct {
	ends   int
	sets   []api.Set // an end has no byte
	behind [][]int   // of each spot the places to which it leads
	first  []int     // those of the first state
}

// placesOf tells those of right rules.
func placesOf(rules [][]api.Cell) (places, api.Errno) {
	if len(rules) > api.MaxRules {
		return places{}, api.ErrForm
	}
	p := places{ends: len(rules), sets: make([]api.Set, len(rules)), behind: make([][]int, len(rules))}
	for end, l := range rules {
		rule, e := spots.Of(l)
		if e != api.OK {
			return places{}, e
		}
		p.add(rule, end)
	}
	return p, api.OK
}

// add counts the spots of one more rule, behind all that are there.
func (p *places) add(rule api.Spots, end int) {
	from := len(p.sets)
	p.first = append(p.first, moved(rule.First, from)...)
	if rule.Null {
		p.first = append(p.first, end)
	}
	for n, set := range rule.Sets {
		behind := moved(rule.Follow[n], from)
		if sets.Has(rule.Last, n) {
			behind = append(behind, end)
		}
		p.sets = append(p.sets, set)
		p.behind = append(p.behind, behind)
	}
}

// moved tells the numbers of l, counted from another one on.
func moved(l []int, from int) []int {
	var out []int
	for _, n := range l {
		out = append(out, from+n)
	}
	return out
}

// state tells the text of the state that has these places.
func (p places) state(l []int) string {
	text := make([]byte, len(p.sets))
	for _, n := range l {
		text[n] = inside
	}
	return string(text)
}

// by tells to which state one leads by b, and whether it leads anywhere.
func (p places) by(state string, b byte) (string, bool) {
	text := make([]byte, len(p.sets))
	leads := false
	for n, set := range p.sets {
		if state[n] != inside || !bytes.Has(set, b) {
			continue
		}
		leads = true
		for _, next := range p.behind[n] {
			text[next] = inside
		}
	}
	return string(text), leads
}

// accept tells the first rule whose end is in a state, or -1.
func (p places) accept(state string) int {
	return strings.IndexByte(state[:p.ends], inside)
}

// meeting is the states that were met, in their order, and their numbers.
type meeting struct {
	states  []string
	numbers map[string]int
}

// number tells that of a state, which is the next one, if it wasn't met.
func (m *meeting) number(state string) int {
	n, met := m.numbers[state]
	if !met {
		n = len(m.states)
		m.numbers[state] = n
		m.states = append(m.states, state)
	}
	return n
}
