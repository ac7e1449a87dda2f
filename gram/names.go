package gram

import (
	"sync"

	"topiary/api"
)

// owner is what a name stands for: the place where it is first told, the terminal and the nonterminal that have it (0: none). Both may have it, in a text that is refused for that in the end.
type owner struct {
	at, term, nont int
}

// index finds owners by a map, which is made when one is first looked for: then all names are told, and it is known how many terminals are ahead of the nonterminals.
type index struct {
	skips, terms, nonts []api.Word
	once                sync.Once
	owners              map[string]owner
}

func (x *index) addRule(w api.Word, skip bool) {
	if skip {
		x.skips = append(x.skips, w)
	} else {
		x.terms = append(x.terms, w)
	}
}

func (x *index) addNont(w api.Word) {
	x.nonts = append(x.nonts, w)
}

// find tells the owner of a name; nobody, if there is none.
func (x *index) find(text string) owner {
	x.once.Do(x.fill)
	return x.owners[text]
}

func (x *index) fill() {
	x.owners = make(map[string]owner)
	for _, w := range x.skips {
		x.own(w, owner{})
	}
	for i, w := range x.terms {
		x.own(w, owner{term: i + 1})
	}
	for i, w := range x.nonts {
		x.own(w, owner{nont: len(x.terms) + i + 1})
	}
}

// own adds one more owner of a name to those that it has.
func (x *index) own(w api.Word, more owner) {
	o, had := x.owners[w.Text]
	if !had || w.At < o.at {
		o.at = w.At
	}
	o.term = max(o.term, more.term)
	o.nont = max(o.nont, more.nont)
	x.owners[w.Text] = o
}
