package gram

import (
	"topiary/api"
	"topiary/regex"
)

// endKind stands where words have their kinds, of which none is 0. As no item asks for it, the end is refused like any word that can't stand there.
const endKind = 0

// reader reads a grammar's words one by one. Once it gave up, whatever else it reads changes nothing.
type reader struct {
	words  []api.Word // those that aren't read yet, the end last
	g      api.Grammar
	levels int // items of levels
	starts int // items of start
	names  index
	later  []step
	at     int
	err    api.Errno
}

// step is what a word leaves to be done when all names are known: it answers what is wrong with that word.
type step struct {
	at int
	do func() api.Errno
}

// then leaves steps in the order of the text, in which they are done.
func (r *reader) then(w api.Word, do func() api.Errno) {
	r.later = append(r.later, step{w.At, do})
}

// giveUp keeps the first fault alone.
func (r *reader) giveUp(at int, e api.Errno) {
	if r.err == api.OK {
		r.at, r.err = at, e
	}
}

// take goes on behind a word, if it may stand there.
func (r *reader) take(may bool) api.Word {
	w := r.words[0]
	if may {
		r.words = r.words[1:]
	} else {
		r.giveUp(w.At, api.ErrForm)
	}
	return w
}

func (r *reader) atName() bool {
	w := r.words[0]
	return w.Kind == api.WName && !keyword(w.Text)
}

func (r *reader) atSign(text string) bool {
	w := r.words[0]
	return w.Kind == api.WSign && w.Text == text
}

// takeName takes a name that may be somebody's.
func (r *reader) takeName() api.Word {
	return r.take(r.atName())
}

func (r *reader) takeSign(text string) {
	r.take(r.atSign(text))
}

func (r *reader) items() {
	for r.err == api.OK && r.words[0].Kind != endKind {
		r.item()
	}
}

func (r *reader) item() {
	w := r.words[0]
	switch {
	case w.Kind != api.WName:
		r.giveUp(w.At, api.ErrForm)
	case w.Text == "token" || w.Text == "skip":
		r.rule()
	case w.Text == "start":
		r.start()
	case side(w.Text) > 0:
		r.level()
	default:
		r.nonterminal()
	}
}

func (r *reader) rule() {
	first := r.take(true)
	if len(r.g.Rules) == api.MaxRules {
		r.giveUp(first.At, api.ErrFull)
	}
	w := r.takeName()
	rule := api.Rule{Name: w.Text, Re: r.cells(), Skip: first.Text == "skip"}
	r.takeSign(";")
	r.g.Rules = append(r.g.Rules, rule)
	r.names.addRule(w, rule.Skip)
	r.once(w)
}

// cells takes a rule's text. Whatever layer 6 finds within it is told at its slash.
func (r *reader) cells() []api.Cell {
	w := r.take(r.words[0].Kind == api.WRegex)
	l, _, e := regex.Parse(w.Text)
	if e != api.OK {
		r.giveUp(w.At, e)
	}
	return l
}

// once leaves it to be seen whether the name of a rule or nonterminal was told ahead.
func (r *reader) once(w api.Word) {
	r.then(w, func() api.Errno {
		if r.names.find(w.Text).at < w.At {
			return api.ErrTwice
		}
		return api.OK
	})
}

func (r *reader) level() {
	r.levels++
	level := api.Level{Power: r.levels, Side: side(r.take(true).Text)}
	r.levelled(level)
	for r.atName() {
		r.levelled(level)
	}
	r.takeSign(";")
}

func (r *reader) levelled(level api.Level) {
	w := r.takeName()
	r.then(w, func() api.Errno {
		term := r.names.find(w.Text).term
		if term == 0 {
			return api.ErrName
		}
		if r.g.Levels[term].Power > 0 {
			return api.ErrTwice
		}
		r.g.Levels[term] = level
		return api.OK
	})
}

func (r *reader) start() {
	r.starts++
	second := r.starts > 1
	r.then(r.take(true), func() api.Errno {
		if second {
			return api.ErrTwice
		}
		return api.OK
	})
	w := r.takeName()
	r.takeSign(";")
	r.then(w, func() api.Errno {
		r.g.Start = r.names.find(w.Text).nont
		if r.g.Start == 0 {
			return api.ErrName
		}
		return api.OK
	})
}

func (r *reader) nonterminal() {
	w := r.takeName()
	if len(r.g.Nonts) == api.MaxNonts {
		r.giveUp(w.At, api.ErrFull)
	}
	r.takeSign(":")
	r.g.Nonts = append(r.g.Nonts, w.Text)
	r.names.addNont(w)
	r.once(w)
	r.alternative()
	for r.atSign("|") {
		r.takeSign("|")
		r.alternative()
	}
	r.takeSign(";")
}

// alternative makes a production of the latest nonterminal, whose place among the nonterminals is its left side for now: how many terminals are ahead isn't known yet.
func (r *reader) alternative() {
	if len(r.g.Prods) == api.MaxProds && r.inAlternative() {
		r.giveUp(r.words[0].At, api.ErrFull)
	}
	prod := len(r.g.Prods)
	r.g.Prods = append(r.g.Prods, api.Prod{Left: len(r.g.Nonts)})
	for n := 0; r.atName(); n++ {
		if n == api.MaxRight {
			r.giveUp(r.words[0].At, api.ErrFull)
		}
		r.symbol(prod)
	}
	if r.atSign("%") {
		r.takeSign("%")
		r.prec(prod)
	}
}

// inAlternative tells whether the next word may be the first of an alternative, or end one of no words; any other one is a fault of form ahead of a lack of room.
func (r *reader) inAlternative() bool {
	return r.atName() || r.atSign("%") || r.atSign("|") || r.atSign(";")
}

// symbol takes one of a right side. The last terminal's level is the production's, unless prec, which comes behind, says otherwise.
func (r *reader) symbol(prod int) {
	w := r.takeName()
	r.then(w, func() api.Errno {
		p := &r.g.Prods[prod]
		o := r.names.find(w.Text)
		switch {
		case o.term > 0:
			p.Right = append(p.Right, o.term)
			p.Prec = o.term
		case o.nont > 0:
			p.Right = append(p.Right, o.nont)
		default:
			return api.ErrName
		}
		return api.OK
	})
}

func (r *reader) prec(prod int) {
	w := r.takeName()
	r.then(w, func() api.Errno {
		term := r.names.find(w.Text).term
		if term == 0 {
			return api.ErrName
		}
		r.g.Prods[prod].Prec = term
		return api.OK
	})
}

// settle does what the words left to be done, up to the first that is wrong.
func (r *reader) settle() {
	terms := Terms(r.g)
	r.g.Levels = make([]api.Level, terms+1)
	for i := range r.g.Prods {
		r.g.Prods[i].Left += terms
	}
	if len(r.g.Nonts) > 0 {
		r.g.Start = terms + 1
	}
	for _, s := range r.later {
		if r.err != api.OK {
			return
		}
		if e := s.do(); e != api.OK {
			r.giveUp(s.at, e)
		}
	}
}
