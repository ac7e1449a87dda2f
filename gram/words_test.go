package gram_test

import (
	"slices"
	"strings"
	"testing"

	"topiary/api"
	"topiary/gram"
	"topiary/regex"
	"topiary/word"
)

// next tells the chapter's form a second way: to which place of an item a word leads, by its letter.
var next = map[string]map[byte]string{
	"item":  {'k': "rule", 'l': "level", 's': "start", 'n': "left"},
	"rule":  {'n': "text"},
	"text":  {'r': "end"},
	"end":   {';': "item"},
	"level": {'n': "more"},
	"more":  {'n': "more", ';': "item"},
	"start": {'n': "end"},
	"left":  {':': "alt"},
	"alt":   {'n': "in", '%': "prec", '|': "alt", ';': "item"},
	"in":    {'n': "in", '%': "prec", '|': "alt", ';': "item"},
	"prec":  {'n': "last"},
	"last":  {'|': "alt", ';': "item"},
}

// letter is that of a word; of a sign itself.
func letter(w api.Word) byte {
	switch {
	case w.Kind == api.WRegex:
		return 'r'
	case w.Kind == api.WSign:
		return w.Text[0]
	case slices.Contains([]string{"token", "skip"}, w.Text):
		return 'k'
	case slices.Contains([]string{"left", "right", "none"}, w.Text):
		return 'l'
	case w.Text == "start":
		return 's'
	}
	return 'n'
}

// formFault is the first fault that is met word by word; OK, if there is none.
func formFault(l []api.Word, end int) answer {
	place := "item"
	rules, nonts, prods, symbols := 0, 0, 0, 0
	for _, w := range l {
		to := next[place][letter(w)]
		switch {
		case to == "":
			return form(w.At)
		case to == "rule":
			rules++
		case to == "left":
			nonts++
		case to == "end" && place == "text":
			if _, _, e := regex.Parse(w.Text); e != api.OK {
				return answer{at: w.At, err: e}
			}
		}
		if place == "alt" {
			prods++
			symbols = 0
		}
		if to == "in" {
			symbols++
		}
		if rules > 16 || nonts > 16 || prods > 40 || symbols > 8 {
			return full(w.At)
		}
		place = to
	}
	if place != "item" {
		return form(end)
	}
	return answer{}
}

// heap is what a text's items are about, as their words say it.
type heap struct {
	items        [][]api.Word // without their ;
	terms, nonts []string
}

func gather(l []api.Word) heap {
	var h heap
	for len(l) > 0 {
		n := slices.IndexFunc(l, func(w api.Word) bool { return letter(w) == ';' })
		item := l[:n]
		l = l[n+1:]
		h.items = append(h.items, item)
		switch {
		case item[0].Text == "token":
			h.terms = append(h.terms, item[1].Text)
		case letter(item[0]) == 'n':
			h.nonts = append(h.nonts, item[0].Text)
		}
	}
	return h
}

// nameFault is the first one of the names, from the beginning on again.
func nameFault(h heap) answer {
	var had, levelled []string
	starts := 0
	for _, item := range h.items {
		for i, w := range item {
			first := letter(item[0])
			name := letter(w) == 'n'
			switch {
			case first == 'k' && i == 1 || first == 'n' && i == 0:
				if slices.Contains(had, w.Text) {
					return twice(w.At)
				}
				had = append(had, w.Text)
			case first == 's' && i == 0:
				if starts++; starts > 1 {
					return twice(w.At)
				}
			case first == 's':
				if !slices.Contains(h.nonts, w.Text) {
					return none(w.At)
				}
			case first == 'l' && name:
				if !slices.Contains(h.terms, w.Text) {
					return none(w.At)
				}
				if slices.Contains(levelled, w.Text) {
					return twice(w.At)
				}
				levelled = append(levelled, w.Text)
			case first == 'n' && name:
				behind := letter(item[i-1]) == '%'
				if !slices.Contains(h.terms, w.Text) && (behind || !slices.Contains(h.nonts, w.Text)) {
					return none(w.At)
				}
			}
		}
	}
	return answer{}
}

// bars cuts the words behind a colon at their bars.
func bars(l []api.Word) [][]string {
	out := [][]string{nil}
	for _, w := range l {
		if letter(w) == '|' {
			out = append(out, nil)
		} else {
			out[len(out)-1] = append(out[len(out)-1], w.Text)
		}
	}
	return out
}

// build makes the grammar of items without a fault, and its text, both from the items' words alone.
func build(h heap) (api.Grammar, string) {
	names := slices.Concat([]string{"$"}, h.terms, h.nonts)
	number := func(s string) int { return slices.Index(names, s) }
	g := api.Grammar{Levels: make([]api.Level, len(h.terms)+1)}
	var rules, levels, prods []string
	start := ""
	if len(h.nonts) > 0 {
		start, g.Start = h.nonts[0], number(h.nonts[0])
	}
	for _, item := range h.items {
		first := item[0].Text
		switch letter(item[0]) {
		case 'k':
			re, _, _ := regex.Parse(item[2].Text)
			text, _ := regex.Show(re)
			g.Rules = append(g.Rules, api.Rule{Name: item[1].Text, Re: re, Skip: first == "skip"})
			rules = append(rules, first+" "+item[1].Text+" /"+text+"/;")
		case 'l':
			var those []string
			side := map[string]int{"left": 1, "right": 2, "none": 3}[first]
			for _, s := range h.terms {
				if slices.ContainsFunc(item[1:], func(w api.Word) bool { return w.Text == s }) {
					those = append(those, s)
					g.Levels[number(s)] = level(len(levels)+1, side)
				}
			}
			levels = append(levels, first+" "+strings.Join(those, " ")+";")
		case 's':
			start, g.Start = item[1].Text, number(item[1].Text)
		case 'n':
			g.Nonts = append(g.Nonts, first)
			var alts []string
			for _, alt := range bars(item[2:]) {
				p, text := alternative(alt, h.terms, number)
				p.Left = number(first)
				g.Prods = append(g.Prods, p)
				alts = append(alts, text)
			}
			prods = append(prods, first+": "+strings.Join(alts, " | ")+";")
		}
	}
	var starts []string
	if start != "" {
		starts = []string{"start " + start + ";"}
	}
	return g, strings.Join(slices.Concat(rules, levels, starts, prods), "\n")
}

// alternative makes a production of its words, and its text without a % that isn't needed.
func alternative(words []string, terms []string, number func(string) int) (api.Prod, string) {
	var p api.Prod
	last := "$"
	own := slices.Index(words, "%")
	right := words
	if own >= 0 {
		right = words[:own]
	}
	for _, s := range right {
		p.Right = append(p.Right, number(s))
		if slices.Contains(terms, s) {
			last = s
		}
	}
	p.Prec = number(last)
	if own < 0 || words[own+1] == last {
		return p, strings.Join(right, " ")
	}
	p.Prec = number(words[own+1])
	return p, strings.Join(words, " ")
}

// met counts what was answered, so that no kind of it stays untried.
type met struct {
	good   int
	faults [7]int
}

func (m *met) hold(t *testing.T, s string) {
	t.Helper()
	got := parse(s)
	want, text := secondWay(s)
	if !got.same(want) {
		t.Fatalf("Parse(%q): %v, want %v", s, got, want)
	}
	if got.err != api.OK {
		m.faults[got.err]++
		return
	}
	m.good++
	shown, e := gram.Show(got.g)
	if e != api.OK || shown != text {
		t.Fatalf("Show of %q: %q, %d, want %q", s, shown, e, text)
	}
	if again := parse(shown); !again.same(got) {
		t.Fatalf("Parse of Show of %q, %q: %v, want %v", s, shown, again, got)
	}
}

// secondWay tells what Parse does, and what Show tells of it.
func secondWay(s string) (answer, string) {
	l, at, e := word.All(s)
	if e != api.OK {
		return answer{at: at, err: e}, ""
	}
	if f := formFault(l, len(s)); f.err != api.OK {
		return f, ""
	}
	h := gather(l)
	if f := nameFault(h); f.err != api.OK {
		return f, ""
	}
	g, text := build(h)
	return answer{g: g}, text
}

func (m *met) enough(t *testing.T, n int, errs ...api.Errno) {
	t.Helper()
	for _, e := range errs {
		if m.faults[e] < n {
			t.Error("too few of one kind:", *m)
		}
	}
	if m.good < n {
		t.Error("too few without a fault:", *m)
	}
}

// each calls do with all rows of n of these parts.
func each(n int, parts []string, do func(row []string)) {
	row := make([]string, n)
	var fill func(i int)
	fill = func(i int) {
		if i == n {
			do(row)
			return
		}
		for _, p := range parts {
			row[i] = p
			fill(i + 1)
		}
	}
	fill(0)
}

// TestEveryShort: all short texts of words, by themselves and behind a few items.
func TestEveryShort(t *testing.T) {
	var m met
	words := []string{"token", "skip", "left", "start", "s", "a", "/x/", "/(/", ":", ";", "|", "%"}
	for n := range 5 {
		each(n, words, func(row []string) {
			s := strings.Join(row, " ")
			m.hold(t, s)
			m.hold(t, "token a /x/;"+s)
			m.hold(t, s+"\n; token a /x/;")
			m.hold(t, "s: a | "+s+";token a /x/;")
			m.hold(t, "left a; token a /x/; s: ; right "+s)
		})
	}
	each(6, []string{"s", "a", ":", ";", "|", "%"}, func(row []string) {
		m.hold(t, "token a /x/; s : "+strings.Join(row, " "))
		m.hold(t, "t : "+strings.Join(row, " ")+"; token a /x/;")
	})
	m.enough(t, 100, api.ErrForm, api.ErrTwice, api.ErrName)
}

// TestMixed: items of all kinds, one behind the other in every order.
func TestMixed(t *testing.T) {
	var m met
	items := []string{
		"token a /x/;", "token b /[^y]/;", "skip a /z/;", "skip w / /;", "token s /x/;", "left a;", "right b a;", "none b;", "left w;", "right s;", "start s;", "start t;", "start a;",
		"s: ;", "s: a s | ;", "s: t a % b;", "t: % a | s b;", "t: t | | b a % b | a % a;", "a: ;", "t: w;", "# r\n", "token c /(/;", "s: a % ;",
	}
	each(3, items, func(row []string) { m.hold(t, strings.Join(row, " ")) })
	each(4, items[:12], func(row []string) { m.hold(t, "s: b; "+strings.Join(row, "")+" t: a s % b | s;") })
	// with all names there, in any order of what uses them
	parts := []string{"token a /x/;", "token b /y/;", "skip w /z/;", "left b;", "right a;", "s: a t % b | ;", "t: s | b s a;", "start t;"}
	order(parts, func(row []string) { m.hold(t, strings.Join(row, "\n")) })
	m.enough(t, 300, api.ErrForm, api.ErrTwice, api.ErrName)
}

// order calls do with the parts in each order.
func order(parts []string, do func(row []string)) {
	var fill func(i int)
	row := slices.Clone(parts)
	fill = func(i int) {
		if i == len(row) {
			do(row)
			return
		}
		for j := i; j < len(row); j++ {
			row[i], row[j] = row[j], row[i]
			fill(i + 1)
			row[i], row[j] = row[j], row[i]
		}
	}
	fill(0)
}

// TestAboutRoom: texts of about as many of each thing as there is room for.
func TestAboutRoom(t *testing.T) {
	var m met
	tails := []string{"", "token q /x/;", "skip q /x/;", "q: ;", "q: | ;", "n0: n0;", "t0: ;", "q: n0 | % t0 | ;", "q: n0 n0 n0 n0 n0 n0 n0 n0;", "q: n0 n0 n0 n0 n0 n0 n0 n0 n0;", "q", "q:", "q: |", "token", "left t0; left t1;", "left t0 t0;", "start n0;", "q: token", "q: /x/", ";"}
	for _, rules := range []int{0, 2, 15, 16, 17} {
		for _, nonts := range []int{1, 15, 16, 17} {
			for _, prods := range []int{0, 22, 23, 24, 25, 26, 38, 39, 40} {
				s := numbered(rules, "token t# /x/; ") + "n0: " + strings.Repeat("|", prods) + "; " + numbered(nonts, "m#: n0; ")
				for _, one := range tails {
					for _, two := range tails {
						m.hold(t, s+one+" "+two)
					}
				}
			}
		}
	}
	m.enough(t, 300, api.ErrForm, api.ErrFull, api.ErrTwice, api.ErrName)
}

// TestEachCut: a text cut off at each byte, and with each byte left out or doubled.
func TestEachCut(t *testing.T) {
	var m met
	for _, s := range []string{whole, "t: s b % a | % b | a t;\nright b;\nstart s;\nskip w /x/;\nnone a c;\ntoken a /[0-9]+/; # r\ns: ;\nskip v /x/;\ntoken b /x/; token c /\\/| /;"} {
		for i := range len(s) {
			m.hold(t, s[:i])
			m.hold(t, s[i:])
			m.hold(t, s[:i]+s[i+1:])
			m.hold(t, s[:i]+s[i:i+1]+s[i:])
			for _, put := range []string{" ", ";", ":", "|", "%", "a", "/", "$", "token ", "\n"} {
				m.hold(t, s[:i]+put+s[i:])
				m.hold(t, s[:i]+put+s[i+1:])
			}
		}
	}
	m.enough(t, 5, api.ErrForm, api.ErrName, api.ErrTwice)
}
