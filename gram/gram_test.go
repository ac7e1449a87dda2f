package gram_test

import (
	"fmt"
	"math"
	"slices"
	"strings"
	"sync"
	"testing"
	"unsafe"

	"topiary/api"
	"topiary/gram"
	"topiary/regex"
)

// answer is what Parse tells.
type answer struct {
	g   api.Grammar
	at  int
	err api.Errno
}

func parse(s string) answer {
	g, at, e := gram.Parse(s)
	return answer{g, at, e}
}

// Faults at a place.
func form(at int) answer  { return answer{at: at, err: api.ErrForm} }
func full(at int) answer  { return answer{at: at, err: api.ErrFull} }
func twice(at int) answer { return answer{at: at, err: api.ErrTwice} }
func none(at int) answer  { return answer{at: at, err: api.ErrName} }

func alike(g, h api.Grammar) bool {
	rule := func(a, b api.Rule) bool { return a.Name == b.Name && a.Skip == b.Skip && slices.Equal(a.Re, b.Re) }
	prod := func(a, b api.Prod) bool {
		return a.Left == b.Left && a.Prec == b.Prec && slices.Equal(a.Right, b.Right)
	}
	return slices.EqualFunc(g.Rules, h.Rules, rule) && slices.Equal(g.Nonts, h.Nonts) && slices.Equal(g.Levels, h.Levels) &&
		slices.EqualFunc(g.Prods, h.Prods, prod) && g.Start == h.Start
}

func (a answer) same(b answer) bool {
	return a.at == b.at && a.err == b.err && alike(a.g, b.g)
}

// short cuts a text for a message.
func short(s string) string {
	if len(s) > 120 {
		return s[:80] + ".." + s[len(s)-30:]
	}
	return s
}

func holds(t *testing.T, s string, want answer) {
	t.Helper()
	if got := parse(s); !got.same(want) {
		t.Errorf("Parse(%q), of %d bytes: %.300v, want %.300v", short(s), len(s), got, want)
	}
}

// good is the grammar of a text that has no fault.
func good(t *testing.T, s string) api.Grammar {
	t.Helper()
	got := parse(s)
	if got.err != api.OK || got.at != 0 {
		t.Fatalf("Parse(%q): %v", short(s), got)
	}
	return got.g
}

func cells(t *testing.T, s string) []api.Cell {
	t.Helper()
	l, _, e := regex.Parse(s)
	if e != api.OK {
		t.Fatal(s, e)
	}
	return l
}

func level(power, side int) api.Level { return api.Level{Power: power, Side: side} }

func prod(left, prec int, right ...int) api.Prod {
	return api.Prod{Left: left, Right: right, Prec: prec}
}

func TestParseWhole(t *testing.T) {
	x, y, z := cells(t, "x"), cells(t, "[0-9]+"), cells(t, `\/| `)
	for s, want := range map[string]api.Grammar{
		// nothing, and blanks alone
		"":            {Levels: []api.Level{{}}},
		" \t\r\n# s:": {Levels: []api.Level{{}}},
		// the chapter's own
		"token a /x/; s: a s | ;": {Rules: []api.Rule{{Name: "a", Re: x}}, Nonts: []string{"s"}, Levels: make([]api.Level, 2), Prods: []api.Prod{prod(2, 1, 1, 2), prod(2, 0)}, Start: 2},
		// each kind of item alone
		"token a /x/;":               {Rules: []api.Rule{{Name: "a", Re: x}}, Levels: make([]api.Level, 2)},
		"skip a /x/;":                {Rules: []api.Rule{{Name: "a", Re: x, Skip: true}}, Levels: make([]api.Level, 1)},
		"s:;":                        {Nonts: []string{"s"}, Levels: make([]api.Level, 1), Prods: []api.Prod{prod(1, 0)}, Start: 1},
		"s:|;":                       {Nonts: []string{"s"}, Levels: make([]api.Level, 1), Prods: []api.Prod{prod(1, 0), prod(1, 0)}, Start: 1},
		"s:s;":                       {Nonts: []string{"s"}, Levels: make([]api.Level, 1), Prods: []api.Prod{prod(1, 0, 1)}, Start: 1},
		"s:s s s s s s s s|s s;":     {Nonts: []string{"s"}, Levels: make([]api.Level, 1), Prods: []api.Prod{prod(1, 0, 1, 1, 1, 1, 1, 1, 1, 1), prod(1, 0, 1, 1)}, Start: 1},
		"token a /x/;left a;":        {Rules: []api.Rule{{Name: "a", Re: x}}, Levels: []api.Level{{}, level(1, 1)}},
		"token a /x/;right a;":       {Rules: []api.Rule{{Name: "a", Re: x}}, Levels: []api.Level{{}, level(1, 2)}},
		"token a /x/;none a;":        {Rules: []api.Rule{{Name: "a", Re: x}}, Levels: []api.Level{{}, level(1, 3)}},
		"start s;s:;":                {Nonts: []string{"s"}, Levels: make([]api.Level, 1), Prods: []api.Prod{prod(1, 0)}, Start: 1},
		"start t;s:;t:s;":            {Nonts: []string{"s", "t"}, Levels: make([]api.Level, 1), Prods: []api.Prod{prod(1, 0), prod(2, 0, 1)}, Start: 2},
		"s:;t:s;":                    {Nonts: []string{"s", "t"}, Levels: make([]api.Level, 1), Prods: []api.Prod{prod(1, 0), prod(2, 0, 1)}, Start: 1},
		"token a /x/; token b /x/;":  {Rules: []api.Rule{{Name: "a", Re: x}, {Name: "b", Re: x}}, Levels: make([]api.Level, 3)},
		`skip w /\/| /;token n /x/;`: {Rules: []api.Rule{{Name: "w", Re: z, Skip: true}, {Name: "n", Re: x}}, Levels: make([]api.Level, 2)},
		// items in any order, names used ahead of their items, a rule left out between two terminals
		"t: s b % a | % b | a t;\nright b;\nstart s;\nskip w /x/;\nnone a c;\ntoken a /[0-9]+/; # r\ns: ;\nskip v /x/;\ntoken b /x/; token c /\\/| /;": {
			Rules:  []api.Rule{{Name: "w", Re: x, Skip: true}, {Name: "a", Re: y}, {Name: "v", Re: x, Skip: true}, {Name: "b", Re: x}, {Name: "c", Re: z}},
			Nonts:  []string{"t", "s"},
			Levels: []api.Level{{}, level(2, 3), level(1, 2), level(2, 3)},
			Prods:  []api.Prod{prod(4, 1, 5, 2), prod(4, 2), prod(4, 1, 1, 4), prod(5, 0)},
			Start:  5,
		},
		// words that only look like the six
		"Token: tokens; tokens: ; skip_ : ; LEFT: ; starts: ; none1: ;": {
			Nonts: []string{"Token", "tokens", "skip_", "LEFT", "starts", "none1"}, Levels: make([]api.Level, 1),
			Prods: []api.Prod{prod(1, 0, 2), prod(2, 0), prod(3, 0), prod(4, 0), prod(5, 0), prod(6, 0)}, Start: 1,
		},
	} {
		holds(t, s, answer{g: want})
	}
}

// TestPrec: a production's level by its last terminal, by %, by none.
func TestPrec(t *testing.T) {
	for alternative, want := range map[string]int{
		"": 0, "s": 0, "s s": 0, "a": 1, "b": 2, "a b": 2, "b a": 1, "a s": 1, "s a b s s": 2, "a a a a a a a b": 2,
		"% a": 1, "% b": 2, "s % b": 2, "a % b": 2, "b % a": 1, "a b % a": 1, "a b % b": 2, "b s % a": 1, "a a a a a a a a % b": 2,
	} {
		for _, levels := range []string{"", "left a; ", "left b; ", "left a b; ", "none b; right a; "} {
			g := good(t, "token a /x/; skip w /x/; token b /x/; "+levels+"s: b | "+alternative+" | a;")
			if g.Prods[1].Prec != want || g.Prods[0].Prec != 2 || g.Prods[2].Prec != 1 {
				t.Errorf("%q behind %q: %v, want %d", alternative, levels, g.Prods, want)
			}
		}
	}
}

// TestLevels: each item of levels gives one more, whatever stands between, at its terminals alone.
func TestLevels(t *testing.T) {
	const rules = "token a /x/; skip w /x/; token b /x/; token c /x/; "
	for levels, want := range map[string][3]api.Level{
		"": {}, "left b;": {1: level(1, 1)}, "left c a;": {level(1, 1), {}, level(1, 1)}, "right a b c;": {level(1, 2), level(1, 2), level(1, 2)},
		"left c; s: ; right a;": {level(2, 2), {}, level(1, 1)}, "none c; none b; none a;": {level(3, 3), level(2, 3), level(1, 3)},
		"right b; left a; none c;": {level(2, 1), level(1, 2), level(3, 3)}, "left b; left a c;": {level(2, 1), level(1, 1), level(2, 1)},
	} {
		want := append([]api.Level{{}}, want[:]...)
		for _, s := range []string{rules + levels, levels + rules} {
			if g := good(t, s); !slices.Equal(g.Levels, want) {
				t.Errorf("%q: %v, want %v", s, g.Levels, want)
			}
		}
	}
}

// TestCutOff: each kind of item, cut off behind each of its words, is at fault at the text's end.
func TestCutOff(t *testing.T) {
	for _, s := range []string{"token a /x/ ;", "skip a /x/ ;", "left a ;", "left a b ;", "right a ;", "none a ;", "start s ;", "s : ;", "s : a ;", "s : a b | % a | ;", "s : % a ;", "s : | a % b ;"} {
		words := strings.Split(s, " ")
		for n := 1; n < len(words); n++ {
			for _, ahead := range []string{"", "q: ; ", "token r /x/;\n"} {
				for _, behind := range []string{"", " ", "\n\t", "# r ;"} {
					cut := ahead + strings.Join(words[:n], " ") + behind
					holds(t, cut, form(len(cut)))
				}
			}
		}
	}
}

// TestWrongWords: at each place of each item every word that can't stand there is at fault, whatever comes behind it.
func TestWrongWords(t *testing.T) {
	const (
		keys  = "token skip left right none start "
		items = keys + "n "
	)
	// of each place: the words ahead, which words may stand there
	for _, c := range [][2]string{
		{"", items},
		{"token a /x/ ;", items}, {"left a ;", items}, {"start s ;", items}, {"s : ;", items}, {"s : a | % b ;", items},
		{"token", "n"}, {"skip", "n"}, {"token a", "/x/"}, {"skip a", "/x/"}, {"token a /x/", ";"}, {"skip a /x/", ";"},
		{"left", "n"}, {"right", "n"}, {"none", "n"}, {"left a", "n ;"}, {"right a", "n ;"}, {"none a b", "n ;"},
		{"start", "n"}, {"start a", ";"},
		{"s", ":"}, {"s :", "n % | ;"}, {"s : a", "n % | ;"}, {"s : a b", "n % | ;"}, {"s : |", "n % | ;"}, {"s : a |", "n % | ;"}, {"s : a % b |", "n % | ;"},
		{"s : %", "n"}, {"s : a %", "n"}, {"s : a | %", "n"}, {"s : % a", "| ;"}, {"s : a % b", "| ;"}, {"s : a | b % c", "| ;"},
	} {
		ahead, may := c[0]+" ", strings.Fields(c[1])
		for _, w := range strings.Fields(keys + "n /x/ /(/ // : ; | %") {
			right := slices.Contains(may, w) || w == "/(/" && slices.Contains(may, "/x/") || w == "//" && slices.Contains(may, "/x/")
			for _, behind := range []string{"", " ;", " a", " : a ;", " $"} {
				s := ahead + w + behind
				switch got := parse(s); {
				case strings.Contains(behind, "$"):
					holds(t, s, form(len(s)-1))
				case !right:
					holds(t, s, form(len(ahead)))
				case got.err == api.ErrForm && got.at == len(ahead) && w != "/(/" && w != "//":
					t.Errorf("%q: %q is refused", s, w)
				}
			}
		}
	}
}

// TestForm: what the form's edges are, each with its place.
func TestForm(t *testing.T) {
	for s, want := range map[string]answer{
		// the chapter's own
		"s: b;": none(3),
		// items of levels without a name
		"left;": form(4), "right ;": form(6), "none\n;": form(5), "token a /x/; left; right a;": form(17),
		// % at the end, without a name, twice
		"s: %": form(4), "s: a %": form(6), "s: a % ;": form(7), "s: a % | b;": form(7), "s: % % a;": form(5), "s: a % a % a;": form(9), "s: a % a b;": form(9), "s: % a a;": form(7), "s: a % token;": form(7), "s: a % /x/;": form(7), "s: a % :;": form(7),
		// nothing but a sign, two ends, a colon too many
		";": form(0), ":": form(0), "|": form(0), "%": form(0), "/x/": form(0), "s: ;;": form(4), "s:: ;": form(2), "s: a: ;": form(4), "s: ; : ;": form(5), "s t: ;": form(2), "s | t;": form(2), "s % t;": form(2), "s /x/;": form(2),
		// the six words where a name must stand
		"token token /x/;": form(6), "skip left /x/;": form(5), "left right;": form(5), "left a none;": form(7), "start start;": form(6), "start skip;": form(6), "token: ;": form(5), "start: ;": form(5), "none: ;": form(4), "s: start;": form(3), "s: a left;": form(5),
		// a rule's text with more or less about it
		"token a;": form(7), "token /x/;": form(6), "token a /x/ /y/;": form(12), "token a b;": form(8), "token a /x/ b;": form(12), "token a b /x/;": form(8),
		// start with more or less
		"start;": form(5), "start s t; s: ; t: ;": form(8), "start /s/;": form(6),
	} {
		holds(t, s, want)
	}
}

// TestRules: what layer 6 refuses is told at the rule's slash, in the order of the text.
func TestRules(t *testing.T) {
	long := strings.Repeat("()", 100) // of 200 bytes, and of too many cells
	many := strings.Repeat("x", 31)   // 61 cells
	for text, e := range map[string]api.Errno{
		"": api.ErrForm, "(": api.ErrForm, "x|": api.ErrForm, "*": api.ErrForm, "xx(": api.ErrForm, "[b-a]": api.ErrForm, `\q`: api.ErrForm, "\x00": api.ErrForm, "é": api.ErrForm, "\t": api.ErrForm,
		many: api.ErrFull, long: api.ErrFull, long + "(": api.ErrFull, strings.Repeat("[a-z]", 41): api.ErrFull, strings.Repeat("x", 201): api.ErrFull, strings.Repeat("(", 300): api.ErrFull,
	} {
		want := answer{at: 8, err: e}
		holds(t, "token a /"+text+"/;", want)
		holds(t, "token a /"+text+"/", want)
		holds(t, "token a /"+text+"/ /x/;", want)
		holds(t, "token a /"+text+"/; token b /(/; s: b", want)
		holds(t, "token a /"+text+"/; token a /x/;", want)
		want.at = 9
		holds(t, "skip  a /"+text+"/;", answer{at: 8, err: e})
		holds(t, "token  a /"+text+"/;", want)
		want.at = 19
		holds(t, "s: q; s: ; token a /"+text+"/;", want)
		// where no rule may stand it isn't read
		holds(t, "token /"+text+"/;", form(6))
		holds(t, "s: /"+text+"/;", form(3))
	}
	for _, text := range []string{"x", "()", strings.Repeat("x", 30), "[" + strings.Repeat("x", 198) + "]", `\/`, ` `, `[^\/]*`, "#", ";", ":|%"} {
		if text == ":|%" || text == ";" {
			text = "[" + text + "]"
		}
		g := good(t, "token a /"+text+"/;")
		if len(g.Rules) != 1 || !slices.Equal(g.Rules[0].Re, cells(t, text)) {
			t.Errorf("%q: %v", text, g)
		}
	}
}

// numbered is n items, each made of its number.
func numbered(n int, item string) string {
	var out strings.Builder
	for i := range n {
		out.WriteString(strings.ReplaceAll(item, "#", fmt.Sprint(i)))
	}
	return out.String()
}

func TestRoom(t *testing.T) {
	if api.MaxRules != 16 || api.MaxNonts != 16 || api.MaxProds != 40 || api.MaxRight != 8 || api.MaxText != 4000 {
		t.Fatal("other limits than the document's")
	}
	// rules, those that are left out among them
	for _, most := range []string{numbered(16, "token t# /x/; "), numbered(16, "skip t# /x/; "), numbered(8, "token t# /x/; ") + "s: ; " + numbered(8, "skip w# /x/; ") + "left t0; "} {
		if g := good(t, most); len(g.Rules) != 16 {
			t.Errorf("%q: %v", most, g)
		}
		for _, more := range []string{"token u /x/;", "skip u /x/;", "token t0 /x/;", "token u", "token", "skip", "token ;", "token token", "skip u /(/;", "token a /x/; $s"} {
			want := full(len(most))
			if strings.Contains(more, "$") {
				want = form(len(most) + strings.Index(more, "$"))
			}
			holds(t, most+more, want)
		}
	}
	// nonterminals
	most := numbered(16, "n#: ; ")
	if g := good(t, most); len(g.Nonts) != 16 || len(g.Prods) != 16 || g.Start != 1 {
		t.Error(g)
	}
	for _, more := range []string{"n: ;", "n0: ;", "n", "n :", "n ;", "n: token", "n n"} {
		holds(t, most+more, full(len(most)))
		holds(t, most+"token a /x/; "+more, full(len(most)+13))
	}
	holds(t, most+"; n: ;", form(len(most)))
	// both at once, each at its own item
	rules := numbered(16, "token t# /x/; ")
	if g := good(t, rules+most); len(g.Rules) != 16 || len(g.Nonts) != 16 || g.Prods[0].Left != 17 || g.Start != 17 {
		t.Error(g)
	}
	holds(t, rules+most+"n: ; token u /x/;", full(len(rules+most)))
	holds(t, rules+most+"token u /x/; n: ;", full(len(rules+most)))
	holds(t, rules+most+"left t0; start n9; skip u /x/;", full(len(rules+most)+19))
}

// TestProductions: the 41st is told at the word that is first in it, or ends it; a word that can't stand there is a fault of form.
func TestProductions(t *testing.T) {
	// 40 of them: in one item, in four, and 39 with the next as an item's first
	one := "s: " + strings.Repeat("s | ", 39) + "s "
	four := numbered(4, "n#: "+strings.Repeat("n0 | ", 9)+"% a; ") + "token a /x/; "
	for s, want := range map[string]int{one + ";": 40, four: 40, "s: " + strings.Repeat("|", 39) + ";": 40, "s: " + strings.Repeat("|", 38) + ";": 39} {
		if g := good(t, s); len(g.Prods) != want {
			t.Errorf("%q: %d", s, len(g.Prods))
		}
	}
	for more, want := range map[string]answer{
		"| s;": full(2), "|;": full(1), "| ;": full(2), "||": full(1), "| | s": full(2), "| % s;": full(2), "| %": full(2), "|%token": full(1), "| s": full(2), "| q q;": full(2), "|  s s s s s s s s s;": full(3),
		"|": form(1), "| ": form(2), "| :": form(2), "| /x/": form(2), "| token": form(2), "| start;": form(2), ": |": form(0), "": form(0), "| s $": form(4),
	} {
		want.at += len(one)
		holds(t, one+more, want)
	}
	for more, want := range map[string]answer{
		"s: a;": full(3), "s: ;": full(3), "s:;": full(2), "s: | a;": full(3), "s: % a;": full(3), "s: q": full(3), "n0:;": full(3),
		"s": form(1), "s:": form(2), "s ;": form(2), "s: :": form(3), "s: token": form(3), "s: /x/": form(3), ": a": form(0),
	} {
		want.at += len(four)
		holds(t, four+more, want)
	}
}

// TestRightSides: the ninth symbol is the fault, where a name stands; each alternative has its own eight.
func TestRightSides(t *testing.T) {
	eight := strings.Repeat("s ", 8)
	for s, want := range map[string]answer{
		"s: " + eight + "s;": full(19), "s: " + eight + "q": full(19), "s: " + eight + "s s s;": full(19), "s: s | " + eight + "s": full(23), "s: " + eight + "s token": full(19),
		"s: " + eight: form(19), "s: " + eight + "token": form(19), "s: " + eight + ":": form(19), "s: " + eight + "/x/": form(19), "s: " + eight + "% s s": form(23), "s: " + eight + "% ;": form(21),
		"s: " + eight + "% s;": none(21), "q: " + eight + ";": none(3),
	} {
		holds(t, s, want)
	}
	g := good(t, "s: "+eight+"|"+eight+"| s |"+eight+";")
	if len(g.Prods) != 4 || len(g.Prods[0].Right) != 8 || len(g.Prods[1].Right) != 8 || len(g.Prods[3].Right) != 8 {
		t.Error(g)
	}
	g = good(t, "s: "+eight+"% a; token a /x/;")
	if len(g.Prods) != 1 || len(g.Prods[0].Right) != 8 || g.Prods[0].Prec != 1 {
		t.Error(g)
	}
}

func TestTwice(t *testing.T) {
	for s, at := range map[string]int{
		// a rule's name, a nonterminal's, one name as both
		"token a /x/; token a /y/;": 19, "token a /x/; skip a /y/;": 18, "skip a /x/; token a /x/;": 18, "skip a /x/; skip a /x/;": 17, "token a /x/; token b /x/; token a /x/;": 32,
		"s: ; s: ;": 5, "s: ; t: ; s: t;": 10, "s: s; s: s; s: s;": 6, "token s /x/; s: s;": 13, "s: s; token s /x/;": 12, "skip s /x/; s: ;": 12, "s: ; skip s /x/;": 10,
		// a second start
		"start s; start s; s: ;": 9, "s: ; t: ; start s; start t;": 19, "start s; s: ; start q;": 14, "start s; start s; start s; s: ;": 9,
		// a name in two levels, and twice in one
		"token a /x/; left a; right a;": 27, "token a /x/; left a; left a;": 26, "token a /x/; left a a;": 20, "token a /x/; token b /x/; none b a b a;": 35, "left a; token a /x/; right a;": 27, "left a a; token a /x/;": 7,
		// told twice behind its uses: it is somebody's, till then
		"left s; s: ; token s /x/;": 19, "left s; token s /x/; s: ;": 21, "start s; token s /x/; s: ;": 22, "start s; s: ; token s /x/;": 20, "left a; skip a /x/; token a /x/;": 26, "t: % s; s: ; token s /x/;": 19,
	} {
		holds(t, s, twice(at))
	}
}

func TestNone(t *testing.T) {
	for s, at := range map[string]int{
		// in a level: nobody, a nonterminal, a rule that is left out
		"left q;": 5, "right s; s: ;": 6, "none w; skip w /x/;": 5, "token a /x/; left a q;": 20, "token a /x/; left q a;": 18, "s: ; none s;": 10, "left q q;": 5,
		// behind %
		"s: % q;": 5, "s: % s;": 5, "s: % w; skip w /x/;": 5, "token a /x/; s: a % a | a % s;": 28,
		// in a right side
		"s: q;": 3, "s: s q;": 5, "s: w; skip w /x/;": 3, "s: s | q;": 7, "token a /x/; s: a | a b a;": 22, "s: S;": 3,
		// behind start
		"start q;": 6, "start a; token a /x/; s: ;": 6, "start w; s: ; skip w /x/;": 6, "s: ; start S;": 11, "start t; s: ;": 6,
	} {
		holds(t, s, none(at))
	}
}

// TestOrder: of two faults in one text the first counts; those of form and room are ahead of those of names.
func TestOrder(t *testing.T) {
	names := map[string]answer{"s: q;": none(3), "s: ; s: ;": twice(5), "left q;": none(5), "start q;": none(6), "s: % q;": none(5), "start s; start s; s: ;": twice(9), "token a /x/; left a a;": twice(20)}
	forms := map[string]answer{
		";": form(0), "left ;": form(5), "z": form(1), "token z /(/;": form(8), "token z /" + strings.Repeat("x", 31) + "/;": full(8), "z: z z z z z z z z z;": full(19), "z: %;": form(4),
	}
	for a, first := range names {
		for b, late := range forms {
			late.at += len(a) + 1
			holds(t, a+" "+b, late)
			if early := forms[b]; early.at < len(b) {
				holds(t, b+" "+a, early)
			}
		}
		for b := range names {
			if a != b && first.at < len(a) {
				if got := parse(a + " " + b); got.err == api.OK || got.at > first.at {
					t.Errorf("%q %q: %v", a, b, got)
				}
			}
		}
	}
	for a, early := range forms {
		for b := range forms {
			if early.at < len(a) {
				holds(t, a+" "+b, early)
			}
		}
	}
	// names by their places, of whichever of both kinds
	for s, want := range map[string]answer{
		"s: q; s: ;": none(3), "s: ; s: q;": twice(5), "start q; start s; s: ;": none(6), "start s; start q; s: ;": twice(9), "left a a q; token a /x/;": twice(7), "left a q a; token a /x/;": none(7),
		"s: q; left z;": none(3), "left z; s: q;": none(5), "s: % q | z;": none(5), "s: z % q;": none(3), "s: s; t: s; s: q; left z;": twice(12),
	} {
		holds(t, s, want)
	}
}

// TestWordsFaults: layer 11's errors are ahead of all others, with its places.
func TestWordsFaults(t *testing.T) {
	for _, ahead := range []string{"", "; ", "s: q; s: ; ", "token a /(/; ", "left ; ", "s: a a a a a a a a a a; "} {
		for _, fault := range []string{"$", "1", "/x", `/x\/`, "abcdefghijklmnopq", "\x00", "\xff", "é", "/x\n/"} {
			holds(t, ahead+fault, form(len(ahead)))
			holds(t, ahead+fault+" ; $", form(len(ahead)))
		}
	}
	holds(t, strings.Repeat(" ", 4001), full(0))
	holds(t, "; $"+strings.Repeat(" ", 4000), full(0))
	holds(t, strings.Repeat("s: ;", 1001), full(0))
	holds(t, strings.Repeat(" ", 4000), answer{g: good(t, "")})
	holds(t, strings.Repeat(" ", 3996)+"s: ;", answer{g: good(t, "s: ;")})
	holds(t, strings.Repeat(" ", 3999)+"s", form(4000))
	holds(t, strings.Repeat(" ", 3999)+";", form(3999))
	holds(t, strings.Repeat("|", 4000), form(0))
	holds(t, "s:"+strings.Repeat("|", 3998), full(2+40))
	holds(t, "left"+strings.Repeat(" a", 1998), form(4000))
}

func TestTermsAndNames(t *testing.T) {
	rule := func(name string, skip bool) api.Rule { return api.Rule{Name: name, Skip: skip} }
	many := make([]api.Rule, 1000)
	for i := range many {
		many[i] = rule(fmt.Sprint("r", i), i%2 == 0)
	}
	var halves []string
	for i := range 500 {
		halves = append(halves, fmt.Sprint("r", 2*i+1))
	}
	for _, c := range []struct {
		g     api.Grammar
		terms int
		names []string // from 1 on
	}{
		{api.Grammar{}, 0, nil},
		{good(t, ""), 0, nil},
		{good(t, "skip w /x/;"), 0, nil},
		{good(t, "s: ;"), 0, []string{"s"}},
		{good(t, "token a /x/; s: a s | ;"), 1, []string{"a", "s"}},
		{good(t, "t: ; skip w /x/; token a /x/; s: ; skip v /x/; token b /x/; skip u /x/;"), 2, []string{"a", "b", "t", "s"}},
		// what no text makes
		{api.Grammar{Rules: []api.Rule{rule("", false), rule("w", true), rule("a b", false), rule("$", false)}, Nonts: []string{"", "a b", "token"}, Start: 99}, 3, []string{"", "a b", "$", "", "a b", "token"}},
		{api.Grammar{Rules: []api.Rule{rule("w", true)}, Nonts: []string{"w", "w"}}, 0, []string{"w", "w"}},
		{api.Grammar{Rules: many, Nonts: halves}, 500, append(slices.Clone(halves), halves...)},
	} {
		if n := gram.Terms(c.g); n != c.terms {
			t.Errorf("%.100v: %d terminals, want %d", c.g, n, c.terms)
		}
		for sym := -20; sym < len(c.names)+20; sym++ {
			want := ""
			if sym == 0 {
				want = "$"
			} else if sym > 0 && sym <= len(c.names) {
				want = c.names[sym-1]
			}
			if got := gram.Name(c.g, sym); got != want {
				t.Errorf("%.100v: %d is %q, want %q", c.g, sym, got, want)
			}
		}
		for _, sym := range []int{math.MinInt, math.MinInt + 1, math.MinInt + 2, math.MaxInt, math.MaxInt - 1, math.MaxInt - 499, -1 << 32, 1 << 32, 1<<32 + 1} {
			if got := gram.Name(c.g, sym); got != "" {
				t.Errorf("%.100v: %d is %q", c.g, sym, got)
			}
		}
	}
}

// TestNewMemory: nothing that is answered shares memory with what was handed in, or with another answer, spare room included.
func TestNewMemory(t *testing.T) {
	given := []byte("token ab /x*/; skip cd /y/; left ab; s: ab s | ab % ab | ; tt: s; start tt;")
	s := unsafe.String(&given[0], len(given))
	g, kept, other := good(t, s), good(t, strings.Clone(s)), good(t, s)
	for _, r := range other.Rules[:cap(other.Rules)] {
		clear(r.Re[:cap(r.Re)])
	}
	for _, p := range other.Prods[:cap(other.Prods)] {
		clear(p.Right[:cap(p.Right)])
	}
	clear(other.Rules[:cap(other.Rules)])
	clear(other.Nonts[:cap(other.Nonts)])
	clear(other.Levels[:cap(other.Levels)])
	clear(other.Prods[:cap(other.Prods)])
	for i := range given {
		given[i] = '?'
	}
	if !alike(g, kept) {
		t.Errorf("%v, want %v", g, kept)
	}
	// lists of one answer don't run into one another
	for i := range g.Prods {
		g.Prods[i].Right = append(g.Prods[i].Right, 77)
		g.Prods[i].Right = g.Prods[i].Right[:len(g.Prods[i].Right)-1]
	}
	for i := range g.Rules {
		g.Rules[i].Re = append(g.Rules[i].Re, api.Cell{Op: 77})
		g.Rules[i].Re = g.Rules[i].Re[:len(g.Rules[i].Re)-1]
	}
	if !alike(g, kept) {
		t.Errorf("%v, want %v", g, kept)
	}
	name := []byte("ab")
	g.Rules[0].Name = unsafe.String(&name[0], 2)
	nont := []byte("tt")
	g.Nonts[1] = unsafe.String(&nont[0], 2)
	rule, own := gram.Name(g, 1), gram.Name(g, 3)
	shown, e := gram.Show(g)
	want := strings.Clone(shown)
	if e != api.OK || !alike(g, kept) {
		t.Fatal(shown, e, g)
	}
	copy(name, "??")
	copy(nont, "??")
	if rule != "ab" || own != "tt" || shown != want {
		t.Error(rule, own, shown)
	}
}

// TestUnchanged: what is handed in isn't changed, spare room included.
func TestUnchanged(t *testing.T) {
	g, kept := good(t, whole), good(t, whole)
	spare := func(g *api.Grammar) {
		g.Rules = append(g.Rules, api.Rule{Name: "spare"})[:len(g.Rules)]
		g.Nonts = append(g.Nonts, "spare")[:len(g.Nonts)]
		g.Levels = append(g.Levels, level(7, 7))[:len(g.Levels)]
		g.Prods = append(g.Prods, prod(7, 7))[:len(g.Prods)]
		for i, p := range g.Prods {
			g.Prods[i].Right = append(p.Right, 77)[:len(p.Right)]
		}
	}
	spare(&g)
	if s, e := gram.Show(g); e != api.OK || s != whole || gram.Terms(g) != 2 || gram.Name(g, 3) != "e" {
		t.Error(s, e)
	}
	more := func(g api.Grammar) bool {
		for _, p := range g.Prods {
			if p.Right[:len(p.Right)+1][len(p.Right)] != 77 {
				return false
			}
		}
		return g.Rules[:len(g.Rules)+1][len(g.Rules)].Name == "spare" && g.Nonts[:len(g.Nonts)+1][len(g.Nonts)] == "spare" &&
			g.Levels[:len(g.Levels)+1][len(g.Levels)] == level(7, 7) && g.Prods[:len(g.Prods)+1][len(g.Prods)].Prec == 7
	}
	if !alike(g, kept) || !more(g) {
		t.Error("changed:", g)
	}
}

// TestManyAtOnce: calls at the same time have nothing to do with one another, even of one grammar.
func TestManyAtOnce(t *testing.T) {
	one := good(t, whole)
	var wait sync.WaitGroup
	for n := range 8 {
		wait.Go(func() {
			s := numbered(n, "token t# /x/;\n") + "start s;\ns: " + strings.TrimSuffix(numbered(n, "t# "), " ") + ";"
			for range 30 {
				g, at, e := gram.Parse(s)
				if e != api.OK || at != 0 || gram.Terms(g) != n || len(g.Prods[0].Right) != n || g.Start != n+1 {
					t.Error(n, g, at, e)
				}
				if again, e := gram.Show(g); e != api.OK || again != s {
					t.Errorf("%q, want %q", again, s)
				}
				if again, e := gram.Show(one); e != api.OK || again != whole {
					t.Errorf("%q", again)
				}
			}
		})
	}
	wait.Wait()
}
