package auto_test

import (
	"fmt"
	"math"
	"slices"
	"strconv"
	"strings"
	"testing"

	"topiary/api"
	"topiary/auto"
	"topiary/check"
	"topiary/gram"
	"topiary/items"
)

// abc are three terminals and a rule that is left out, ahead of the nonterminals of a grammar's text.
const abc = "token a /a/; skip w / /; token b /b/; token c /c/; "

// whole is a text of a grammar that has something of everything: terminals a 1, b 2, c 3; nonterminals s 4, t 5, u 6, v 7, of which v isn't reached; productions 0 and 1 of s, 2 and 3 of t, 4 and 5 of u, 6 and 7 of v.
const whole = abc + "left a; none c; s: t u c | a; t: t b | ; u: t | a s % b; v: u v c | v;"

// expr is a text of one whose productions have levels.
const expr = "token n /n/; token p /p/; token t /t/; left p; left t; e: e p e | e t e | n;"

// good is the grammar of a text that has no fault.
func good(t *testing.T, s string) api.Grammar {
	t.Helper()
	g, at, e := gram.Parse(s)
	if e != api.OK {
		t.Fatalf("Parse(%.200q): %d, %v", s, at, e)
	}
	return g
}

// numbered is n items, each made of its number.
func numbered(n int, item string) string {
	var out strings.Builder
	for i := range n {
		out.WriteString(strings.NewReplacer("#", fmt.Sprint(i), "@", fmt.Sprint(i+1)).Replace(item))
	}
	return out.String()
}

func prod(left int, right ...int) api.Prod { return api.Prod{Left: left, Right: right} }

func item(prod, dot int) api.Item { return api.Item{Prod: prod, Dot: dot} }

// list is items as a text tells them: Prod, a comma and Dot, with blanks between; just Prod, if Dot is 0.
func list(t *testing.T, s string) []api.Item {
	t.Helper()
	var l []api.Item
	for _, one := range strings.Fields(s) {
		first, second, ok := strings.Cut(one, ",")
		if !ok {
			second = "0"
		}
		p, e := strconv.Atoi(first)
		d, f := strconv.Atoi(second)
		if e != nil || f != nil {
			t.Fatal(s)
		}
		l = append(l, item(p, d))
	}
	return l
}

// symbols is how many symbols a grammar has, the end among them.
func symbols(g api.Grammar) int { return 1 + gram.Terms(g) + len(g.Nonts) }

// symbol is the number of a name; $ is the end.
func symbol(t *testing.T, g api.Grammar, name string) int {
	t.Helper()
	for sym := range symbols(g) {
		if gram.Name(g, sym) == name {
			return sym
		}
	}
	t.Fatalf("no symbol %q", name)
	return 0
}

// text is symbols as their names tell them, with blanks between; a number that isn't a symbol's stands for itself.
func text(t *testing.T, g api.Grammar, s string) []int {
	t.Helper()
	var syms []int
	for _, name := range strings.Fields(s) {
		if n, e := strconv.Atoi(name); e == nil {
			syms = append(syms, n)
		} else {
			syms = append(syms, symbol(t, g, name))
		}
	}
	return syms
}

// states are those that lines tell, one by one: the kernel, and behind a > where symbols lead.
func states(t *testing.T, g api.Grammar, lines []string) []api.State {
	t.Helper()
	var l []api.State
	for _, line := range lines {
		kernel, moves, _ := strings.Cut(line, ">")
		s := api.State{Kernel: list(t, kernel), Next: slices.Repeat([]int{-1}, symbols(g))}
		for _, move := range strings.Fields(moves) {
			name, to, _ := strings.Cut(move, ":")
			n, e := strconv.Atoi(to)
			if e != nil {
				t.Fatal(line)
			}
			s.Next[symbol(t, g, name)] = n
		}
		l = append(l, s)
	}
	return l
}

func sameStates(a, b []api.State) bool {
	return slices.EqualFunc(a, b, func(x, y api.State) bool { return slices.Equal(x.Kernel, y.Kernel) && slices.Equal(x.Next, y.Next) })
}

// copied is a list in memory of its own.
func copied(l []api.State) []api.State {
	all := slices.Clone(l)
	for n, s := range all {
		all[n] = api.State{Kernel: slices.Clone(s.Kernel), Next: slices.Clone(s.Next)}
	}
	return all
}

// strange are numbers of which none is a symbol or a state of any grammar here.
func strange() []int {
	return []int{-1, -2, -3, 240, 999, 1 << 32, 1<<32 + 1, -1 << 32, 1 - 1<<32, math.MaxInt, math.MaxInt - 1, math.MinInt, math.MinInt + 1}
}

// built is the automaton of a grammar that has one.
func built(t *testing.T, what string, g api.Grammar) []api.State {
	t.Helper()
	l, e := auto.Build(g)
	if e != api.OK {
		t.Fatalf("%.200s: %v", what, e)
	}
	if again, e := auto.Build(g); e != api.OK || !sameStates(l, again) {
		t.Fatalf("%.200s: told twice, and not alike", what)
	}
	return l
}

// defined holds an automaton to the chapter's words, which leave one alone: kernels, what symbols lead to, and the numbers.
func defined(t *testing.T, what string, g api.Grammar, l []api.State) {
	t.Helper()
	if len(l) == 0 || len(l) > api.MaxStates || !slices.Equal(l[0].Kernel, []api.Item{item(-1, 0)}) {
		t.Fatalf("%.200s: no state 0, or too many: %d", what, len(l))
	}
	met := 1
	kernels := map[string]int{}
	for n, s := range l {
		kernels[fmt.Sprint(s.Kernel)]++
		if len(s.Next) != symbols(g) || n >= met {
			t.Fatalf("%.200s: state %d: Next of %d, met %d", what, n, len(s.Next), met)
		}
		for sym, to := range s.Next {
			next := items.Goto(g, s.Kernel, sym)
			if len(next) == 0 && to == -1 {
				continue
			}
			if to < 1 || to > met || to >= len(l) || len(next) == 0 || !slices.Equal(l[to].Kernel, next) {
				t.Fatalf("%.200s: state %d by %d: %d, want that of %v", what, n, sym, to, next)
			}
			met = max(met, to+1)
		}
	}
	if met != len(l) || len(kernels) != len(l) {
		t.Fatalf("%.200s: %d states, met %d, of %d kernels", what, len(l), met, len(kernels))
	}
}

// comeTo holds an automaton to P17.4: one symbol a state, and a state ahead of it from which it is come to; and Map of it to itself.
func comeTo(t *testing.T, what string, g api.Grammar, l []api.State) {
	t.Helper()
	by := make([]map[int]int, len(l))
	ahead := make([]bool, len(l))
	for n, s := range l {
		for sym, to := range s.Next {
			if to < 0 {
				continue
			}
			if by[to] == nil {
				by[to] = map[int]int{}
			}
			by[to][sym]++
			ahead[to] = ahead[to] || n < to
		}
	}
	var itself []int
	for n := range l {
		if n == 0 && by[0] != nil || n > 0 && (len(by[n]) != 1 || by[n][0] > 0 || !ahead[n]) {
			t.Errorf("%.200s: state %d: come to by %v, from ahead: %t", what, n, by[n], ahead[n])
		}
		itself = append(itself, n)
	}
	if got, e := auto.Map(l, l, g, g); e != api.OK || !slices.Equal(got, itself) {
		t.Errorf("%.200s: mapped to itself: %v, %v", what, got, e)
	}
}

// altered are lists that differ from an automaton in little.
func altered(g api.Grammar, l []api.State) map[string][]api.State {
	all := map[string][]api.State{
		"nothing":                              nil,
		"an empty list":                        {},
		"without the last":                     copied(l)[:len(l)-1],
		"without the first":                    copied(l)[1:],
		"with the last one again, behind all":  append(copied(l), copied(l)[len(l)-1]),
		"with the first one again, behind all": append(copied(l), copied(l)[0]),
		"with one of nothing, behind all":      append(copied(l), api.State{}),
		"with one of nothing, ahead of all":    append([]api.State{{}}, copied(l)...),
		"turned round":                         copied(l),
		"twice":                                append(copied(l), copied(l)...),
	}
	slices.Reverse(all["turned round"])
	change := func(what string, n int, change func(s *api.State)) {
		other := copied(l)
		change(&other[n])
		all[fmt.Sprint(what, " of state ", n)] = other
	}
	for n, s := range l {
		change("nothing at all", n, func(s *api.State) { *s = api.State{} })
		change("a Next of nothing", n, func(s *api.State) { s.Next = nil })
		change("a Next that is shorter", n, func(s *api.State) { s.Next = s.Next[:len(s.Next)-1] })
		change("a Next without symbol 0", n, func(s *api.State) { s.Next = s.Next[1:] })
		change("a Next that is longer", n, func(s *api.State) { s.Next = append(s.Next, -1) })
		change("a Next that is longer by a state", n, func(s *api.State) { s.Next = append(s.Next, 0) })
		for sym, to := range s.Next {
			for _, other := range []int{0, 1, -1, -2, to + 1, to - 1, len(l) - 1, len(l), math.MaxInt, math.MinInt, to + 1<<32} {
				if other != to {
					change(fmt.Sprint(other, " by ", sym), n, func(s *api.State) { s.Next[sym] = other })
				}
			}
		}
		change("a kernel of nothing", n, func(s *api.State) { s.Kernel = nil })
		change("a kernel without its first item", n, func(s *api.State) { s.Kernel = s.Kernel[1:] })
		change("a kernel with its first item twice", n, func(s *api.State) { s.Kernel = slices.Insert(s.Kernel, 0, s.Kernel[0]) })
		change("a kernel with the item -2", n, func(s *api.State) { s.Kernel = slices.Insert(s.Kernel, 0, item(-2, 0)) })
		change("a kernel with an item behind all", n, func(s *api.State) { s.Kernel = append(s.Kernel, item(len(g.Prods), 0)) })
		if len(s.Kernel) > 1 {
			change("a kernel without its last item", n, func(s *api.State) { s.Kernel = s.Kernel[:len(s.Kernel)-1] })
			change("a kernel that falls", n, func(s *api.State) { slices.Reverse(s.Kernel) })
		}
		if closure := items.Closure(g, s.Kernel); len(closure) != len(s.Kernel) {
			change("the closure", n, func(s *api.State) { s.Kernel = closure })
		}
		for i := range s.Kernel {
			change(fmt.Sprint("a Dot more at ", i), n, func(s *api.State) { s.Kernel[i].Dot++ })
			change(fmt.Sprint("a Dot less at ", i), n, func(s *api.State) { s.Kernel[i].Dot-- })
			change(fmt.Sprint("a Prod more at ", i), n, func(s *api.State) { s.Kernel[i].Prod++ })
			change(fmt.Sprint("a Prod less at ", i), n, func(s *api.State) { s.Kernel[i].Prod-- })
			change(fmt.Sprint("a Prod far off at ", i), n, func(s *api.State) { s.Kernel[i].Prod += 1 << 32 })
			change(fmt.Sprint("a Dot far off at ", i), n, func(s *api.State) { s.Kernel[i].Dot += 256 })
		}
	}
	for n := range l[1:] {
		other := copied(l)
		other[n], other[n+1] = other[n+1], other[n]
		all[fmt.Sprint("turned round at ", n)] = other
	}
	return all
}

// refused asks that a list isn't the automaton of g, and that Map doesn't take it as one, on either side of l, which is.
func refused(t *testing.T, what string, g api.Grammar, wrong, l []api.State) {
	t.Helper()
	if auto.Right(g, wrong) {
		t.Errorf("%.300s: right: %.300s", what, fmt.Sprint(wrong))
	}
	for _, c := range [][2][]api.State{{wrong, l}, {l, wrong}, {wrong, wrong}} {
		if got, e := auto.Map(c[0], c[1], g, g); e != api.ErrArg || got != nil {
			t.Errorf("%.300s: mapped: %v, %v", what, got, e)
		}
	}
}

// whats are texts of grammars, and their automata as lines tell them.
func whats() map[string][]string {
	return map[string][]string{
		"token a /a/; s: a s | ;": {"-1 > a:1 s:2", "0,1 > a:1 s:3", "-1,1", "0,2"},
		// symbols of which some lead nowhere at first; a state that is met from several
		whole: {"-1 > a:1 s:2 t:3", "1,1", "-1,1", "0,1 2,1 > a:4 b:5 t:6 u:7", "5,1 > a:1 s:8 t:3", "2,2", "2,1 4,1 > b:5", "0,2 > c:9", "5,2", "0,3"},
		expr:  {"-1 > n:1 e:2", "2,1", "-1,1 0,1 1,1 > p:3 t:4", "0,2 > n:1 e:5", "1,2 > n:1 e:6", "0,1 0,3 1,1 > p:3 t:4", "0,1 1,1 1,3 > p:3 t:4"},
		// an empty right side; a right side of one symbol, of eight
		"s: ;":                           {"-1 > s:1", "-1,1"},
		"s: | ;":                         {"-1 > s:1", "-1,1"},
		abc + "s: b;":                    {"-1 > b:1 s:2", "0,1", "-1,1"},
		abc + "s: c a b b a c a b;":      {"-1 > c:1 s:2", "0,1 > a:3", "-1,1", "0,2 > b:4", "0,3 > b:5", "0,4 > a:6", "0,5 > c:7", "0,6 > a:8", "0,7 > b:9", "0,8"},
		abc + "s: t t t t t t t t; t: ;": {"-1 > s:1 t:2", "-1,1", "0,1 > t:3", "0,2 > t:4", "0,3 > t:5", "0,4 > t:6", "0,5 > t:7", "0,6 > t:8", "0,7 > t:9", "0,8"},
		// the start symbol in its own production; a state that leads to itself; circles
		"s: s;":                             {"-1 > s:1", "-1,1 0,1"},
		"s: s s | ;":                        {"-1 > s:1", "-1,1 0,1 > s:2", "0,1 0,2 > s:2"},
		"s: s s s s s s s s;":               {"-1 > s:1", "-1,1 0,1 > s:2", "0,1 0,2 > s:3", "0,1 0,2 0,3 > s:4", "0,1 0,2 0,3 0,4 > s:5", "0,1 0,2 0,3 0,4 0,5 > s:6", "0,1 0,2 0,3 0,4 0,5 0,6 > s:7", "0,1 0,2 0,3 0,4 0,5 0,6 0,7 > s:8", "0,1 0,2 0,3 0,4 0,5 0,6 0,7 0,8 > s:8"},
		abc + "s: s a | b;":                 {"-1 > b:1 s:2", "1,1", "-1,1 0,1 > a:3", "0,2"},
		abc + "s: a s b | c;":               {"-1 > a:1 c:2 s:3", "0,1 > a:1 c:2 s:4", "1,1", "-1,1", "0,2 > b:5", "0,3"},
		abc + "s: a t | ; t: b s;":          {"-1 > a:1 s:2", "0,1 > b:3 t:4", "-1,1", "2,1 > a:1 s:5", "0,2", "2,2"},
		abc + "s: a t; t: b u; u: c s | a;": {"-1 > a:1 s:2", "0,1 > b:3 t:4", "-1,1", "1,1 > a:5 c:6 u:7", "0,2", "3,1", "2,1 > a:1 s:8", "1,2", "2,2"},
		"s: t; t: s;":                       {"-1 > s:1 t:2", "-1,1 1,1", "0,1"},
		// terminals ahead of nonterminals, whatever the productions' order
		abc + "s: t c | u b | a; t: u; u: ;":    {"-1 > a:1 s:2 t:3 u:4", "2,1", "-1,1", "0,1 > c:5", "1,1 3,1 > b:6", "0,2", "1,2"},
		abc + "s: u | t | c | b | a; t: ; u: ;": {"-1 > a:1 b:2 c:3 s:4 t:5 u:6", "4,1", "3,1", "2,1", "-1,1", "1,1", "0,1"},
		// two symbols that lead from a state to two, each with one item done, and from there to the same one, by the same symbol
		abc + "s: a t | b t; t: c;": {"-1 > a:1 b:2 s:3", "0,1 > c:4 t:5", "1,1 > c:4 t:6", "-1,1", "2,1", "0,2", "1,2"},
		// a start symbol that isn't the first, and nonterminals to which nothing leads
		abc + "start u; s: u a; u: b | s;": {"-1 > b:1 s:2 u:3", "1,1", "2,1", "-1,1 0,1 > a:4", "0,2"},
		abc + "s: a; x: b y; y: x | c;":    {"-1 > a:1 s:2", "0,1", "-1,1"},
		"x: ; y: z; z: y z; start x;":      {"-1 > x:1", "-1,1"},
		// productions that are alike, twice, and those that differ in the level alone
		abc + "s: a | a;":                   {"-1 > a:1 s:2", "0,1 1,1", "-1,1"},
		abc + "s: b s | a | b s;":           {"-1 > a:1 b:2 s:3", "1,1", "0,1 2,1 > a:1 b:2 s:4", "-1,1", "0,2 2,2"},
		abc + "left a b; s: a % b | c | a;": {"-1 > a:1 c:2 s:3", "0,1 2,1", "1,1", "-1,1"},
		// alike by their right sides, but of two left sides
		abc + "s: t | u; t: a b; u: a b;": {"-1 > a:1 s:2 t:3 u:4", "2,1 3,1 > b:5", "-1,1", "0,1", "1,1", "2,2 3,2"},
		// none that ends
		abc + "s: a s;": {"-1 > a:1 s:2", "0,1 > a:1 s:3", "-1,1", "0,2"},
	}
}

func TestBuild(t *testing.T) {
	for s, lines := range whats() {
		g := good(t, s)
		l, want := built(t, s, g), states(t, g, lines)
		if !sameStates(l, want) {
			t.Errorf("%q: %v, want %v", s, l, want)
		}
		defined(t, s, g, want)
		comeTo(t, s, g, want)
		if !auto.Right(g, want) {
			t.Errorf("%q: not right", s)
		}
	}
}

// TestNoProds: of a nonterminal that has no production, which no text tells.
func TestNoProds(t *testing.T) {
	g := api.Grammar{Levels: make([]api.Level, 1), Nonts: []string{"s"}, Start: 1}
	for s, c := range map[string]struct {
		g     api.Grammar
		lines []string
	}{
		"one":             {g, []string{"-1 > s:1", "-1,1"}},
		"the last of two": {api.Grammar{Levels: make([]api.Level, 1), Nonts: []string{"s", "t"}, Start: 2}, []string{"-1 > t:1", "-1,1"}},
		"behind the dot":  {api.Grammar{Levels: make([]api.Level, 1), Nonts: []string{"s", "t"}, Prods: []api.Prod{prod(1, 2, 1)}, Start: 1}, []string{"-1 > s:1 t:2", "-1,1", "0,1 > s:3 t:2", "0,2"}},
	} {
		want := states(t, c.g, c.lines)
		if l := built(t, s, c.g); !sameStates(l, want) || !auto.Right(c.g, want) {
			t.Errorf("%s: %v, want %v", s, l, want)
		}
		defined(t, s, c.g, want)
		comeTo(t, s, c.g, want)
		for what, wrong := range altered(c.g, want) {
			refused(t, s+": "+what, c.g, wrong, want)
		}
	}
}

// TestMost: as many symbols as there may be, and as many productions.
func TestMost(t *testing.T) {
	tokens := numbered(16, "token t# /x/; ")
	for s, count := range map[string]int{
		tokens + numbered(16, "n#: t#; "):                                               3,
		tokens + numbered(15, "n#: n@ | t#; ") + "n15: t15 | ;":                         1 + 16 + 16,
		tokens + numbered(15, "n#: t# n@ | t@; ") + "n15: n0 n15 t15;":                  1 + 15 + 15 + 16 + 3,
		tokens + "n0: " + numbered(15, "n@ t@ t# | ") + "; " + numbered(15, "n@: t#; "): 1 + 1 + 3*15 + 15,
		"s: " + numbered(39, "| ") + ";":                                                2,
		tokens + "s: " + strings.Repeat("t3 t2 t1 t3 s t15 t0 t9 | ", 39) + "t15;":      1 + 1 + 8 + 1,
	} {
		g := good(t, s)
		l := built(t, s, g)
		if len(l) != count || !auto.Right(g, l) {
			t.Errorf("%q: %d states, want %d", s, len(l), count)
		}
		defined(t, s, g, l)
		comeTo(t, s, g, l)
	}
}

// branches is a grammar with n states beside 0 and that of the start symbol: each is behind a text that no other one is behind.
func branches(t *testing.T, n int) api.Grammar {
	t.Helper()
	g := good(t, numbered(16, "token t# /x/; ")+"s: ;")
	g.Prods = nil
	for k := 0; n > 0; k++ {
		right := slices.Repeat([]int{16}, 8)
		right[0] = 1 + k%15
		count := min(n, 8)
		if k < 15 {
			right = right[:count]
		} else {
			// it begins as an earlier one, and goes off by its second symbol
			right[1] = k / 15
			count = min(n, 7)
			right = right[:count+1]
		}
		n -= count
		g.Prods = append(g.Prods, prod(17, right...))
	}
	if !check.Sound(g) {
		t.Fatalf("not sound: %v", g)
	}
	return g
}

// TestFull: just as many states as there may be, one more, and many more.
func TestFull(t *testing.T) {
	for _, n := range []int{1, 7, 8, 9, 119, 120, 121, 122, 127, 128, 200, 232, 233, 236, 237, 238} {
		g := branches(t, n)
		l := built(t, fmt.Sprint(n), g)
		if len(l) != n+2 {
			t.Errorf("%d: %d states", n, len(l))
		}
		defined(t, fmt.Sprint(n), g, l)
		comeTo(t, fmt.Sprint(n), g, l)
		if !auto.Right(g, l) || auto.Right(g, l[:n+1]) || auto.Right(g, append(copied(l), api.State{Next: l[n+1].Next})) {
			t.Errorf("%d: Right", n)
		}
	}
	just := branches(t, api.MaxStates-2)
	l := built(t, "just all", just)
	for _, n := range []int{api.MaxStates - 1, api.MaxStates, api.MaxStates + 1, 255, 256, 294, 295} {
		g := branches(t, n)
		if got, e := auto.Build(g); e != api.ErrFull || got != nil {
			t.Errorf("%d: %d states, %v", n, len(got), e)
		}
		if auto.Right(g, nil) || auto.Right(g, []api.State{}) || auto.Right(g, l) || auto.Right(g, append(copied(l), l[len(l)-1])) {
			t.Errorf("%d: right", n)
		}
		for _, c := range []struct {
			l, m []api.State
			g, h api.Grammar
		}{{l, l, just, g}, {l, l, g, just}, {nil, l, g, just}, {l, nil, just, g}, {nil, nil, g, g}} {
			if got, e := auto.Map(c.l, c.m, c.g, c.h); e != api.ErrArg || got != nil {
				t.Errorf("%d: mapped: %v, %v", n, got, e)
			}
		}
	}
}

// TestRight: what differs from an automaton in little isn't it, nor is it that of Map.
func TestRight(t *testing.T) {
	for s := range whats() {
		g := good(t, s)
		l := built(t, s, g)
		for range 2 {
			if !auto.Right(g, l) || !auto.Right(g, copied(l)) {
				t.Errorf("%q: not right", s)
			}
		}
		for what, wrong := range altered(g, l) {
			refused(t, s+": "+what, g, wrong, l)
		}
	}
}

// TestRightOfOther: the automaton of a grammar that differs in little.
func TestRightOfOther(t *testing.T) {
	l := built(t, whole, good(t, whole))
	for other, right := range map[string]bool{
		"s: t u c | a; t: t b | ; u: t | a s % b; v: u v c | v;": true,
		// a production less, more, in another place, changed, where the states have to do with it, and where nothing leads to it
		"s: t u c; t: t b | ; u: t | a s % b; v: u v c | v;":         false,
		"s: t u c | a | a; t: t b | ; u: t | a s % b; v: u v c | v;": false,
		"s: t u c | a; t:  | t b; u: t | a s % b; v: u v c | v;":     false,
		"s: t u b | a; t: t b | ; u: t | a s % b; v: u v c | v;":     false,
		"s: t u c | a; t: t b | ; u: t | a t % b; v: u v c | v;":     false,
		"s: t u c | a; t: t b | ; u: t c | a s % b; v: u v c | v;":   false,
		"s: t u c | a; t: t b | b; u: t | a s % b; v: u v c | v;":    false,
		"s: t u c | a; t: t b | ; u: t | a s % b; v: u v c;":         true,
		"s: t u c | a; t: t b | ; u: t | a s % b; v: u v c | v | a;": true,
		"s: t u c | a; t: t b | ; u: t | a s % b; v: v | u v c;":     true,
		"s: t u c | a; t: t b | ; u: t | a s % b; v: u v b | v;":     true,
		// a start symbol, symbols more and less, a rule that is left out
		"start u; s: t u c | a; t: t b | ; u: t | a s % b; v: u v c | v;":     false,
		"start s; s: t u c | a; t: t b | ; u: t | a s % b; v: u v c | v;":     true,
		"s: t u c | a; t: t b | ; u: t | a s % b; v: u v c | v; x: ;":         false,
		"s: t u c | a; t: t b | ; u: t | a s % b;":                            false,
		"token d /d/; s: t u c | a; t: t b | ; u: t | a s % b; v: u v c | v;": false,
		"skip d /d/; s: t u c | a; t: t b | ; u: t | a s % b; v: u v c | v;":  true,
		// names and levels
		"s: y u c | a; y: y b | ; u: y | a s % b; z: u z c | z;":                      true,
		"s: t u c | a; t: t b | ; u: t | a s; v: u v c | v;":                          true,
		"left a; right b; s: t u c | a % b; t: t b | ; u: t | a s % b; v: u v c | v;": true,
	} {
		if g := good(t, abc+other); auto.Right(g, l) != right {
			t.Errorf("%q: want %t", other, right)
		}
	}
	for other, right := range map[string]bool{
		"token a /x+/; skip w /y/; token b /z?/; token c /c/; ": true,
		"token c /a/; token a /b/; token b /c/; ":               false,
		"token a /a/; token w / /; token b /b/; token c /c/; ":  false,
	} {
		if g := good(t, other+strings.TrimPrefix(whole, abc)); auto.Right(g, l) != right {
			t.Errorf("%q: want %t", other, right)
		}
	}
}

// TestWalk: of automata; numbers stand for themselves.
func TestWalk(t *testing.T) {
	for s, want := range map[string][]struct {
		from int
		text string
		to   int
	}{
		"token a /a/; s: a s | ;": {{0, "", 0}, {3, "", 3}, {4, "", -1}, {-1, "", -1}, {0, "a", 1}, {0, "s", 2}, {0, "a a a a a a s", 3}, {1, "s", 3}, {1, "a a", 1}, {0, "s a", -1}, {0, "s s", -1}, {0, "a s s a", -1}, {2, "a", -1}, {3, "s", -1}, {4, "s", -1}, {-1, "a", -1}, {-1, "s", -1}},
		whole: {
			{0, "", 0}, {9, "", 9}, {10, "", -1}, {-1, "", -1}, {-2, "", -1},
			{0, "t u c", 9}, {0, "t u", 7}, {3, "u c", 9}, {0, "t b", 5}, {0, "t t b", 5}, {0, "t a s", 8}, {0, "t a t a t a t a t u c", 9}, {4, "t a", 4}, {4, "t t", 6},
			// nowhere at first, within, at last, and what would lead on behind
			{0, "b", -1}, {0, "u", -1}, {0, "v", -1}, {0, "b t u c", -1}, {0, "t c u", -1}, {0, "t u c c", -1}, {0, "t u v", -1}, {3, "c", -1}, {1, "a", -1}, {9, "s", -1},
			// the end, numbers below it, the last symbol, and those behind it
			{0, "$", -1}, {0, "t $", -1}, {0, "$ t", -1}, {2, "$", -1}, {0, "0", -1}, {0, "-1", -1}, {0, "t -1", -1}, {0, "-1 t", -1}, {0, "7", -1}, {0, "8", -1}, {0, "9", -1}, {0, "t 8", -1}, {0, "8 t", -1}, {0, "5", 3}, {0, "4", 2}, {0, "5 6 3", 9},
			{10, "t", -1}, {-1, "t", -1}, {11, "u", -1}, {999, "a", -1},
		},
		// the last symbol leads on
		"s: t s | ; t: t | ;": {{0, "t", 2}, {0, "2", 2}, {0, "2 2 2 1", 3}, {0, "3", -1}, {2, "s", 3}, {2, "t t t", 2}, {0, "t s t", -1}},
		"s: ;":                {{0, "s", 1}, {0, "1", 1}, {1, "s", -1}, {0, "s s", -1}, {1, "", 1}, {2, "", -1}},
	} {
		g := good(t, s)
		l := built(t, s, g)
		for _, c := range want {
			for range 2 {
				if got := auto.Walk(l, c.from, text(t, g, c.text)); got != c.to {
					t.Errorf("%q: from %d by %q: %d, want %d", s, c.from, c.text, got, c.to)
				}
			}
		}
		for _, n := range append(strange(), len(l), len(l)+1) {
			for _, sym := range [][]int{nil, {}, {0}, {1}, {1, 1}, {n}} {
				if got := auto.Walk(l, n, sym); got != -1 {
					t.Errorf("%q: from %d by %v: %d", s, n, sym, got)
				}
			}
		}
		for _, sym := range append(strange(), 0, symbols(g), symbols(g)+1) {
			for from := range l {
				for _, text := range [][]int{{sym}, {sym, 1}, {1, sym}, {symbols(g) - 1, sym}} {
					if got := auto.Walk(l, from, text); got != -1 {
						t.Errorf("%q: from %d by %v: %d", s, from, text, got)
					}
				}
			}
		}
	}
}

// walked is a state to which a text leads, told by what each list says of one symbol.
func walked(l []api.State, from int, text []int) int {
	switch {
	case from < 0 || from >= len(l):
		return -1
	case len(text) == 0:
		return from
	case text[0] < 0 || text[0] >= len(l[from].Next):
		return -1
	}
	return walked(l, l[from].Next[text[0]], text[1:])
}

// TestWalkAnyList: lists that are no automaton's, in which symbol 0 leads on too, and numbers name no state.
func TestWalkAnyList(t *testing.T) {
	for _, l := range [][]api.State{
		nil,
		{},
		{{}},
		{{}, {}},
		{{Next: []int{}}},
		{{Next: []int{0}}},
		{{Next: []int{1, 0}}, {Next: []int{0, 1}}},
		{{Kernel: list(t, "7,7"), Next: []int{1, 2, 3, 4, -1, -2, 0}}, {Next: []int{2}}, {Next: []int{-1, 1, 0, math.MaxInt}}},
		{{Next: []int{1, math.MinInt, 1 << 32, 1<<32 + 1, -1 << 32}}, {Next: []int{0, 0, 1, 2, -1}}},
		{{Next: []int{-1, 3}}, {Next: nil}, {Next: []int{3, 2, 1, 0}}, {Next: []int{2, 2}}},
	} {
		kept := copied(l)
		numbers := []int{-2, -1, 0, 1, 2, 3, 4, 7, 1 << 32, math.MaxInt, math.MinInt}
		for _, from := range numbers {
			texts := [][]int{nil}
			for n := 0; n < len(texts); n++ {
				want := walked(l, from, texts[n])
				if got := auto.Walk(l, from, texts[n]); got != want {
					t.Fatalf("%v: from %d by %v: %d, want %d", l, from, texts[n], got, want)
				}
				if len(texts[n]) < 3 {
					for _, sym := range numbers {
						texts = append(texts, append(slices.Clone(texts[n]), sym))
					}
				}
			}
		}
		if !sameStates(l, kept) {
			t.Errorf("changed: %v, want %v", l, kept)
		}
	}
}

// TestWalkFar: texts of any length.
func TestWalkFar(t *testing.T) {
	const many = 1 << 20
	l := built(t, "", good(t, "token a /a/; s: a s | ;"))
	far := slices.Repeat([]int{1}, many)
	for want, text := range map[int][]int{1: far, 3: append(slices.Clone(far), 2), -1: append(append(slices.Clone(far), 2), far...)} {
		if got := auto.Walk(l, 0, text); got != want {
			t.Errorf("%d, want %d", got, want)
		}
	}
	if got := auto.Walk(l, 2, far); got != -1 {
		t.Error(got)
	}
	ring := make([]api.State, many)
	for n := range ring {
		ring[n].Next = []int{(n + 1) % many}
	}
	if got := auto.Walk(ring, 7, make([]int, many+1)); got != 8 {
		t.Error(got)
	}
}
