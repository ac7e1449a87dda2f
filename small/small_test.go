package small_test

import (
	"math"
	"slices"
	"strconv"
	"strings"
	"sync"
	"testing"

	"topiary/api"
	"topiary/dfa"
	"topiary/regex"
	"topiary/small"
)

// still is an automaton of n states that leads nowhere and accepts nothing.
func still(n int) api.DFA {
	var d api.DFA
	for range n {
		d.Next = append(d.Next, slices.Repeat([]int{-1}, 256))
		d.Accept = append(d.Accept, -1)
	}
	return d
}

// with is d, changed.
func with(d api.DFA, changes ...func(d *api.DFA)) api.DFA {
	for _, change := range changes {
		change(&d)
	}
	return d
}

// lead makes a state lead to another one by a byte.
func lead(state int, b byte, to int) func(d *api.DFA) {
	return func(d *api.DFA) { d.Next[state][b] = to }
}

// accept makes a state accept a rule.
func accept(state, rule int) func(d *api.DFA) {
	return func(d *api.DFA) { d.Accept[state] = rule }
}

// rowLong makes a state's row n numbers long, each of them a state's.
func rowLong(state, n int) func(d *api.DFA) {
	return func(d *api.DFA) { d.Next[state] = make([]int, n) }
}

func wrongOnes() map[string]api.DFA {
	return map[string]api.DFA{
		"nothing": {}, "no state": {Next: [][]int{}, Accept: []int{}}, "241 states": still(241), "very many": still(5000),
		"Next alone": {Next: still(1).Next}, "Accept alone": {Accept: []int{0}}, "one Accept fewer": {Next: still(2).Next, Accept: []int{0}}, "one more": {Next: still(2).Next, Accept: []int{0, 0, 0}},
		"240 and 241": {Next: still(240).Next, Accept: make([]int, 241)}, "241 and 240": {Next: still(241).Next, Accept: make([]int, 240)},
		"a row of none": with(still(1), rowLong(0, 0)), "a nil row": {Next: [][]int{nil}, Accept: []int{0}}, "a row of 255": with(still(1), rowLong(0, 255)), "a row of 257": with(still(1), rowLong(0, 257)),
		"the last row of 255": with(still(3), rowLong(2, 255)), "the last row of 257": with(still(3), rowLong(2, 257)), "a row between": with(still(3), rowLong(1, 0)),
		"to -2": with(still(1), lead(0, 'a', -2)), "to the least": with(still(1), lead(0, 'a', math.MinInt)), "to 1 of 1": with(still(1), lead(0, 'a', 1)), "to 3 of 3": with(still(3), lead(0, 'a', 3)),
		"to 240 of 240": with(still(240), lead(0, 'a', 240)), "to the greatest": with(still(2), lead(0, 'a', math.MaxInt)), "by byte 0": with(still(2), lead(0, 0, 2)), "by byte 255": with(still(2), lead(0, 255, 2)),
		"of one that nothing leads to": with(still(3), lead(2, 255, -2)), "of one between": with(still(3), lead(1, 128, 3)),
		"accepts -2": with(still(1), accept(0, -2)), "the last accepts -2": with(still(3), accept(2, -2)), "accepts the least": with(still(3), accept(1, math.MinInt)),
	}
}

// built is the automaton of rules' texts, with blanks between.
func built(t *testing.T, texts string) api.DFA {
	t.Helper()
	var rules [][]api.Cell
	for _, s := range strings.Fields(texts) {
		c, _, e := regex.Parse(s)
		if e != api.OK {
			t.Fatalf("Parse(%q): %d", s, e)
		}
		rules = append(rules, c)
	}
	d, e := dfa.Build(rules)
	if e != api.OK {
		t.Fatalf("Build(%q): %d", texts, e)
	}
	return d
}

// made is Make of a right automaton.
func made(t *testing.T, d api.DFA) api.DFA {
	t.Helper()
	m, e := small.Make(d)
	if e != api.OK {
		t.Fatalf("Make: %d of %v", e, short(d))
	}
	return m
}

// short tells of each state what it accepts, and where it leads: "1 a-c>2 x>0", nothing of what leads nowhere.
func short(d api.DFA) []string {
	var out []string
	for n, row := range d.Next {
		s := strconv.Itoa(d.Accept[n])
		for b := 0; b < len(row); {
			end := b + 1
			for end < len(row) && row[end] == row[b] {
				end++
			}
			if row[b] >= 0 {
				s += " " + sign(b)
				if end > b+1 {
					s += "-" + sign(end-1)
				}
				s += ">" + strconv.Itoa(row[b])
			}
			b = end
		}
		out = append(out, s)
	}
	return out
}

// sign tells a byte: letters as they are, others as numbers.
func sign(b int) string {
	if 'a' <= b && b <= 'z' {
		return string(rune(b))
	}
	return strconv.Itoa(b)
}

// copied shares no memory with d.
func copied(d api.DFA) api.DFA {
	e := api.DFA{Accept: slices.Clone(d.Accept)}
	for _, row := range d.Next {
		e.Next = append(e.Next, slices.Clone(row))
	}
	return e
}

// same tells whether two are the same, nil and empty lists being one.
func same(d, e api.DFA) bool {
	return slices.Equal(d.Accept, e.Accept) && slices.EqualFunc(d.Next, e.Next, slices.Equal[[]int])
}

// line leads by a from each state to the next one, and accepts what is told at its end.
func line(n, rule int) api.DFA {
	d := still(n)
	for state := range n - 1 {
		d.Next[state]['a'] = state + 1
	}
	d.Accept[n-1] = rule
	return d
}

// ring leads by a from each state to the next one, from the last to state 0.
func ring(n int) api.DFA {
	d := line(n, -1)
	d.Next[n-1]['a'] = 0
	return d
}

func TestWrong(t *testing.T) {
	right := built(t, "a")
	for name, d := range wrongOnes() {
		if m, e := small.Make(d); e != api.ErrArg || len(m.Next) != 0 || len(m.Accept) != 0 {
			t.Errorf("%s: Make %d, %v", name, e, short(m))
		}
		if small.Alike(d, d) || small.Alike(d, right) || small.Alike(right, d) || small.Alike(d, still(1)) || small.Alike(still(1), d) {
			t.Errorf("%s: Alike", name)
		}
		for _, rule := range []int{math.MinInt, -2, -1, 0, 1, math.MaxInt} {
			if s, e := small.Shortest(d, rule); s != "" || e != api.ErrArg {
				t.Errorf("%s: Shortest by %d = %q, %d", name, rule, s, e)
			}
		}
	}
}

func TestMakeExamples(t *testing.T) {
	for texts, want := range map[string][]string{
		"a|b c": {"-1 a-b>1 c>2", "0", "1"}, // the chapter's own
		"":      {"-1"},
		// states that do the same, but have other spots
		"a|b":         {"-1 a-b>1", "0"},
		"ac|bc":       {"-1 a-b>1", "-1 c>2", "0"},
		"a|bc|dbc":    {"-1 a>1 b>2 d>3", "0", "-1 c>1", "-1 b>2"},
		"aa*|b":       {"-1 a>1 b>2", "0 a>1", "0"},
		"a+ a*":       {"1 a>1", "0 a>1"},
		"a* ()":       {"0 a>0"},
		"a|b a|c":     {"-1 a-b>1 c>2", "0", "1"},
		"[a-c] b":     {"-1 a-c>1", "0"},
		"(a|b)*abb":   {"-1 a>1 b>0", "-1 a>1 b>2", "-1 a>1 b>3", "0 a>1 b>0"},
		"[a-z]+ if":   {"-1 a-z>1", "0 a-z>1"},
		"if [a-z]+":   {"-1 a-h>1 i>2 j-z>1", "1 a-z>1", "1 a-e>1 f>3 g-z>1", "0 a-z>1"},
		"(a|b)*":      {"0 a-b>0"},
		"(aa|ba)*":    {"0 a-b>1", "-1 a>0"},
		"a? b?":       {"0 a>1 b>2", "0", "1"},
		"abc abd":     {"-1 a>1", "-1 b>2", "-1 c>3 d>4", "0", "1"},
		"zb yb ac ad": {"-1 a>1 y>2 z>3", "-1 c>4 d>5", "-1 b>6", "-1 b>7", "2", "3", "1", "0"},
		"zb|yb|ac|ad": {"-1 a>1 y-z>2", "-1 c-d>3", "-1 b>3", "0"},
		`\x00|\xff`:   {"-1 0>1 255>1", "0"},
	} {
		d := built(t, texts)
		m := made(t, d)
		if got := short(m); !slices.Equal(got, want) {
			t.Errorf("of %q: %q, want %q", texts, got, want)
		}
		if !dfa.Right(m) || !small.Alike(d, m) || !small.Alike(m, d) || !same(made(t, m), m) {
			t.Errorf("of %q: not right, not alike, or not its own smallest", texts)
		}
	}
}

// TestMakeByHand: automata that no rules have.
func TestMakeByHand(t *testing.T) {
	for name, c := range map[string]struct {
		d    api.DFA
		want []string
	}{
		"one state":                        {still(1), []string{"-1"}},
		"one that accepts":                 {with(still(1), accept(0, 5)), []string{"5"}},
		"one that accepts the greatest":    {with(still(1), accept(0, math.MaxInt)), []string{strconv.Itoa(math.MaxInt)}},
		"one that leads to itself":         {with(still(1), accept(0, 0), lead(0, 'a', 0)), []string{"0 a>0"}},
		"a dead state 0 that leads on":     {with(still(2), lead(0, 'a', 1), lead(1, 'b', 0)), []string{"-1"}},
		"a dead state 0 to itself":         {with(still(1), lead(0, 'a', 0)), []string{"-1"}},
		"dead, beside one that accepts":    {with(still(2), lead(0, 'a', 0), lead(1, 'a', 0), accept(1, 0)), []string{"-1"}},
		"a dead ring":                      {ring(240), []string{"-1"}},
		"to a dead state":                  {with(still(3), lead(0, 'a', 1), lead(0, 'b', 2), lead(2, 'a', 2), accept(1, 0)), []string{"-1 a>1", "0"}},
		"to a dead state ahead":            {with(still(3), lead(0, 'a', 1), lead(0, 'b', 2), lead(1, 'a', 1), accept(2, 0)), []string{"-1 b>1", "0"}},
		"one that accepts, to a dead one":  {with(still(2), lead(0, 'a', 1), lead(1, 'a', 1), accept(0, 0)), []string{"0"}},
		"back to a state 0 that isn't":     {with(still(2), lead(0, 'a', 1), lead(1, 'a', 0), accept(1, 0)), []string{"-1 a>1", "0 a>0"}},
		"never come to":                    {with(still(4), lead(0, 'a', 2), lead(1, 'a', 3), lead(3, 'a', 0), accept(2, 1), accept(1, 2), accept(3, 3)), []string{"-1 a>1", "1"}},
		"never come to, but alike":         {with(still(3), lead(0, 'a', 2), accept(2, 1), accept(1, 1)), []string{"-1 a>1", "1"}},
		"alike state 0":                    {with(still(2), lead(0, 'a', 1), lead(1, 'a', 0), accept(0, 3), accept(1, 3)), []string{"3 a>0"}},
		"other numbers of Accept":          {with(still(2), lead(0, 'a', 1), lead(1, 'a', 0), accept(0, 3), accept(1, 4)), []string{"3 a>1", "4 a>0"}},
		"by other bytes":                   {with(still(3), lead(0, 'a', 1), lead(0, 'b', 2), lead(1, 'a', 1), lead(2, 'b', 2), accept(1, 0), accept(2, 0)), []string{"-1 a>1 b>2", "0 a>1", "0 b>2"}},
		"numbered as met":                  {with(still(4), lead(0, 'a', 3), lead(0, 'b', 1), lead(3, 'a', 2), accept(1, 1), accept(2, 2), accept(3, 3)), []string{"-1 a>1 b>2", "3 a>3", "1", "2"}},
		"numbered by bytes 0 and 255":      {with(still(3), lead(0, 255, 1), lead(0, 0, 2), accept(1, 1), accept(2, 2)), []string{"-1 0>1 255>2", "2", "1"}},
		"state by state":                   {with(still(5), lead(0, 'a', 4), lead(0, 'b', 3), lead(4, 'z', 2), lead(3, 'a', 1), accept(1, 1), accept(2, 2)), []string{"-1 a>1 b>2", "-1 z>3", "-1 a>4", "2", "1"}},
		"a state met first, alike a later": {with(still(4), lead(0, 'a', 3), lead(0, 'b', 2), lead(0, 'c', 1), accept(1, 1), accept(2, 2), accept(3, 1)), []string{"-1 a>1 b>2 c>1", "1", "2"}},
		"all bytes to one":                 {with(still(2), rowLong(1, 256), rowLong(0, 256), accept(0, 0), accept(1, 0)), []string{"0 0-255>0"}},
		"parts by byte 255 alone":          {with(still(4), lead(0, 'a', 1), lead(0, 'b', 2), lead(1, 255, 3), accept(1, 0), accept(2, 0), accept(3, 0)), []string{"-1 a>1 b>2", "0 255>2", "0"}},
	} {
		m := made(t, c.d)
		if got := short(m); !slices.Equal(got, c.want) {
			t.Errorf("%s: %q, want %q", name, got, c.want)
		}
		if !dfa.Right(m) || !small.Alike(c.d, m) || !same(made(t, m), m) {
			t.Errorf("%s: not right, not alike, or not its own smallest", name)
		}
	}
}

// TestMakeMany: automata of MaxStates states.
func TestMakeMany(t *testing.T) {
	if got := short(made(t, still(240))); !slices.Equal(got, []string{"-1"}) {
		t.Error("240 that lead nowhere:", got)
	}
	if d := line(240, 0); !same(made(t, d), d) {
		t.Error("a line, which is its own smallest one, parts only by a text of 239 bytes")
	}
	d := ring(240)
	for n := range d.Accept {
		d.Accept[n] = n
	}
	if !same(made(t, d), d) {
		t.Error("a ring of which each accepts another rule")
	}
	for _, every := range []int{1, 2, 3, 60, 120, 240} {
		d := ring(240)
		for n := range d.Accept {
			if n%every == 0 {
				d.Accept[n] = 0
			}
		}
		want := ring(every)
		want.Accept[0] = 0
		if !same(made(t, d), want) || !small.Alike(d, want) {
			t.Error("a ring that accepts each", every)
		}
		d.Accept[239] = 7
		if m := made(t, d); !same(m, d) || small.Alike(d, want) {
			t.Error("a ring of which one accepts otherwise:", every, len(m.Next))
		}
	}
	for _, n := range []int{0, 1, 2, 57, 238, 239} {
		d := line(240, -1)
		d.Accept[n] = 0
		want := line(n+1, 0)
		if !same(made(t, d), want) {
			t.Error("a line that is dead behind", n)
		}
	}
}

// back turns the numbers of all states but 0 round, which changes nothing that d does.
func back(d api.DFA) api.DFA {
	last := len(d.Next) - 1
	to := func(n int) int {
		if n <= 0 {
			return n
		}
		return last + 1 - n
	}
	e := copied(d)
	for n, row := range d.Next {
		e.Accept[to(n)] = d.Accept[n]
		for b, next := range row {
			e.Next[to(n)][b] = to(next)
		}
	}
	return e
}

// doubled has each state twice, and by each byte leads to the other ones' copy in turn.
func doubled(d api.DFA) api.DFA {
	many := len(d.Next)
	e := still(2 * many)
	for n, row := range d.Next {
		for side := range 2 {
			e.Accept[n+side*many] = d.Accept[n]
			for b, next := range row {
				if next >= 0 {
					e.Next[n+side*many][b] = next + (b+side)%2*many
				}
			}
		}
	}
	return e
}

func TestAlike(t *testing.T) {
	texts := []string{"", "()", "a", "b", "a|b", "a*", "a+", "aa", "ab", "(ab)*", "a b", "b a", "a|b c", "[ab]", "(a|b)*abb", "aa|ba", "if [a-z]+", "[a-z]+ if", `\x00`, `\xff`, `[\x00-\xff]*`}
	alike := map[string]string{"a|b": "[ab]", "[ab]": "a|b"}
	for _, s := range texts {
		d := built(t, s)
		for _, other := range texts {
			partner, has := alike[s]
			want := s == other || has && partner == other
			e := built(t, other)
			if got := small.Alike(d, e); got != want {
				t.Errorf("%q and %q: %t", s, other, got)
			}
			if got := same(made(t, d), made(t, e)); got != want {
				t.Errorf("Make of %q and %q: %t", s, other, got)
			}
		}
		for name, e := range map[string]api.DFA{"itself": d, "turned round": back(d), "doubled": doubled(d), "both": back(doubled(d)), "its smallest": made(t, d), "with more": {Next: append(copied(d).Next, still(1).Next...), Accept: append(copied(d).Accept, 9)}} {
			if !small.Alike(d, e) || !small.Alike(e, d) || !same(made(t, d), made(t, e)) {
				t.Errorf("%q and %s", s, name)
			}
		}
	}
	if !small.Alike(still(1), still(240)) || !small.Alike(ring(240), still(1)) || !small.Alike(ring(239), ring(240)) {
		t.Error("dead ones")
	}
}

// TestAlikeButOne: of two that differ in what they do for one text alone.
func TestAlikeButOne(t *testing.T) {
	all := with(still(1), rowLong(0, 256), accept(0, 0))
	for _, n := range []int{1, 2, 3, 100, 239} {
		d := still(n + 1)
		for state := range n {
			d.Next[state] = slices.Repeat([]int{state + 1}, 256)
			d.Accept[state] = 0
		}
		d.Next[n] = slices.Repeat([]int{n}, 256)
		d.Accept[n] = 0
		if !small.Alike(d, all) || !small.Alike(all, d) {
			t.Error("all texts:", n)
		}
		d.Accept[n] = 1
		if small.Alike(d, all) || small.Alike(all, d) {
			t.Error("texts of that many bytes or more:", n)
		}
		d.Accept[n] = 0
		d.Next[n][255] = -1
		if small.Alike(d, all) || small.Alike(all, d) {
			t.Error("texts of more bytes, of which one is 255:", n)
		}
	}
	d := line(240, 0)
	if !small.Alike(d, copied(d)) || small.Alike(d, line(239, 0)) || small.Alike(d, line(240, 1)) || small.Alike(line(240, 1), d) {
		t.Error("a line")
	}
	for n := range 240 {
		for _, change := range []func(d *api.DFA){accept(n, 5), lead(n, 0, 0), lead(n, 255, 0), lead(n, 'a', n)} {
			e := with(copied(d), change)
			if small.Alike(d, e) || small.Alike(e, d) {
				t.Error("changed in state", n)
			}
		}
		if e := with(copied(d), lead(n, 'b', -1)); !small.Alike(d, e) {
			t.Error("changed to the same in state", n)
		}
	}
}

// TestAlikeManyPairs: two rings whose lengths share no part come to all pairs of their states.
func TestAlikeManyPairs(t *testing.T) {
	d, e := ring(240), ring(239)
	if !small.Alike(d, e) {
		t.Error("both accept nothing")
	}
	for _, f := range []api.DFA{d, e} {
		for n := range f.Accept {
			f.Accept[n] = 2
		}
	}
	if !small.Alike(d, e) || !small.Alike(e, d) {
		t.Error("both accept all")
	}
	d.Next[239]['b'], e.Next[238]['b'] = 0, 0
	if small.Alike(d, e) || small.Alike(e, d) {
		t.Error("one by b behind 239 bytes, one behind 238")
	}
}

func TestShortest(t *testing.T) {
	for texts, want := range map[string][]string{
		"a|b c": {"a", "c"}, "(b|a)c+ x": {"ac", "x"}, "ab a": {"ab", "a"}, "a*": {""}, "a+ a*": {"a", ""}, "() a": {"", "a"}, "zz|aaa": {"zz"}, "b|a|c": {"a"}, "ba|ab|aa|bb": {"aa"},
		"[b-d][b-d] [a-z]+": {"bb", "a"}, "[ab]+ [a-c]+ [a-d][a-d]": {"a", "c", "ad"}, `\x00 \xff`: {"\x00", "\xff"}, `\xff|\x00`: {"\x00"}, `[\x00-\xff]`: {"\x00"}, `\xff\xff|\xff\x80`: {"\xff\x80"},
		`[\x80-\xff][\x00-\x7f]`: {"\x80\x00"}, "(a|b)*abb": {"abb"}, "if [a-z]+": {"if", "a"}, "az|b.": {"az"}, "by|az": {"az"},
	} {
		d := built(t, texts)
		for rule, text := range want {
			for name, f := range map[string]api.DFA{"as built": d, "smallest": made(t, d), "turned round": back(d), "doubled": doubled(d)} {
				if s, e := small.Shortest(f, rule); s != text || e != api.OK {
					t.Errorf("of %q %s by %d: %q, %d", texts, name, rule, s, e)
				}
			}
		}
		for _, rule := range []int{len(want), 16, math.MaxInt} {
			if s, e := small.Shortest(d, rule); s != "" || e != api.ErrNone {
				t.Errorf("of %q by %d: %q, %d", texts, rule, s, e)
			}
		}
		for _, rule := range []int{-1, -2, math.MinInt} {
			if s, e := small.Shortest(d, rule); s != "" || e != api.ErrArg {
				t.Errorf("of %q by %d: %q, %d", texts, rule, s, e)
			}
		}
	}
	for _, texts := range []string{"a a", "[a-z]+ if", "a* ()"} {
		if s, e := small.Shortest(built(t, texts), 1); s != "" || e != api.ErrNone {
			t.Errorf("of %q, whose second rule is never the first: %q, %d", texts, s, e)
		}
	}
}

func TestShortestByHand(t *testing.T) {
	d := line(240, math.MaxInt)
	if s, e := small.Shortest(d, math.MaxInt); s != strings.Repeat("a", 239) || e != api.OK {
		t.Error("a line's end:", len(s), e)
	}
	d.Next[0]['b'], d.Next[238]['a'] = 238, -1
	d.Next[238][0] = 239
	if s, e := small.Shortest(d, math.MaxInt); s != "b\x00" || e != api.OK {
		t.Errorf("a way that is shorter: %q, %d", s, e)
	}
	d = with(still(2), accept(1, 0), accept(0, 3))
	if s, e := small.Shortest(d, 0); s != "" || e != api.ErrNone {
		t.Errorf("a state that nothing leads to: %q, %d", s, e)
	}
	if s, e := small.Shortest(d, 3); s != "" || e != api.OK {
		t.Errorf("the empty text: %q, %d", s, e)
	}
	if s, e := small.Shortest(still(240), 0); s != "" || e != api.ErrNone {
		t.Errorf("nothing: %q, %d", s, e)
	}
	if s, e := small.Shortest(ring(240), 0); s != "" || e != api.ErrNone {
		t.Errorf("a ring that accepts nothing: %q, %d", s, e)
	}
}

// TestKeepsNothing: what is handed in isn't changed, spare room included, and no answer shares memory with it, or with itself (R4).
func TestKeepsNothing(t *testing.T) {
	full := with(still(3), lead(0, 'a', 1), lead(0, 'b', 2), lead(1, 'a', 0), accept(1, 0), accept(2, 0))
	full.Accept = append(full.Accept, 9)
	full.Next = append(full.Next, []int{9})
	full.Next[0] = append(full.Next[0], 9)
	want := copied(full)
	d := api.DFA{Next: full.Next[:3], Accept: full.Accept[:3]}
	d.Next[0] = d.Next[0][:256]
	m := made(t, d)
	first := copied(m)
	if !small.Alike(d, d) || !small.Alike(d, m) {
		t.Error("with room behind: Alike")
	}
	if s, e := small.Shortest(d, 0); s != "a" || e != api.OK {
		t.Error("with room behind: Shortest", s, e)
	}
	again := made(t, m)
	for n := range m.Next {
		room := m.Next[n][:cap(m.Next[n])]
		for b := range room {
			room[b] = 77
		}
	}
	for n := range m.Accept[:cap(m.Accept)] {
		m.Accept[:cap(m.Accept)][n] = 77
	}
	clear(m.Next[:cap(m.Next)])
	full.Next[0] = full.Next[0][:257]
	if !same(full, want) {
		t.Error("what was handed in changed")
	}
	if full.Next[0] = full.Next[0][:256]; !same(again, first) || !same(made(t, d), first) {
		t.Error("an answer shares memory with another one")
	}
	for n := range again.Next {
		for b := range again.Next[n] {
			again.Next[n][b] = n
		}
	}
	for n, row := range again.Next {
		if slices.Max(row) != n || slices.Min(row) != n {
			t.Error("two rows of an answer share memory")
		}
	}
}

// TestAgain: the same is answered again, whoever asks meanwhile (R5).
func TestAgain(t *testing.T) {
	d, e := built(t, "(aa|ba)*c [a-z]+ [0-9]+"), built(t, "if [a-z]+ x|y")
	one, other := made(t, d), made(t, e)
	var all sync.WaitGroup
	for range 8 {
		all.Go(func() {
			for range 20 {
				m, _ := small.Make(d)
				n, _ := small.Make(e)
				s, _ := small.Shortest(d, 2)
				if !same(m, one) || !same(n, other) || !small.Alike(d, one) || small.Alike(d, e) || s != "0" {
					t.Error("otherwise")
				}
			}
		})
	}
	all.Wait()
}
