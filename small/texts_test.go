package small_test

import (
	"slices"
	"strconv"
	"testing"

	"topiary/api"
	"topiary/dfa"
	"topiary/small"
)

// texts are all of at most so many of these bytes, the shorter ones ahead, then byte by byte.
func texts(bytes string, most int) []string {
	out := []string{""}
	for from, n := 0, 0; n < most; n++ {
		end := len(out)
		for _, s := range out[from:end] {
			for i := range len(bytes) {
				out = append(out, s+bytes[i:i+1])
			}
		}
		from = end
	}
	return out
}

// does tells what d does behind a text: by which rule it accepts that text with each of these behind it.
func does(d api.DFA, s string, behind []string) string {
	var out []byte
	for _, t := range behind {
		out = strconv.AppendInt(out, int64(dfa.Accepts(d, s+t)), 10)
		out = append(out, ' ')
	}
	return string(out)
}

// byTexts tells the smallest automaton by texts alone, gone through in their order: each is a state's, if what d does behind it is neither nothing nor what it does behind one ahead. Two states of at most n in all part by a text of fewer than n bytes.
func byTexts(d api.DFA, bytes string) api.DFA {
	behind := texts(bytes, len(d.Next))
	dead := does(still(1), "", behind)
	numbers := map[string]int{}
	var firsts []string
	for _, s := range texts(bytes, len(d.Next)-1) {
		what := does(d, s, behind)
		if _, met := numbers[what]; !met && (what != dead || s == "") {
			numbers[what] = len(firsts)
			firsts = append(firsts, s)
		}
	}
	out := still(len(firsts))
	for n, s := range firsts {
		out.Accept[n] = dfa.Accepts(d, s)
		for i := range len(bytes) {
			if what := does(d, s+bytes[i:i+1], behind); what != dead {
				out.Next[n][bytes[i]] = numbers[what]
			}
		}
	}
	return out
}

// every are all automata of so many states that lead on by these bytes alone, and accept rules below so many.
func every(states int, bytes string, rules int) []api.DFA {
	all := []api.DFA{still(states)}
	branch := func(from, below int, set func(d *api.DFA, n int)) {
		var next []api.DFA
		for _, d := range all {
			for n := from; n < below; n++ {
				e := copied(d)
				set(&e, n)
				next = append(next, e)
			}
		}
		all = next
	}
	for state := range states {
		branch(-1, rules, func(d *api.DFA, n int) { d.Accept[state] = n })
		for i := range len(bytes) {
			branch(-1, states, func(d *api.DFA, n int) { d.Next[state][bytes[i]] = n })
		}
	}
	return all
}

// shortestByTexts goes through all texts in their order.
func shortestByTexts(d api.DFA, rule int, bytes string) (string, api.Errno) {
	for _, s := range texts(bytes, len(d.Next)-1) {
		if dfa.Accepts(d, s) == rule {
			return s, api.OK
		}
	}
	return "", api.ErrNone
}

// checkOne holds one automaton's answers against those by texts.
func checkOne(t *testing.T, d api.DFA, bytes string) {
	t.Helper()
	m := made(t, d)
	if want := byTexts(d, bytes); !same(m, want) {
		t.Errorf("Make of %q = %q, want %q", short(d), short(m), short(want))
	}
	if !same(made(t, m), m) {
		t.Errorf("Make of Make of %q", short(d))
	}
	if !small.Alike(d, m) || !small.Alike(m, d) || !small.Alike(d, d) {
		t.Errorf("%q and its smallest aren't alike", short(d))
	}
	for rule := range 3 {
		s, e := small.Shortest(d, rule)
		if text, err := shortestByTexts(d, rule, bytes); s != text || e != err {
			t.Errorf("Shortest of %q by %d = %q, %d, want %q, %d", short(d), rule, s, e, text, err)
		}
	}
}

// checkPairs holds Alike, and whether Make is the same, against what both do for all texts that could part them.
func checkPairs(t *testing.T, l []api.DFA, bytes string, step int) {
	t.Helper()
	var do []string
	var smallest []api.DFA
	most := 0
	for _, d := range l {
		most = max(most, len(d.Next))
	}
	behind := texts(bytes, 2*most)
	for _, d := range l {
		do = append(do, does(d, "", behind))
		smallest = append(smallest, made(t, d))
	}
	for n := range l {
		for m := n % step; m < len(l); m += step {
			want := do[n] == do[m]
			if small.Alike(l[n], l[m]) != want {
				t.Errorf("Alike of %q and %q: not %t", short(l[n]), short(l[m]), want)
			}
			if same(smallest[n], smallest[m]) != want {
				t.Errorf("Make of %q and %q: the same, but not %t", short(l[n]), short(l[m]), want)
			}
		}
	}
}

func TestEveryOfTwo(t *testing.T) {
	l := every(2, "ab", 2)
	if len(l) != 729 {
		t.Fatal(len(l))
	}
	for _, d := range l {
		checkOne(t, d, "ab")
	}
	checkPairs(t, l, "ab", 17)
	checkPairs(t, slices.Concat(every(1, "ab", 2), every(2, "b", 2)), "ab", 1)
}

func TestEveryOfThree(t *testing.T) {
	l := every(3, "a", 2)
	for _, d := range l {
		checkOne(t, d, "a")
	}
	checkPairs(t, l, "a", 41)
	checkPairs(t, slices.Concat(every(3, "a", 1), every(2, "a", 1), every(1, "a", 1)), "a", 5)
}

// dice are numbers that look thrown.
type dice uint64

func (d *dice) below(n int) int {
	*d = *d*6364136223846793005 + 1442695040888963407
	return int(uint64(*d)>>33) % n
}

// thrown is an automaton of so many states by these bytes, of which few accept.
func (d *dice) thrown(states int, bytes string) api.DFA {
	a := still(states)
	for n := range states {
		for i := range len(bytes) {
			a.Next[n][bytes[i]] = d.below(states+1) - 1
		}
		if d.below(3) == 0 {
			a.Accept[n] = d.below(2)
		}
	}
	return a
}

func TestThrown(t *testing.T) {
	var d dice = 9
	for range 400 {
		checkOne(t, d.thrown(1+d.below(5), "\x00\xff"), "\x00\xff")
	}
	var l []api.DFA
	for range 30 {
		one := d.thrown(1+d.below(3), "ab")
		l = append(l, one, back(one), doubled(one))
	}
	checkPairs(t, l, "ab", 1)
}

// TestThrownMany: of greater ones what Make answers is held against what they do for texts that are thrown, and against ones that do the same.
func TestThrownMany(t *testing.T) {
	var d dice = 4
	for range 12 {
		one := d.thrown(100+d.below(21), "abc")
		m := made(t, one)
		for name, other := range map[string]api.DFA{"turned round": back(one), "doubled": doubled(one), "doubled, turned round": back(doubled(one))} {
			if !same(made(t, other), m) || !small.Alike(one, other) || !small.Alike(other, one) || !small.Alike(m, other) {
				t.Error(name)
			}
		}
		for range 300 {
			var s []byte
			for range d.below(40) {
				s = append(s, "abc"[d.below(3)])
			}
			if got, want := dfa.Accepts(m, string(s)), dfa.Accepts(one, string(s)); got != want {
				t.Errorf("%q: %d, want %d", s, got, want)
			}
		}
		checkKinds(t, m)
	}
}

// checkKinds: no two states of m are alike, as each is state 0 of an automaton that does what it does; none but state 0 is dead.
func checkKinds(t *testing.T, m api.DFA) {
	t.Helper()
	from := func(n int) api.DFA {
		e := copied(m)
		swap := func(to int) int {
			switch to {
			case 0:
				return n
			case n:
				return 0
			}
			return to
		}
		for state, row := range m.Next {
			e.Accept[swap(state)] = m.Accept[state]
			for b, to := range row {
				e.Next[swap(state)][b] = swap(to)
			}
		}
		return e
	}
	for n := range m.Next {
		if n > 0 && small.Alike(from(n), still(1)) {
			t.Error("dead:", n)
		}
		if other := (n + 1) % len(m.Next); other != n && small.Alike(from(n), from(other)) {
			t.Error("alike:", n, other)
		}
	}
}
