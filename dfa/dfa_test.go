package dfa_test

import (
	"math"
	"slices"
	"strings"
	"testing"

	"topiary/api"
	"topiary/dfa"
)

// still is an automaton of n states that leads nowhere and accepts nothing.
func still(n int) api.DFA {
	var d api.DFA
	for range n {
		d.Next = append(d.Next, slices.Repeat([]int{-1}, 256))
		d.Accept = append(d.Accept, -1)
	}
	return d
}

// with is d, changed.
func with(d api.DFA, change func(d *api.DFA)) api.DFA {
	change(&d)
	return d
}

// lead makes a state lead to another one by a byte.
func lead(state int, b byte, to int) func(d *api.DFA) {
	return func(d *api.DFA) { d.Next[state][b] = to }
}

// accept makes a state accept a rule.
func accept(state, rule int) func(d *api.DFA) {
	return func(d *api.DFA) { d.Accept[state] = rule }
}

// rowLong makes a state's row n numbers long, each of them a state's.
func rowLong(state, n int) func(d *api.DFA) {
	return func(d *api.DFA) { d.Next[state] = make([]int, n) }
}

func rightOnes() map[string]api.DFA {
	return map[string]api.DFA{
		"one state": still(1), "two": still(2), "239": still(239), "240": still(240),
		"to itself": with(still(1), lead(0, 'a', 0)), "all to state 0": with(still(3), rowLong(2, 256)), "to the last": with(still(3), lead(0, 0, 2)),
		"to the last of 240": with(still(240), lead(239, 255, 239)), "accepts 0": with(still(2), accept(1, 0)), "accepts 16": with(still(2), accept(0, 16)),
		"accepts the greatest": with(still(2), accept(1, math.MaxInt)), "comes nowhere else": with(still(5), lead(4, 'a', 3)),
	}
}

func wrongOnes() map[string]api.DFA {
	return map[string]api.DFA{
		"nothing": {}, "no state": {Next: [][]int{}, Accept: []int{}}, "241 states": still(241), "very many": still(5000),
		"Next alone": {Next: still(1).Next}, "Accept alone": {Accept: []int{0}}, "one Accept fewer": {Next: still(2).Next, Accept: []int{0}}, "one more": {Next: still(2).Next, Accept: []int{0, 0, 0}},
		"240 and 241": {Next: still(240).Next, Accept: make([]int, 241)}, "241 and 240": {Next: still(241).Next, Accept: make([]int, 240)},
		"a row of none": with(still(1), rowLong(0, 0)), "a nil row": {Next: [][]int{nil}, Accept: []int{0}}, "a row of 1": with(still(1), rowLong(0, 1)),
		"a row of 255": with(still(1), rowLong(0, 255)), "a row of 257": with(still(1), rowLong(0, 257)), "a row of 512": with(still(1), rowLong(0, 512)),
		"the last row of 255": with(still(3), rowLong(2, 255)), "the last row of 257": with(still(3), rowLong(2, 257)), "a row between": with(still(3), rowLong(1, 0)),
		"to -2": with(still(1), lead(0, 'a', -2)), "to the least": with(still(1), lead(0, 'a', math.MinInt)), "to 1 of 1": with(still(1), lead(0, 'a', 1)), "to 3 of 3": with(still(3), lead(0, 'a', 3)),
		"to 240 of 240": with(still(240), lead(0, 'a', 240)), "to the greatest": with(still(2), lead(0, 'a', math.MaxInt)), "by byte 0": with(still(2), lead(0, 0, 2)), "by byte 255": with(still(2), lead(0, 255, 2)),
		"of the last": with(still(3), lead(2, 255, -2)), "of one between": with(still(3), lead(1, 128, 3)),
		"accepts -2": with(still(1), accept(0, -2)), "the last accepts -2": with(still(3), accept(2, -2)), "accepts the least": with(still(3), accept(1, math.MinInt)),
	}
}

func TestRight(t *testing.T) {
	for name, d := range rightOnes() {
		if !dfa.Right(d) {
			t.Errorf("%s: not right", name)
		}
	}
	for name, d := range wrongOnes() {
		if dfa.Right(d) {
			t.Errorf("%s: right", name)
		}
	}
}

// TestWrong: of an automaton that isn't right no text comes anywhere, not even the empty one.
func TestWrong(t *testing.T) {
	for name, d := range wrongOnes() {
		for _, s := range []string{"", "a", "b", "\x00", "\xff", "abc"} {
			if got := dfa.Go(d, s); got != -1 {
				t.Errorf("%s: Go %q = %d", name, s, got)
			}
			if got := dfa.Accepts(d, s); got != -1 {
				t.Errorf("%s: Accepts %q = %d", name, s, got)
			}
		}
	}
}

// ring has three states in a ring by a, ways out of it by bytes 0 and 255, and a state that nothing leads to.
func ring() api.DFA {
	d := still(5)
	for n := range 3 {
		d.Next[n]['a'] = (n + 1) % 3
	}
	d.Next[0]['z'], d.Next[1][0], d.Next[2][255] = 0, 3, 3
	d.Accept = []int{-1, 7, 0, math.MaxInt, 1}
	return d
}

func TestGoAndAccepts(t *testing.T) {
	d := ring()
	for s, want := range map[string][2]int{
		"": {0, -1}, "a": {1, 7}, "aa": {2, 0}, "aaa": {0, -1}, "aaaa": {1, 7}, "z": {0, -1}, "zza": {1, 7}, "az": {-1, -1},
		"a\x00": {3, math.MaxInt}, "aa\xff": {3, math.MaxInt}, "a\xff": {-1, -1}, "aa\x00": {-1, -1}, "\x00": {-1, -1}, "\xff": {-1, -1},
		"b": {-1, -1}, "ab": {-1, -1}, "aba": {-1, -1}, "baaa": {-1, -1}, "a\x00a": {-1, -1}, "A": {-1, -1}, "á": {-1, -1},
		strings.Repeat("a", 30000): {0, -1}, strings.Repeat("a", 30001): {1, 7}, "b" + strings.Repeat("a", 30000): {-1, -1},
	} {
		if got := dfa.Go(d, s); got != want[0] {
			t.Errorf("Go %.20q = %d, want %d", s, got, want[0])
		}
		if got := dfa.Accepts(d, s); got != want[1] {
			t.Errorf("Accepts %.20q = %d, want %d", s, got, want[1])
		}
	}
	if one := with(still(1), accept(0, 4)); dfa.Go(one, "") != 0 || dfa.Accepts(one, "") != 4 || dfa.Go(one, "a") != -1 || dfa.Accepts(one, "a") != -1 {
		t.Error("one state")
	}
	line := still(240)
	for n := range 239 {
		line.Next[n][n] = n + 1
	}
	line.Accept[239] = 3
	way := make([]byte, 239)
	for n := range way {
		way[n] = byte(n)
	}
	if s := string(way); dfa.Go(line, s) != 239 || dfa.Accepts(line, s) != 3 || dfa.Go(line, s[:238]) != 238 || dfa.Accepts(line, s[:238]) != -1 || dfa.Go(line, s+"a") != -1 {
		t.Error("240 states")
	}
}

// copied shares no memory with d.
func copied(d api.DFA) api.DFA {
	e := api.DFA{Accept: slices.Clone(d.Accept)}
	for _, row := range d.Next {
		e.Next = append(e.Next, slices.Clone(row))
	}
	return e
}

// same tells whether two are the same, nil and empty lists being one.
func same(d, e api.DFA) bool {
	return slices.Equal(d.Accept, e.Accept) && slices.EqualFunc(d.Next, e.Next, slices.Equal[[]int])
}

// TestLeftAsItWas: what is handed in isn't changed, spare room included (R4).
func TestLeftAsItWas(t *testing.T) {
	d := ring()
	d.Accept = append(d.Accept, 9)
	d.Next = append(d.Next, []int{9})
	d.Next[0] = append(d.Next[0], 9)
	want := copied(d)
	cut := api.DFA{Next: d.Next[:5], Accept: d.Accept[:5]}
	cut.Next[0] = cut.Next[0][:256]
	if !dfa.Right(cut) || dfa.Go(cut, "aa") != 2 || dfa.Accepts(cut, "aa") != 0 {
		t.Error("with room behind")
	}
	d.Next[0] = d.Next[0][:257]
	if !same(d, want) {
		t.Error("changed")
	}
}
