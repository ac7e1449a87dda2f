package lex_test

import (
	"slices"
	"strings"
	"testing"

	"topiary/api"
	"topiary/lex"
	"topiary/spots"
)

// comes tells the state to which a right automaton comes by a text, or -1.
func comes(d api.DFA, s string) int {
	state := 0
	for i := 0; i < len(s) && state >= 0; i++ {
		state = d.Next[state][s[i]]
	}
	return state
}

// byWords tells what One does as the chapter's words do: each length is tried, the greatest first; then each byte, whether it leads nowhere.
func byWords(d api.DFA, s string, at int) answer {
	out := none(len(s) + 1)
	for end := len(s); end > at; end-- {
		if state := comes(d, s[at:end]); state >= 0 && d.Accept[state] >= 0 {
			out = match(d.Accept[state], at, end-at, len(s)+1)
			break
		}
	}
	for end := at + 1; end <= len(s); end++ {
		if comes(d, s[at:end]) < 0 {
			out.seen = end
			break
		}
	}
	return out
}

// holdAll tells whether All and Seen of a right automaton and a text are what One tells from each end on.
func holdAll(t *testing.T, d api.DFA, s string) {
	t.Helper()
	l, at := cut(t, d, s)
	place := 0
	for _, row := range l {
		want := byWords(d, s, place)
		if want != match(row[0], row[1], row[2], row[3]) {
			t.Fatalf("of %v: %q: %v, want %v at %d", d, s, l, want, place)
		}
		place += row[2]
	}
	wantAt := place
	if place == len(s) {
		wantAt = -1
	} else if byWords(d, s, place).err != api.ErrNone {
		t.Fatalf("of %v: %q: %v, but a match at %d", d, s, l, place)
	}
	if at != wantAt {
		t.Fatalf("of %v: %q: %v, %d, want %d", d, s, l, at, wantAt)
	}
}

// everySmall goes through all automata of two states that lead by a and b alone, and accept rules 0 or 1.
func everySmall(f func(d api.DFA)) {
	for n := range 81 * 9 {
		d := still(2)
		for i, b := range []byte("abab") {
			d.Next[i/2][b] = n%3 - 1
			n /= 3
		}
		d.Accept[0], d.Accept[1] = n%3-1, n/3-1
		f(d)
	}
}

// TestEverySmall: at all automata of two states, all short texts and all places, the answers are as the words tell them.
func TestEverySmall(t *testing.T) {
	few := append(texts(3, "abc"), texts(6, "ab")[15:]...)
	met := map[api.Errno]int{}
	everySmall(func(d api.DFA) {
		for _, s := range few {
			for at := range len(s) + 1 {
				got, want := one(d, s, at), byWords(d, s, at)
				if got != want {
					t.Fatalf("One of %v: %q at %d: %v, want %v", d, s, at, got, want)
				}
				met[got.err]++
			}
			holdAll(t, d, s)
		}
	})
	if met[api.OK] < 1000 || met[api.ErrNone] < 1000 {
		t.Error("too few of one kind:", met)
	}
}

// lists are rules' texts, of which several fit the same, begin the same, or fit the empty text.
var lists = []string{
	"a", "a*", "()", "a ab b+", "b+ ab a", "a aab b", "a+b a", "a a+b b", "(ab)+ a b", "a b abab", "a b (ab)*c", "aa|b a", "[ab] ab c", "[^a]+ a", "a? b? c?", "ab|ba|c a",
	"a (a|b)*c b", "(a|b)*abb a b", "[a-c] [ab]+ a", ". ab", "a|ab|abc c", "aaa aa", "c [abc]bc a", "a+ a b+ b c", "cab ca c a b",
}

// TestFirstRule: of rules, the token is the longest text that one of them fits, by the first that fits it.
func TestFirstRule(t *testing.T) {
	few := texts(5, "abc")
	told := map[int]int{}
	for _, list := range lists {
		d := built(t, list)
		var all []api.Spots
		for _, c := range rules(t, list) {
			p, e := spots.Of(c)
			if e != api.OK {
				t.Fatal(list, e)
			}
			all = append(all, p)
		}
		fits := make(map[string]int)
		for _, s := range few {
			fits[s] = slices.IndexFunc(all, func(p api.Spots) bool { return spots.Fits(p, s) })
		}
		for _, s := range few {
			want := api.Token{}
			for long := 1; long <= len(s); long++ {
				if rule := fits[s[:long]]; rule >= 0 {
					want = api.Token{Rule: rule, Len: long}
				}
			}
			got, _, e := lex.One(d, s, 0)
			if got != want || (e == api.OK) != (want.Len > 0) {
				t.Fatalf("One of %q by %q: %v, %d, want %v", s, list, got, e, want)
			}
			if e == api.OK {
				told[got.Rule]++
			}
			holdAll(t, d, s)
		}
	}
	for _, rule := range []int{0, 1, 2} {
		if told[rule] < 100 {
			t.Error("too few by rule", rule, told[rule])
		}
	}
}

// TestCovered: tokens cover the text without a gap, up to the place.
func TestCovered(t *testing.T) {
	for _, list := range lists {
		d := built(t, list)
		for _, s := range texts(6, "abc") {
			l, at := lex.All(d, s)
			end := 0
			for _, token := range l {
				if token.At != end || token.Len < 1 {
					t.Fatalf("%q by %q: %v", s, list, l)
				}
				end += token.Len
			}
			if at == -1 && end != len(s) || at != -1 && (end != at || at >= len(s)) {
				t.Fatalf("%q by %q: %v, %d", s, list, l, at)
			}
		}
	}
}

// TestBehindSeen: whatever stands behind what was seen, the token and what was seen for it stay.
func TestBehindSeen(t *testing.T) {
	changed := 0
	for _, list := range lists {
		d := built(t, list)
		for _, s := range texts(4, "abc") {
			l, _ := cut(t, d, s)
			far := 0
			for i, row := range l {
				far = max(far, row[3])
				if row[3] > len(s) {
					continue // the end was seen: nothing stands behind it
				}
				for _, other := range []string{"", "a", "b", "c", "ab", "bca", "\x00\xff", s, strings.Repeat("abc", 20)} {
					if got := one(d, s[:row[3]]+other, row[1]); got != match(row[0], row[1], row[2], row[3]) {
						t.Fatalf("%q by %q: %v, with %q behind: %v", s, list, row, other, got)
					}
					if far > len(s) {
						continue
					}
					now, _ := cut(t, d, s[:far]+other)
					if len(now) <= i || !slices.Equal(now[:i+1], l[:i+1]) {
						t.Fatalf("%q by %q: %v, with %q behind %d: %v", s, list, l[:i+1], other, far, now)
					}
					changed++
				}
			}
		}
	}
	if changed < 1000 {
		t.Error("too few were changed:", changed)
	}
}

// TestSeenIsNoFarther: with the last that was seen left out, another end of the text could have been a longer match, unless what it had come to is dead.
func TestSeenIsNoFarther(t *testing.T) {
	for _, c := range []struct {
		rules, text string
		more        string
	}{
		{"a abcde", "abcdx", "e"}, {"a abcde", "abx", "cde"}, {"a abcde", "ax", "bcde"}, {"a abcde", "abcd", "e"}, {"a abcde", "a", "bcde"}, {"a+", "aab", "a"}, {"a+", "aa", "a"}, {"ab", "b", "ab"}, {"ab", "", "ab"}, {"ab", "a", "b"},
	} {
		d := built(t, c.rules)
		got := one(d, c.text, 0)
		other := one(d, c.text[:got.seen-1]+c.more, 0)
		if other.err != api.OK || other.token.Len <= got.token.Len || other.token.Len != got.seen-1+len(c.more) {
			t.Errorf("%q by %q: %v, with %q there: %v", c.text, c.rules, got, c.more, other)
		}
	}
}
