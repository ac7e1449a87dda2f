package edit_test

import (
	"math"
	"slices"
	"strings"
	"testing"
	"unsafe"

	"topiary/api"
	"topiary/edit"
)

func as(n int) string { return strings.Repeat("a", n) }

// shortTexts are all texts of a and b of at most n bytes.
func shortTexts(n int) []string {
	all := []string{""}
	for from := 0; n > 0; n-- {
		upTo := len(all)
		for _, s := range all[from:upTo] {
			all = append(all, s+"a", s+"b")
		}
		from = upTo
	}
	return all
}

// closeEdits are edits with places and lengths up to two beyond each bound of s.
func closeEdits(s string, texts []string) []api.Edit {
	var all []api.Edit
	for at := -2; at <= len(s)+2; at++ {
		for n := -2; n <= len(s)+2; n++ {
			for _, text := range texts {
				all = append(all, api.Edit{At: at, Len: n, Text: text})
			}
		}
	}
	return all
}

// byBytes makes what e makes, byte by byte, as a second way to the same text.
func byBytes(s string, e api.Edit) string {
	var made []byte
	for i := 0; i <= len(s); i++ {
		if i == e.At {
			made = append(made, e.Text...)
		}
		if i < len(s) && (i < e.At || i >= e.At+e.Len) {
			made = append(made, s[i])
		}
	}
	return string(made)
}

// wrongEdits don't fit a text of three bytes.
func wrongEdits() []api.Edit {
	return []api.Edit{
		{At: -1}, {At: -1, Len: 1}, {At: -1, Len: 4}, {Len: -1}, {At: 3, Len: -1}, {At: 1, Len: -1, Text: "x"},
		{At: 4}, {At: 4, Len: -1}, {At: 3, Len: 1}, {At: 2, Len: 2}, {Len: 4}, {At: 0, Len: 4, Text: "abcd"},
		{At: math.MaxInt}, {Len: math.MaxInt}, {At: 1, Len: math.MaxInt}, {At: math.MaxInt, Len: 1},
		{At: math.MaxInt, Len: math.MaxInt}, {At: math.MinInt}, {Len: math.MinInt},
		{At: math.MinInt, Len: math.MinInt}, {At: math.MaxInt, Len: math.MinInt}, {At: math.MinInt, Len: math.MaxInt},
	}
}

// shares tells whether two texts stand, in part, in the same memory.
func shares(a, b string) bool {
	if a == "" || b == "" {
		return false
	}
	from, to := uintptr(unsafe.Pointer(unsafe.StringData(a))), uintptr(unsafe.Pointer(unsafe.StringData(b)))
	return from < to+uintptr(len(b)) && to < from+uintptr(len(a))
}

func TestApply(t *testing.T) {
	for _, c := range []struct {
		s    string
		e    api.Edit
		want string
	}{
		{"abc", api.Edit{At: 1, Len: 1, Text: "xy"}, "axyc"},
		{"abc", api.Edit{}, "abc"},
		{"abc", api.Edit{Text: "x"}, "xabc"},
		{"abc", api.Edit{At: 3, Text: "d"}, "abcd"},
		{"abc", api.Edit{At: 3}, "abc"},
		{"abc", api.Edit{At: 2, Len: 1}, "ab"},
		{"abc", api.Edit{Len: 3, Text: "z"}, "z"},
		{"abc", api.Edit{Len: 3}, ""},
		{"", api.Edit{}, ""},
		{"", api.Edit{Text: "x"}, "x"},
		{"a\x00\xff\n", api.Edit{At: 1, Len: 2, Text: "\xc3"}, "a\xc3\n"},
		{"\u00e9", api.Edit{At: 1, Len: 1}, "\xc3"},
	} {
		if got, f := edit.Apply(c.s, c.e); got != c.want || f != api.OK {
			t.Errorf("Apply(%q, %v) = %q, %d; want %q", c.s, c.e, got, f, c.want)
		}
	}
}

func TestApplyOfWrongEdits(t *testing.T) {
	for _, e := range wrongEdits() {
		if got, f := edit.Apply("abc", e); got != "" || f != api.ErrRange {
			t.Errorf("Apply(abc, %v) = %q, %d", e, got, f)
		}
	}
	if got, f := edit.Apply("", api.Edit{At: 1}); got != "" || f != api.ErrRange {
		t.Error(got, f)
	}
	if got, f := edit.Apply("", api.Edit{Len: 1}); got != "" || f != api.ErrRange {
		t.Error(got, f)
	}
}

func TestApplyAtTheLimit(t *testing.T) {
	for _, c := range []struct {
		s    string
		e    api.Edit
		made int
		f    api.Errno
	}{
		{"", api.Edit{Text: as(4000)}, 4000, api.OK},
		{"", api.Edit{Text: as(4001)}, 0, api.ErrFull},
		{as(3999), api.Edit{At: 3999, Text: "a"}, 4000, api.OK},
		{as(4000), api.Edit{At: 4000, Text: "a"}, 0, api.ErrFull},
		{as(4000), api.Edit{}, 4000, api.OK},
		{as(4000), api.Edit{At: 7, Len: 2, Text: "aa"}, 4000, api.OK},
		{as(4000), api.Edit{At: 7, Len: 2, Text: "aaa"}, 0, api.ErrFull},
		{as(4001), api.Edit{}, 0, api.ErrFull},
		{as(4001), api.Edit{Len: 1}, 4000, api.OK},
		{as(4001), api.Edit{At: 4001, Len: 1}, 0, api.ErrRange},
		{as(9000), api.Edit{Len: 9000, Text: "a"}, 1, api.OK},
		{as(9000), api.Edit{Len: 4999}, 0, api.ErrFull},
		{"abc", api.Edit{At: 4, Text: as(4001)}, 0, api.ErrRange},
	} {
		got, f := edit.Apply(c.s, c.e)
		if got != as(c.made) || f != c.f {
			t.Errorf("Apply of %d bytes at %d, %d to %d: %d bytes, %d", len(c.s), c.e.At, c.e.Len, len(c.e.Text), len(got), f)
		}
		back, f := edit.Back(c.s, c.e)
		if f != c.f || f != api.OK && back != (api.Edit{}) {
			t.Errorf("Back of %d bytes at %d, %d to %d: %d", len(c.s), c.e.At, c.e.Len, len(c.e.Text), f)
		}
	}
}

func TestBack(t *testing.T) {
	for _, c := range []struct {
		s       string
		e, want api.Edit
	}{
		{"abc", api.Edit{At: 1, Len: 1, Text: "xy"}, api.Edit{At: 1, Len: 2, Text: "b"}},
		{"abc", api.Edit{At: 3, Text: "d"}, api.Edit{At: 3, Len: 1}},
		{"abc", api.Edit{Len: 3}, api.Edit{Text: "abc"}},
		{"abc", api.Edit{At: 1, Len: 1, Text: "b"}, api.Edit{At: 1, Len: 1, Text: "b"}},
		{"", api.Edit{}, api.Edit{}},
	} {
		if got, f := edit.Back(c.s, c.e); got != c.want || f != api.OK {
			t.Errorf("Back(%q, %v) = %v, %d; want %v", c.s, c.e, got, f, c.want)
		}
	}
	for _, e := range wrongEdits() {
		if got, f := edit.Back("abc", e); got != (api.Edit{}) || f != api.ErrRange {
			t.Errorf("Back(abc, %v) = %v, %d", e, got, f)
		}
	}
}

func TestAll(t *testing.T) {
	for _, c := range []struct {
		s    string
		l    []api.Edit
		want string
		n    int
		f    api.Errno
	}{
		{"abc", nil, "abc", 0, api.OK},
		{"abc", []api.Edit{}, "abc", 0, api.OK},
		{"", []api.Edit{{Text: "ab"}, {At: 1, Len: 1}, {At: 1, Text: "cd"}}, "acd", 3, api.OK},
		{"", []api.Edit{{Text: "ab"}, {At: 1, Len: 1}, {At: 5}, {Text: "x"}}, "a", 2, api.ErrRange},
		{"abc", []api.Edit{{At: 4}}, "abc", 0, api.ErrRange},
		{"abc", []api.Edit{{Len: 1}, {At: 2}, {At: 3}}, "bc", 2, api.ErrRange},
		{"abc", []api.Edit{{Len: 3}, {Text: as(4000)}, {Text: "a"}, {Len: 1}}, as(4000), 2, api.ErrFull},
		{"abc", []api.Edit{{Text: as(3998)}, {At: -1}}, "abc", 0, api.ErrFull},
		{"abc", []api.Edit{{At: -1}, {Text: as(3998)}}, "abc", 0, api.ErrRange},
		{as(4002), nil, as(4002), 0, api.OK},
		{as(4002), []api.Edit{{Len: 1}, {Len: 2}}, as(4002), 0, api.ErrFull},
		{as(4002), []api.Edit{{Len: 2}, {Len: 1}}, as(3999), 2, api.OK},
	} {
		got, n, f := edit.All(c.s, c.l)
		if got != c.want || n != c.n || f != c.f {
			t.Errorf("All of %d bytes: %d bytes, %d, %d; want %d, %d, %d", len(c.s), len(got), n, f, len(c.want), c.n, c.f)
		}
	}
}

func TestDiff(t *testing.T) {
	for _, c := range []struct {
		a, b string
		want api.Edit
	}{
		{"abcabc", "abc", api.Edit{At: 3, Len: 3}},
		{"abc", "abcabc", api.Edit{At: 3, Text: "abc"}},
		{"abc", "abc", api.Edit{At: 3}},
		{"", "", api.Edit{}},
		{"", "x", api.Edit{Text: "x"}},
		{"x", "", api.Edit{Len: 1}},
		{"aXb", "aYZb", api.Edit{At: 1, Len: 1, Text: "YZ"}},
		{"aa", "aaa", api.Edit{At: 2, Text: "a"}},
		{"aaa", "aa", api.Edit{At: 2, Len: 1}},
		{"aba", "ababa", api.Edit{At: 3, Text: "ba"}},
		{"ababa", "aba", api.Edit{At: 3, Len: 2}},
		{"abab", "abaab", api.Edit{At: 3, Text: "a"}},
		{"xaby", "xabaaby", api.Edit{At: 3, Text: "aab"}},
		{"xay", "bay", api.Edit{Len: 1, Text: "b"}},
		{"abc", "xyz", api.Edit{Len: 3, Text: "xyz"}},
		{"a\x00b", "a\xffb", api.Edit{At: 1, Len: 1, Text: "\xff"}},
		{"\u00e9", "\u00e8", api.Edit{At: 1, Len: 1, Text: "\xa8"}},
		{as(5000), as(5002), api.Edit{At: 5000, Text: "aa"}},
		{as(5000) + "b", "b" + as(5000), api.Edit{Len: 5001, Text: "b" + as(5000)}},
		{"b" + as(5000), as(5001), api.Edit{Len: 1, Text: "a"}},
	} {
		if got := edit.Diff(c.a, c.b); got != c.want {
			t.Errorf("Diff of %d and %d bytes: at %d, %d, %d bytes; want at %d, %d, %d", len(c.a), len(c.b), got.At, got.Len, len(got.Text), c.want.At, c.want.Len, len(c.want.Text))
		}
	}
}

// longestEnds tells by trying all lengths what Diff may spare.
func longestEnds(a, b string) (front, behind int) {
	for n := 0; n <= min(len(a), len(b)); n++ {
		if a[:n] == b[:n] {
			front = n
		}
	}
	a, b = a[front:], b[front:]
	for n := 0; n <= min(len(a), len(b)); n++ {
		if a[len(a)-n:] == b[len(b)-n:] {
			behind = n
		}
	}
	return front, behind
}

func TestDiffOfAllShortTexts(t *testing.T) {
	texts := shortTexts(6)
	for _, a := range texts {
		for _, b := range texts {
			front, behind := longestEnds(a, b)
			want := api.Edit{At: front, Len: len(a) - front - behind, Text: b[front : len(b)-behind]}
			got := edit.Diff(a, b)
			if got != want {
				t.Fatalf("Diff(%q, %q) = %v; want %v", a, b, got, want)
			}
			if made, f := edit.Apply(a, got); made != b || f != api.OK {
				t.Fatalf("Apply of Diff(%q, %q) = %q, %d", a, b, made, f)
			}
		}
	}
}

func TestIdle(t *testing.T) {
	for _, c := range []struct {
		s    string
		e    api.Edit
		want bool
	}{
		{"abc", api.Edit{At: 1, Len: 1, Text: "b"}, true},
		{"abc", api.Edit{At: 1, Len: 1, Text: "c"}, false},
		{"abc", api.Edit{At: 3}, true},
		{"abc", api.Edit{Len: 3, Text: "abc"}, true},
		{"abc", api.Edit{At: 1}, true},
		{"aaa", api.Edit{At: 1, Text: "a"}, false},
		{"aaa", api.Edit{At: 1, Len: 1}, false},
		{"aaa", api.Edit{At: 1, Len: 1, Text: "aa"}, false},
		{"", api.Edit{}, true},
		{"", api.Edit{Text: "a"}, false},
		{"abc", api.Edit{At: 9}, false},
		{"abc", api.Edit{At: 3, Len: 1, Text: ""}, false},
		{as(4001), api.Edit{}, true},
		{as(4001), api.Edit{At: 4000, Len: 1, Text: "a"}, true},
		{as(4001), api.Edit{At: 4001, Len: 1, Text: "a"}, false},
		{as(4001), api.Edit{Len: 1, Text: "b"}, false},
	} {
		if got := edit.Idle(c.s, c.e); got != c.want {
			t.Errorf("Idle of %d bytes, %v: %v", len(c.s), c.e, got)
		}
	}
	for _, e := range wrongEdits() {
		if edit.Idle("abc", e) {
			t.Errorf("Idle(abc, %v)", e)
		}
	}
}

func TestBoth(t *testing.T) {
	for _, c := range []struct {
		s          string
		e, f, want api.Edit
		err        api.Errno
	}{
		{"abc", api.Edit{Text: "x"}, api.Edit{Len: 1}, api.Edit{At: 3}, api.OK},
		{"abc", api.Edit{At: 1, Len: 1, Text: "x"}, api.Edit{At: 2, Len: 1, Text: "y"}, api.Edit{At: 1, Len: 2, Text: "xy"}, api.OK},
		{"abc", api.Edit{At: 3, Text: "d"}, api.Edit{At: 4, Text: "e"}, api.Edit{At: 3, Text: "de"}, api.OK},
		{"abc", api.Edit{At: 3, Text: "d"}, api.Edit{Text: "e"}, api.Edit{Len: 3, Text: "eabcd"}, api.OK},
		{"aa", api.Edit{Text: "a"}, api.Edit{Text: "a"}, api.Edit{At: 2, Text: "aa"}, api.OK},
		{"abc", api.Edit{Len: 3}, api.Edit{}, api.Edit{Len: 3}, api.OK},
		{"abc", api.Edit{At: 4}, api.Edit{}, api.Edit{}, api.ErrRange},
		{"abc", api.Edit{}, api.Edit{At: 4}, api.Edit{}, api.ErrRange},
		{"abc", api.Edit{Len: 1}, api.Edit{At: 3}, api.Edit{}, api.ErrRange},
		{"abc", api.Edit{Text: as(3998)}, api.Edit{At: -1}, api.Edit{}, api.ErrFull},
		{"abc", api.Edit{At: -1}, api.Edit{Text: as(4001)}, api.Edit{}, api.ErrRange},
		{"abc", api.Edit{At: 3, Text: as(3997)}, api.Edit{Text: "a"}, api.Edit{}, api.ErrFull},
		{"abc", api.Edit{Text: as(3998)}, api.Edit{Len: 3998}, api.Edit{}, api.ErrFull},
		{"abc", api.Edit{At: 3, Text: as(3996)}, api.Edit{At: 3, Text: "x"}, api.Edit{At: 3, Text: "x" + as(3996)}, api.OK},
		{as(4002), api.Edit{Len: 2}, api.Edit{}, api.Edit{At: 4000, Len: 2}, api.OK},
	} {
		if got, err := edit.Both(c.s, c.e, c.f); got != c.want || err != c.err {
			t.Errorf("Both of %d bytes: at %d, %d, %d bytes, %d; want at %d, %d, %d, %d", len(c.s), got.At, got.Len, len(got.Text), err, c.want.At, c.want.Len, len(c.want.Text), c.err)
		}
	}
}

func TestBothOfAllShortEdits(t *testing.T) {
	texts := shortTexts(1)
	for _, s := range shortTexts(2) {
		for _, e := range closeEdits(s, texts) {
			half, first := edit.Apply(s, e)
			for _, f := range closeEdits(half, texts) {
				got, err := edit.Both(s, e, f)
				whole, want := edit.Apply(half, f)
				if first != api.OK {
					want = first
				}
				if err != want || err != api.OK && got != (api.Edit{}) {
					t.Fatalf("Both(%q, %v, %v) = %v, %d", s, e, f, got, err)
				}
				if err == api.OK && got != edit.Diff(s, whole) {
					t.Fatalf("Both(%q, %v, %v) = %v", s, e, f, got)
				}
			}
		}
	}
}

func TestThereAndBack(t *testing.T) {
	texts := shortTexts(2)
	for _, s := range shortTexts(4) {
		for _, e := range closeEdits(s, texts) {
			made, f := edit.Apply(s, e)
			back, g := edit.Back(s, e)
			if e.At < 0 || e.Len < 0 || e.At+e.Len > len(s) {
				if f != api.ErrRange || g != api.ErrRange || made != "" || back != (api.Edit{}) || edit.Idle(s, e) {
					t.Fatalf("%q, %v: %q, %d, %v, %d", s, e, made, f, back, g)
				}
				continue
			}
			if f != api.OK || g != api.OK || made != byBytes(s, e) || edit.Idle(s, e) != (made == s) {
				t.Fatalf("%q, %v: %q, %d, %d", s, e, made, f, g)
			}
			if again, f := edit.Apply(made, back); again != s || f != api.OK {
				t.Fatalf("%q, %v, back by %v: %q, %d", s, e, back, again, f)
			}
			if there, f := edit.Back(made, back); there != e || f != api.OK {
				t.Fatalf("%q, %v, Back of Back: %v, %d", s, e, there, f)
			}
		}
	}
}

func TestThereAndBackAtTheLimit(t *testing.T) {
	a, b := "x"+as(3998)+"y", "x"+as(1999)+"z"+as(1999)
	e := edit.Diff(a, b)
	made, f := edit.Apply(a, e)
	if made != b || f != api.OK {
		t.Fatal(len(made), f)
	}
	back, f := edit.Back(a, e)
	if f != api.OK {
		t.Fatal(f)
	}
	if there, f := edit.Back(b, back); there != e || f != api.OK {
		t.Error(there, f)
	}
	if got, f := edit.Apply("a", edit.Diff("a", as(4001))); got != "" || f != api.ErrFull {
		t.Error(len(got), f)
	}
}

// TestNewMemory holds the promise that no answer stands in an argument's memory.
func TestNewMemory(t *testing.T) {
	s, text := strings.Clone("abc"), strings.Clone("xy")
	for _, e := range []api.Edit{{}, {At: 3}, {Len: 3}, {At: 1, Len: 2}, {Len: 2}, {Len: 3, Text: text}, {At: 1, Len: 1, Text: text}} {
		made, _ := edit.Apply(s, e)
		back, _ := edit.Back(s, e)
		all, _, _ := edit.All(s, []api.Edit{e})
		refused, _, _ := edit.All(s, []api.Edit{{At: 9}, e})
		both, _ := edit.Both(s, e, api.Edit{})
		for _, got := range []string{made, back.Text, all, refused, both.Text} {
			if shares(got, s) || shares(got, text) {
				t.Errorf("%v: %q shares an argument's memory", e, got)
			}
		}
	}
	empty, _ := edit.Apply("", api.Edit{Text: text})
	none, _, _ := edit.All(s, nil)
	if shares(empty, text) || shares(none, s) || shares(edit.Diff("", text).Text, text) || shares(edit.Diff("b", s).Text, s) {
		t.Error("an answer shares an argument's memory")
	}
}

// TestHandedInStays holds the promise that a list, spare room included, isn't changed, and that the same call answers the same again.
func TestHandedInStays(t *testing.T) {
	room := []api.Edit{{Text: "ab"}, {At: 1, Len: 1}, {At: 5}, {At: 7, Len: 8, Text: "z"}}
	was := slices.Clone(room)
	for range 2 {
		if s, n, f := edit.All("", room[:3]); s != "a" || n != 2 || f != api.ErrRange {
			t.Error(s, n, f)
		}
		if !slices.Equal(room, was) {
			t.Error(room)
		}
	}
}
