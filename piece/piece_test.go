package piece_test

import (
	"math"
	"strings"
	"sync"
	"testing"
	"unsafe"

	"topiary/api"
	"topiary/edit"
	"topiary/piece"
)

func as(n int) string { return strings.Repeat("a", n) }

func made(t *testing.T, s string) *piece.Text {
	t.Helper()
	x, f := piece.New(s)
	if x == nil || f != api.OK {
		t.Fatalf("New of %d bytes: %v, %d", len(s), x, f)
	}
	return x
}

// stands tells of x what can be told of it: its bytes, its length, its steps.
func stands(t *testing.T, x *piece.Text, s string, undo, redo int) {
	t.Helper()
	// The length is asked first, while the text may still stand in pieces.
	if n := x.Len(); n != len(s) {
		t.Fatalf("Len = %d, want %d", n, len(s))
	}
	if u, r := x.Steps(); u != undo || r != redo {
		t.Fatalf("Steps = %d, %d, want %d, %d", u, r, undo, redo)
	}
	for range 2 {
		if got := x.String(); got != s {
			t.Fatalf("String = %q, want %q", got, s)
		}
	}
	if n := x.Len(); n != len(s) {
		t.Fatalf("Len behind String = %d, want %d", n, len(s))
	}
}

func does(t *testing.T, got, want api.Errno) {
	t.Helper()
	if got != want {
		t.Fatalf("answered %d, want %d", got, want)
	}
}

// shares tells whether two texts stand, in part, in the same memory.
func shares(a, b string) bool {
	if a == "" || b == "" {
		return false
	}
	from, to := uintptr(unsafe.Pointer(unsafe.StringData(a))), uintptr(unsafe.Pointer(unsafe.StringData(b)))
	return from < to+uintptr(len(b)) && to < from+uintptr(len(a))
}

func TestNew(t *testing.T) {
	for _, s := range []string{"", "a", "ab\ncd", "\x00\xff\xc3", "\u00e9", as(api.MaxText - 1), as(api.MaxText)} {
		x := made(t, s)
		stands(t, x, s, 0, 0)
		does(t, x.Undo(), api.ErrNone)
		does(t, x.Redo(), api.ErrNone)
		stands(t, x, s, 0, 0)
	}
}

func TestNewBeyondTheLimit(t *testing.T) {
	for _, n := range []int{api.MaxText + 1, api.MaxText + 2, 3 * api.MaxText} {
		if x, f := piece.New(as(n)); x != nil || f != api.ErrFull {
			t.Errorf("New of %d bytes: %v, %d", n, x, f)
		}
	}
}

func TestTextsAreApart(t *testing.T) {
	x, y := made(t, "ab"), made(t, "ab")
	does(t, x.Edit(api.Edit{At: 1, Text: "x"}), api.OK)
	stands(t, x, "axb", 1, 0)
	stands(t, y, "ab", 0, 0)
}

func TestSlice(t *testing.T) {
	for _, s := range []string{"", "a", "abcde", "\x00\xff\n\xc3\xa9"} {
		x := made(t, s)
		for at := -2; at <= len(s)+2; at++ {
			for n := -2; n <= len(s)+2; n++ {
				want, f := "", api.ErrRange
				if at >= 0 && n >= 0 && at+n <= len(s) {
					want, f = s[at:at+n], api.OK
				}
				if got, g := x.Slice(at, n); got != want || g != f {
					t.Errorf("Slice(%d, %d) of %q = %q, %d; want %q, %d", at, n, s, got, g, want, f)
				}
			}
		}
		stands(t, x, s, 0, 0)
	}
}

func TestSliceFarBeyond(t *testing.T) {
	x := made(t, "abc")
	far := []int{math.MinInt, math.MinInt + 1, -1, 0, 1, 3, math.MaxInt - 3, math.MaxInt - 1, math.MaxInt}
	for _, at := range far {
		for _, n := range far {
			if at >= 0 && n >= 0 && at <= 3 && n <= 3-at {
				continue
			}
			if got, f := x.Slice(at, n); got != "" || f != api.ErrRange {
				t.Errorf("Slice(%d, %d) = %q, %d", at, n, got, f)
			}
		}
	}
}

func TestSliceAtTheEndOfAFullText(t *testing.T) {
	x := made(t, as(api.MaxText-1)+"z")
	for _, c := range []struct {
		at, n int
		want  string
		f     api.Errno
	}{
		{api.MaxText, 0, "", api.OK},
		{api.MaxText - 1, 1, "z", api.OK},
		{api.MaxText - 2, 2, "az", api.OK},
		{0, api.MaxText, as(api.MaxText-1) + "z", api.OK},
		{api.MaxText + 1, 0, "", api.ErrRange},
		{api.MaxText, 1, "", api.ErrRange},
		{api.MaxText - 1, 2, "", api.ErrRange},
		{0, api.MaxText + 1, "", api.ErrRange},
	} {
		if got, f := x.Slice(c.at, c.n); got != c.want || f != c.f {
			t.Errorf("Slice(%d, %d): %d bytes, %d", c.at, c.n, len(got), f)
		}
	}
}

// A slice is asked for right behind a change, while no one has asked for the whole text.
func TestSliceOfPieces(t *testing.T) {
	x := made(t, "abcdef")
	does(t, x.Edit(api.Edit{At: 2, Len: 2, Text: "XYZ"}), api.OK)
	if got, f := x.Slice(1, 5); got != "bXYZe" || f != api.OK {
		t.Error(got, f)
	}
	if _, f := x.Slice(2, 6); f != api.ErrRange {
		t.Error(f)
	}
	does(t, x.Undo(), api.OK)
	if got, f := x.Slice(1, 5); got != "bcdef" || f != api.OK {
		t.Error(got, f)
	}
	does(t, x.Redo(), api.OK)
	if got, f := x.Slice(4, 3); got != "Zef" || f != api.OK {
		t.Error(got, f)
	}
}

func TestEdit(t *testing.T) {
	for _, c := range []struct {
		s    string
		e    api.Edit
		want string
	}{
		{"ab", api.Edit{At: 1, Text: "x"}, "axb"},
		{"abc", api.Edit{At: 1, Len: 1, Text: "xy"}, "axyc"},
		{"abc", api.Edit{}, "abc"},
		{"abc", api.Edit{At: 1, Len: 1, Text: "b"}, "abc"},
		{"abc", api.Edit{Text: "x"}, "xabc"},
		{"abc", api.Edit{At: 3, Text: "d"}, "abcd"},
		{"abc", api.Edit{At: 2, Len: 1}, "ab"},
		{"abc", api.Edit{Len: 3}, ""},
		{"", api.Edit{}, ""},
		{"", api.Edit{Text: "\xff\x00"}, "\xff\x00"},
	} {
		x := made(t, c.s)
		does(t, x.Edit(c.e), api.OK)
		stands(t, x, c.want, 1, 0)
		does(t, x.Undo(), api.OK)
		stands(t, x, c.s, 0, 1)
		does(t, x.Undo(), api.ErrNone)
		stands(t, x, c.s, 0, 1)
		does(t, x.Redo(), api.OK)
		stands(t, x, c.want, 1, 0)
		does(t, x.Redo(), api.ErrNone)
		stands(t, x, c.want, 1, 0)
	}
}

func TestEditAtTheLimit(t *testing.T) {
	x := made(t, as(api.MaxText))
	does(t, x.Edit(api.Edit{Text: "b"}), api.ErrFull)
	does(t, x.Edit(api.Edit{At: api.MaxText, Text: "b"}), api.ErrFull)
	does(t, x.Edit(api.Edit{At: 7, Len: 1, Text: "bb"}), api.ErrFull)
	stands(t, x, as(api.MaxText), 0, 0)
	does(t, x.Edit(api.Edit{At: api.MaxText - 1, Len: 1, Text: "b"}), api.OK)
	stands(t, x, as(api.MaxText-1)+"b", 1, 0)
	does(t, x.Edit(api.Edit{At: api.MaxText}), api.OK)
	does(t, x.Edit(api.Edit{At: api.MaxText + 1}), api.ErrRange)
	does(t, x.Edit(api.Edit{Len: api.MaxText}), api.OK)
	stands(t, x, "", 3, 0)
	does(t, x.Edit(api.Edit{Text: as(api.MaxText + 1)}), api.ErrFull)
	does(t, x.Edit(api.Edit{Text: as(api.MaxText)}), api.OK)
	stands(t, x, as(api.MaxText), 4, 0)
	does(t, x.Undo(), api.OK)
	does(t, x.Undo(), api.OK)
	stands(t, x, as(api.MaxText-1)+"b", 2, 2)
}

// wrongEdits are refused by a text of three bytes.
func wrongEdits() []api.Edit {
	return []api.Edit{
		{At: -1}, {At: -1, Len: 1}, {At: -1, Len: 4}, {Len: -1}, {At: 3, Len: -1}, {At: 4}, {At: 3, Len: 1}, {At: 2, Len: 2}, {Len: 4},
		{At: math.MaxInt}, {Len: math.MaxInt}, {At: 1, Len: math.MaxInt}, {At: math.MaxInt, Len: 1}, {At: math.MaxInt, Len: math.MaxInt},
		{At: math.MinInt}, {Len: math.MinInt}, {At: math.MinInt, Len: math.MaxInt}, {At: math.MaxInt, Len: math.MinInt},
		{Text: as(api.MaxText - 2)}, {At: 3, Text: as(api.MaxText)}, {Len: 3, Text: as(api.MaxText + 1)},
		{At: 4, Text: as(api.MaxText + 1)}, {Len: -1, Text: as(api.MaxText + 1)},
	}
}

func TestARefusedEditLeavesAllAsItWas(t *testing.T) {
	for _, e := range wrongEdits() {
		x := made(t, "a")
		does(t, x.Edit(api.Edit{At: 1, Text: "bc"}), api.OK)
		does(t, x.Edit(api.Edit{At: 1, Len: 1}), api.OK)
		does(t, x.Undo(), api.OK)
		_, want := edit.Apply("abc", e)
		if want == api.OK {
			t.Fatalf("layer 1 doesn't refuse %d, %d", e.At, e.Len)
		}
		does(t, x.Edit(e), want)
		stands(t, x, "abc", 1, 1)
		does(t, x.Edit(e), want)
		does(t, x.Redo(), api.OK)
		stands(t, x, "ac", 2, 0)
		does(t, x.Undo(), api.OK)
		does(t, x.Undo(), api.OK)
		stands(t, x, "a", 0, 2)
	}
}

// Both errors apply: layer 1 names ErrRange first.
func TestOfTwoErrorsTheFirst(t *testing.T) {
	x := made(t, "abc")
	does(t, x.Edit(api.Edit{At: 4, Text: as(api.MaxText)}), api.ErrRange)
	does(t, x.Edit(api.Edit{At: -1, Text: as(api.MaxText)}), api.ErrRange)
}

func TestJustTheLastEditsAreKept(t *testing.T) {
	x, texts := made(t, ""), []string{""}
	for i := range api.MaxUndo + 9 {
		does(t, x.Edit(api.Edit{At: i / 2, Text: string(rune('0' + i))}), api.OK)
		texts = append(texts, x.String())
		stands(t, x, texts[i+1], min(i+1, api.MaxUndo), 0)
	}
	at := len(texts) - 1
	for n := range api.MaxUndo {
		does(t, x.Undo(), api.OK)
		at--
		stands(t, x, texts[at], api.MaxUndo-1-n, n+1)
	}
	does(t, x.Undo(), api.ErrNone)
	stands(t, x, texts[9], 0, api.MaxUndo)
	for n := range api.MaxUndo {
		does(t, x.Redo(), api.OK)
		at++
		stands(t, x, texts[at], n+1, api.MaxUndo-1-n)
	}
	does(t, x.Redo(), api.ErrNone)
	stands(t, x, texts[len(texts)-1], api.MaxUndo, 0)
}

func TestAnEditBehindAnUndo(t *testing.T) {
	x := made(t, "")
	for range api.MaxUndo {
		does(t, x.Edit(api.Edit{Text: "q"}), api.OK)
	}
	for range 5 {
		does(t, x.Undo(), api.OK)
	}
	stands(t, x, strings.Repeat("q", api.MaxUndo-5), api.MaxUndo-5, 5)
	does(t, x.Edit(api.Edit{Text: "-"}), api.OK)
	stands(t, x, "-"+strings.Repeat("q", api.MaxUndo-5), api.MaxUndo-4, 0)
	does(t, x.Redo(), api.ErrNone)
	does(t, x.Undo(), api.OK)
	stands(t, x, strings.Repeat("q", api.MaxUndo-5), api.MaxUndo-5, 1)
	does(t, x.Redo(), api.OK)
	stands(t, x, "-"+strings.Repeat("q", api.MaxUndo-5), api.MaxUndo-4, 0)
}

// An edit that changes no byte is one all the same: it can be undone, and ends what could be done again.
func TestAnIdleEditIsOne(t *testing.T) {
	x := made(t, "ab")
	does(t, x.Edit(api.Edit{At: 1, Text: "x"}), api.OK)
	does(t, x.Undo(), api.OK)
	does(t, x.Edit(api.Edit{At: 2}), api.OK)
	stands(t, x, "ab", 1, 0)
	does(t, x.Redo(), api.ErrNone)
	does(t, x.Undo(), api.OK)
	stands(t, x, "ab", 0, 1)
}

// kept is a text as the chapter tells it, with all its earlier bytes: a second way to the same answers.
type kept struct {
	text       string
	undo, redo []string
}

func (k *kept) edit(e api.Edit) api.Errno {
	s, f := edit.Apply(k.text, e)
	if f != api.OK {
		return f
	}
	k.undo, k.redo, k.text = append(k.undo, k.text), nil, s
	k.undo = k.undo[max(0, len(k.undo)-api.MaxUndo):]
	return api.OK
}

func (k *kept) step(from, to *[]string) api.Errno {
	n := len(*from) - 1
	if n < 0 {
		return api.ErrNone
	}
	*to, k.text = append(*to, k.text), (*from)[n]
	*from = (*from)[:n]
	return api.OK
}

// Long runs of edits and steps, in which the text is asked for only at times, so that edits and steps also meet one in pieces.
func TestRunsOfEditsAndSteps(t *testing.T) {
	for seed := range uint32(60) {
		next := func(n int) int {
			seed = seed*1664525 + 1013904223
			return int(seed>>8) % n
		}
		x, k := made(t, "abc"), &kept{text: "abc"}
		for range 400 {
			switch next(5) {
			case 0:
				does(t, x.Undo(), k.step(&k.undo, &k.redo))
			case 1:
				does(t, x.Redo(), k.step(&k.redo, &k.undo))
			default:
				at := next(len(k.text)+3) - 1
				e := api.Edit{At: at, Len: next(max(2, len(k.text)-at+2)) - next(2), Text: "0123456789"[next(10):]}
				if next(20) == 0 {
					e.Text = as(next(2 * api.MaxText))
				}
				does(t, x.Edit(e), k.edit(e))
			}
			if next(3) == 0 {
				stands(t, x, k.text, len(k.undo), len(k.redo))
			} else if x.Len() != len(k.text) {
				t.Fatalf("Len = %d, want %d", x.Len(), len(k.text))
			}
		}
		stands(t, x, k.text, len(k.undo), len(k.redo))
	}
}

func TestOfANilText(t *testing.T) {
	var x *piece.Text
	for range 2 {
		if x.Len() != 0 || x.String() != "" {
			t.Error(x.Len(), x.String())
		}
		for _, c := range [][2]int{{0, 0}, {0, 1}, {-1, 0}, {math.MaxInt, math.MaxInt}} {
			if s, f := x.Slice(c[0], c[1]); s != "" || f != api.ErrNil {
				t.Error(s, f)
			}
		}
		for _, e := range append(wrongEdits(), api.Edit{}, api.Edit{Text: "a"}) {
			does(t, x.Edit(e), api.ErrNil)
		}
		does(t, x.Undo(), api.ErrNil)
		does(t, x.Redo(), api.ErrNil)
		if u, r := x.Steps(); u != 0 || r != 0 {
			t.Error(u, r)
		}
	}
}

// R4: what is answered shares no memory with what was handed in, nor with another answer.
func TestAnswersAreNewMemory(t *testing.T) {
	given := strings.Clone("abcdef")
	x := made(t, given)
	told := []string{given}
	ask := func() {
		s, _ := x.Slice(0, x.Len())
		mid, _ := x.Slice(1, 1)
		told = append(told, x.String(), x.String(), s, mid)
	}
	ask()
	text := strings.Clone("XYZ")
	told = append(told, text)
	does(t, x.Edit(api.Edit{Len: x.Len(), Text: text}), api.OK)
	ask()
	does(t, x.Undo(), api.OK)
	ask()
	does(t, x.Redo(), api.OK)
	ask()
	for i, a := range told {
		for j, b := range told {
			if i != j && shares(a, b) {
				t.Errorf("%d and %d share memory: %q, %q", i, j, a, b)
			}
		}
	}
}

// What was handed in isn't kept as it is: bytes that change under it behind the call don't change the text.
func TestNothingHandedInIsKept(t *testing.T) {
	given, text := []byte("abc"), []byte("xyz")
	x := made(t, unsafe.String(&given[0], 3))
	copy(given, "---")
	stands(t, x, "abc", 0, 0)
	does(t, x.Edit(api.Edit{At: 1, Len: 1, Text: unsafe.String(&text[0], 3)}), api.OK)
	copy(text, "---")
	stands(t, x, "axyzc", 1, 0)
	does(t, x.Undo(), api.OK)
	does(t, x.Redo(), api.OK)
	stands(t, x, "axyzc", 1, 0)
}

// The length may be asked at any time, also while another changes the text.
func TestTheLengthAtAnyTime(t *testing.T) {
	x := made(t, "ab")
	var wait sync.WaitGroup
	wait.Go(func() {
		for range 2000 {
			if n := x.Len(); n != 2 && n != 5 {
				t.Error(n)
			}
		}
	})
	for range 500 {
		x.Edit(api.Edit{At: 1, Text: "xyz"})
		x.Undo()
		_ = x.String()
	}
	wait.Wait()
}
