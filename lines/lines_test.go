package lines_test

import (
	"math"
	"slices"
	"strings"
	"testing"

	"topiary/api"
	"topiary/edit"
	"topiary/lines"
)

// shortTexts are all texts of a and byte 10 of at most n bytes.
func shortTexts(n int) []string {
	all := []string{""}
	for from := 0; n > 0; n-- {
		upTo := len(all)
		for _, s := range all[from:upTo] {
			all = append(all, s+"a", s+"\n")
		}
		from = upTo
	}
	return all
}

// bySplit tells where lines begin from the lengths of the lines, as a second way to them.
func bySplit(s string) []int {
	var starts []int
	at := 0
	for _, line := range strings.Split(s, "\n") {
		starts = append(starts, at)
		at += len(line) + 1
	}
	return starts
}

// byWalk tells the line and column of each place of s, its end included, by going through it.
func byWalk(s string) [][2]int {
	var all [][2]int
	line, column := 1, 1
	for i := range len(s) + 1 {
		all = append(all, [2]int{line, column})
		column++
		if i < len(s) && s[i] == 10 {
			line, column = line+1, 1
		}
	}
	return all
}

func startsAre(t *testing.T, s string, want []int) {
	t.Helper()
	if got := lines.Starts(s); !slices.Equal(got, want) {
		t.Errorf("Starts(%q) = %v, want %v", s, got, want)
	}
}

func placeIs(t *testing.T, s string, at, line, column int, e api.Errno) {
	t.Helper()
	if l, c, f := lines.Place(s, at); l != line || c != column || f != e {
		t.Errorf("Place(%q, %d) = %d, %d, %d, want %d, %d, %d", s, at, l, c, f, line, column, e)
	}
}

func atIs(t *testing.T, s string, line, column, at int, e api.Errno) {
	t.Helper()
	if got, f := lines.At(s, line, column); got != at || f != e {
		t.Errorf("At(%q, %d, %d) = %d, %d, want %d, %d", s, line, column, got, f, at, e)
	}
}

func updateIs(t *testing.T, starts []int, s string, e api.Edit, want []int, f api.Errno) {
	t.Helper()
	got, g := lines.Update(starts, s, e)
	if !slices.Equal(got, want) || g != f {
		t.Errorf("Update(%v, %q, %v) = %v, %d, want %v, %d", starts, s, e, got, g, want, f)
	}
}

func TestStarts(t *testing.T) {
	startsAre(t, "", []int{0})
	startsAre(t, "abc", []int{0})
	startsAre(t, "a\nb", []int{0, 2})
	startsAre(t, "a\nb\n", []int{0, 2, 4})
	startsAre(t, "\n", []int{0, 1})
	startsAre(t, "\n\n", []int{0, 1, 2})
	startsAre(t, "a\n\nb", []int{0, 2, 3})
	startsAre(t, "\na", []int{0, 1})
}

func TestOnlyByteTenEndsALine(t *testing.T) {
	for b := range 256 {
		want := []int{0}
		if b == 10 {
			want = []int{0, 2}
		}
		startsAre(t, string([]byte{'a', byte(b), 'a'}), want)
	}
	// Two bytes a letter, three for the line that other texts know: columns are bytes.
	startsAre(t, "\u00e9\n\u2028\n", []int{0, 3, 7})
	placeIs(t, "\u00e9\n\u00e9b", 5, 2, 3, api.OK)
	placeIs(t, "a\r\nb", 2, 1, 3, api.OK)
	atIs(t, "a\r\nb", 1, 3, 2, api.OK)
}

func TestStartsOfShortTexts(t *testing.T) {
	for _, s := range shortTexts(9) {
		startsAre(t, s, bySplit(s))
	}
}

// No limit is named for these calls, so a text beyond MaxText has its lines too.
func TestLongTexts(t *testing.T) {
	s := strings.Repeat("ab\n\nc", api.MaxText)
	startsAre(t, s, bySplit(s))
	placeIs(t, s, len(s), 2*api.MaxText+1, 2, api.OK)
	atIs(t, s, 2*api.MaxText+1, 2, len(s), api.OK)
	placeIs(t, s, len(s)+1, 0, 0, api.ErrRange)
	startsAre(t, strings.Repeat("a", 100000), []int{0})
}

func TestPlace(t *testing.T) {
	placeIs(t, "", 0, 1, 1, api.OK)
	placeIs(t, "a\nb", 0, 1, 1, api.OK)
	placeIs(t, "a\nb", 1, 1, 2, api.OK)
	placeIs(t, "a\nb", 2, 2, 1, api.OK)
	placeIs(t, "a\nb", 3, 2, 2, api.OK)
	placeIs(t, "a\n", 1, 1, 2, api.OK)
	placeIs(t, "a\n", 2, 2, 1, api.OK)
	placeIs(t, "a\n\nb", 2, 2, 1, api.OK)
	placeIs(t, "a\n\nb", 3, 3, 1, api.OK)
	placeIs(t, "\n\n", 0, 1, 1, api.OK)
	placeIs(t, "\n\n", 2, 3, 1, api.OK)
}

func TestPlaceBeyond(t *testing.T) {
	for _, s := range []string{"", "a", "a\nb", "a\n"} {
		for _, at := range []int{-1, -2, len(s) + 1, len(s) + 2, math.MinInt, math.MaxInt} {
			placeIs(t, s, at, 0, 0, api.ErrRange)
		}
	}
}

func TestAt(t *testing.T) {
	atIs(t, "", 1, 1, 0, api.OK)
	atIs(t, "a\nb", 1, 1, 0, api.OK)
	atIs(t, "a\nb", 1, 2, 1, api.OK)
	atIs(t, "a\nb", 2, 1, 2, api.OK)
	atIs(t, "a\nb", 2, 2, 3, api.OK)
	atIs(t, "a\n\nbc", 2, 1, 2, api.OK)
	atIs(t, "a\n\nbc", 3, 3, 5, api.OK)
	atIs(t, "a\n", 2, 1, 2, api.OK)
}

func TestAtBeyond(t *testing.T) {
	for _, c := range []struct {
		s            string
		line, column int
	}{
		{"a\nb", 0, 1}, {"a\nb", -1, 1}, {"a\nb", 3, 1}, {"a\nb", 4, 1},
		{"a\nb", 1, 0}, {"a\nb", 2, 0}, {"a\nb", 2, -1},
		{"a\nb", 1, 3}, {"a\nb", 1, 4}, {"a\nb", 2, 3},
		{"a\n\nb", 2, 2}, {"a\n", 2, 2}, {"a\n", 3, 1}, {"a\n", 1, 3},
		{"", 1, 2}, {"", 2, 1}, {"", 0, 1}, {"", 1, 0}, {"", 0, 0},
		{"a\nb", math.MaxInt, 1}, {"a\nb", math.MinInt, 1},
		{"a\nb", 1, math.MaxInt}, {"a\nb", 2, math.MaxInt}, {"a\nb", 2, math.MinInt}, {"a\nb", 1, math.MinInt},
		{"a\nb", math.MaxInt, math.MaxInt}, {"a\nb", math.MinInt, math.MinInt},
	} {
		atIs(t, c.s, c.line, c.column, 0, api.ErrRange)
	}
}

// Each place has one line and column, no other line and column has a place, and the ways there and back meet.
func TestPlaceAndAtOfShortTexts(t *testing.T) {
	for _, s := range shortTexts(6) {
		walk := byWalk(s)
		for at, lc := range walk {
			placeIs(t, s, at, lc[0], lc[1], api.OK)
		}
		for line := -1; line <= len(s)+3; line++ {
			for column := -1; column <= len(s)+3; column++ {
				if at := slices.Index(walk, [2]int{line, column}); at >= 0 {
					atIs(t, s, line, column, at, api.OK)
				} else {
					atIs(t, s, line, column, 0, api.ErrRange)
				}
			}
		}
	}
}

func TestAtOfPlaceIsThePlace(t *testing.T) {
	long := strings.Repeat("\nab\n\n\xff\r\x00c\n", 60)
	for _, s := range append(shortTexts(7), long, long+"a", "a"+long) {
		for at := range len(s) + 1 {
			line, column, f := lines.Place(s, at)
			if f != api.OK {
				t.Fatalf("Place(%q, %d): %d", s, at, f)
			}
			atIs(t, s, line, column, at, api.OK)
		}
	}
}

func TestUpdate(t *testing.T) {
	s := "a\nb\nc"
	starts := []int{0, 2, 4}
	updateIs(t, starts, s, api.Edit{At: 1, Len: 2, Text: "x\ny\nz"}, []int{0, 3, 5, 7}, api.OK)
	updateIs(t, starts, s, api.Edit{}, []int{0, 2, 4}, api.OK)
	updateIs(t, starts, s, api.Edit{Len: 5}, []int{0}, api.OK)
	updateIs(t, starts, s, api.Edit{At: 1, Len: 1}, []int{0, 3}, api.OK)
	updateIs(t, starts, s, api.Edit{At: 3, Len: 1, Text: "\n\n"}, []int{0, 2, 4, 5}, api.OK)
	updateIs(t, starts, s, api.Edit{At: 5, Text: "\n"}, []int{0, 2, 4, 6}, api.OK)
	updateIs(t, starts, s, api.Edit{At: 0, Text: "\n"}, []int{0, 1, 3, 5}, api.OK)
	updateIs(t, []int{0}, "", api.Edit{Text: "\n"}, []int{0, 1}, api.OK)
	updateIs(t, []int{0}, "", api.Edit{}, []int{0}, api.OK)
	updateIs(t, []int{0, 2}, "a\n", api.Edit{At: 1, Len: 1}, []int{0}, api.OK)
}

func TestUpdateOfWrongStarts(t *testing.T) {
	s := "a\nb\nc"
	for _, starts := range [][]int{
		nil, {}, {0}, {0, 2}, {0, 4}, {2, 4}, {0, 2, 4, 5}, {0, 2, 4, 6}, {0, 2, 2, 4}, {0, 4, 2}, {4, 2, 0},
		{0, 2, 5}, {0, 1, 4}, {1, 2, 4}, {0, 0, 2, 4}, {0, 2, 3}, {-1, 2, 4}, {0, 2, math.MaxInt}, {math.MinInt, 2, 4},
	} {
		updateIs(t, starts, s, api.Edit{At: 1, Len: 1}, nil, api.ErrArg)
		// Of errors that both apply, that of the starts is named first.
		updateIs(t, starts, s, api.Edit{At: 6}, nil, api.ErrArg)
		updateIs(t, starts, s, api.Edit{Text: strings.Repeat("a", api.MaxText)}, nil, api.ErrArg)
	}
	updateIs(t, nil, "", api.Edit{}, nil, api.ErrArg)
	updateIs(t, []int{1}, "", api.Edit{}, nil, api.ErrArg)
	updateIs(t, []int{0, 0}, "", api.Edit{}, nil, api.ErrArg)
	updateIs(t, []int{0}, "a\n", api.Edit{}, nil, api.ErrArg)
	// What the edit makes doesn't tell which starts are right: those ahead of it do.
	updateIs(t, []int{0}, "a\n", api.Edit{At: 1, Len: 1}, nil, api.ErrArg)
	updateIs(t, []int{0, 1}, "a", api.Edit{At: 0, Text: "\n"}, nil, api.ErrArg)
}

func TestUpdateOfRefusedEdits(t *testing.T) {
	s := "a\nb"
	starts := []int{0, 2}
	for _, e := range []api.Edit{
		{At: -1}, {At: 4}, {Len: -1}, {Len: 4}, {At: 3, Len: 1}, {At: 2, Len: 2, Text: "\n"}, {At: -1, Len: 1},
		{At: math.MaxInt}, {At: math.MinInt}, {Len: math.MaxInt}, {Len: math.MinInt},
		{At: math.MaxInt, Len: math.MaxInt}, {At: math.MinInt, Len: math.MaxInt}, {At: 1, Len: math.MaxInt},
		{At: -1, Text: strings.Repeat("\n", api.MaxText+1)},
	} {
		updateIs(t, starts, s, e, nil, api.ErrRange)
	}
}

func TestUpdateAtTheLimit(t *testing.T) {
	full := strings.Repeat("\n", api.MaxText)
	starts := bySplit(full)
	updateIs(t, starts, full, api.Edit{Text: "a"}, nil, api.ErrFull)
	updateIs(t, starts, full, api.Edit{Len: 1, Text: "\n\n"}, nil, api.ErrFull)
	updateIs(t, starts, full, api.Edit{Len: 1, Text: "a"}, bySplit("a"+full[1:]), api.OK)
	updateIs(t, starts, full, api.Edit{}, starts, api.OK)
	updateIs(t, []int{0}, "", api.Edit{Text: full}, starts, api.OK)
	updateIs(t, []int{0}, "", api.Edit{Text: full + "\n"}, nil, api.ErrFull)
	updateIs(t, append(bySplit(full), api.MaxText+1), full+"\n", api.Edit{Len: 1}, starts, api.OK)
	updateIs(t, append(bySplit(full), api.MaxText+1), full+"\n", api.Edit{}, nil, api.ErrFull)
}

// Update answers what Apply and the second way answer, of all short texts and edits, in and out of bounds.
func TestUpdateOfShortTexts(t *testing.T) {
	texts := shortTexts(3)
	for _, s := range shortTexts(5) {
		starts := bySplit(s)
		for at := -1; at <= len(s)+1; at++ {
			for n := -1; n <= len(s)+1; n++ {
				for _, text := range texts {
					e := api.Edit{At: at, Len: n, Text: text}
					after, f := edit.Apply(s, e)
					want := bySplit(after)
					if f != api.OK {
						want = nil
					}
					updateIs(t, starts, s, e, want, f)
				}
			}
		}
	}
}

func TestUpdatesOneBehindTheOther(t *testing.T) {
	s, starts := "", []int{0}
	state := uint32(7)
	next := func(n int) int {
		state = state*1664525 + 1013904223
		return int(state>>8) % n
	}
	for range 3000 {
		at := next(len(s) + 1)
		e := api.Edit{At: at, Len: next(min(len(s)-at, 9) + 1), Text: strings.Repeat("ab\n", 3)[next(10):]}
		after, f := edit.Apply(s, e)
		got, g := lines.Update(starts, s, e)
		if f != g {
			t.Fatalf("Update answered %d, Apply %d", g, f)
		}
		if f != api.OK {
			s, starts = "", []int{0}
			continue
		}
		if !slices.Equal(got, bySplit(after)) {
			t.Fatalf("Update(%v, %q, %v) = %v", starts, s, e, got)
		}
		s, starts = after, got
	}
}

// R4: the starts that are handed in stay as they are, their spare room too, and no answer shares their memory, or an earlier answer's.
func TestStartsAreNewMemory(t *testing.T) {
	room := []int{0, 2, 4, 77, 78, 79, 80, 81}
	kept := slices.Clone(room)
	for _, e := range []api.Edit{{}, {At: 5, Text: "\n\n"}, {At: 0, Text: "\n"}, {Len: 5}, {At: 9}} {
		got, _ := lines.Update(room[:3], "a\nb\nc", e)
		again, _ := lines.Update(room[:3], "a\nb\nc", e)
		spoil(got)
		if !slices.Equal(room, kept) {
			t.Fatalf("%v changed what was handed in: %v", e, room)
		}
		if want, _ := lines.Update(room[:3], "a\nb\nc", e); !slices.Equal(again, want) {
			t.Fatalf("%v: an answer was changed through another: %v", e, again)
		}
	}
	one, other := lines.Starts("a\nb\nc"), lines.Starts("a\nb\nc")
	spoil(one)
	if !slices.Equal(other, []int{0, 2, 4}) {
		t.Fatalf("an answer was changed through another: %v", other)
	}
	startsAre(t, "a\nb\nc", []int{0, 2, 4})
}

func spoil(l []int) {
	l = l[:cap(l)]
	for i := range l {
		l[i] = -9
	}
}
