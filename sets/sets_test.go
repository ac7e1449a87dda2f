package sets_test

import (
	"math"
	"slices"
	"sync"
	"testing"

	"topiary/sets"
)

const (
	least    = math.MinInt
	greatest = math.MaxInt
)

// shortLists are all lists of at most n numbers, each one of numbers.
func shortLists(numbers []int, n int) [][]int {
	all := [][]int{nil}
	for from := 0; n > 0; n-- {
		upTo := len(all)
		for _, l := range all[from:upTo] {
			for _, m := range numbers {
				all = append(all, append(slices.Clone(l), m))
			}
		}
		from = upTo
	}
	return all
}

// edgeNumbers hold both ends of all numbers, and both sides of 0.
func edgeNumbers() []int {
	return []int{least, -1, 0, greatest}
}

// of goes through a list one by one, as a second way to whether a number is in it.
func of(l []int, n int) bool {
	for _, m := range l {
		if m == n {
			return true
		}
	}
	return false
}

// those are the rising numbers for which keep holds: numbers must rise themselves.
func those(numbers []int, keep func(n int) bool) []int {
	var out []int
	for _, n := range numbers {
		if keep(n) {
			out = append(out, n)
		}
	}
	return out
}

// order holds lists against each other number by number, as the document's words do.
func order(a, b []int) int {
	switch {
	case len(a) == 0 && len(b) == 0:
		return 0
	case len(a) == 0:
		return -1
	case len(b) == 0:
		return 1
	case a[0] < b[0]:
		return -1
	case a[0] > b[0]:
		return 1
	}
	return order(a[1:], b[1:])
}

// same holds numbers against each other one by one.
func same(a, b []int) bool {
	if len(a) != len(b) {
		return false
	}
	for i := range a {
		if a[i] != b[i] {
			return false
		}
	}
	return true
}

func setIs(t *testing.T, what string, got, want []int) {
	t.Helper()
	if !same(got, want) {
		t.Errorf("%s = %v, want %v", what, got, want)
	}
}

func TestOf(t *testing.T) {
	for _, c := range []struct{ l, want []int }{
		{nil, nil},
		{[]int{}, nil},
		{[]int{7}, []int{7}},
		{[]int{1, 2, 3}, []int{1, 2, 3}},
		{[]int{3, 2, 1}, []int{1, 2, 3}},
		{[]int{3, 1, 1}, []int{1, 3}},
		{[]int{5, 5, 5, 5}, []int{5}},
		{[]int{2, 9, 2, 9, 2}, []int{2, 9}},
		{[]int{0, -1, -20, 3}, []int{-20, -1, 0, 3}},
		{[]int{greatest, 0, least, greatest, least}, []int{least, 0, greatest}},
		{[]int{10, 9, 100, -10, -9}, []int{-10, -9, 9, 10, 100}},
	} {
		if got := sets.Of(c.l); !same(got, c.want) {
			t.Errorf("Of(%v) = %v, want %v", c.l, got, c.want)
		}
	}
}

func TestIs(t *testing.T) {
	for _, c := range []struct {
		l    []int
		want bool
	}{
		{nil, true},
		{[]int{}, true},
		{[]int{0}, true},
		{[]int{-1, 5}, true},
		{[]int{1, 1}, false},
		{[]int{2, 1}, false},
		{[]int{1, 2, 3, 4}, true},
		{[]int{1, 1, 3}, false},
		{[]int{1, 3, 3}, false},
		{[]int{1, 3, 2}, false},
		{[]int{2, 1, 3}, false},
		{[]int{-3, -2, -1}, true},
		{[]int{-1, -2, -3}, false},
		{[]int{least, greatest}, true},
		{[]int{greatest, least}, false},
		{[]int{greatest, greatest}, false},
		{[]int{least, least}, false},
	} {
		if got := sets.Is(c.l); got != c.want {
			t.Errorf("Is(%v) = %v, want %v", c.l, got, c.want)
		}
	}
}

func TestHas(t *testing.T) {
	for _, c := range []struct {
		s    []int
		n    int
		want bool
	}{
		{nil, 0, false},
		{[]int{}, 0, false},
		{[]int{0}, 0, true},
		{[]int{3, 1, 1}, 3, true},
		{[]int{3, 1, 1}, 1, true},
		{[]int{3, 1, 1}, 2, false},
		{[]int{9, 5, 1}, 1, true},
		{[]int{9, 5, 1}, 9, true},
		{[]int{1, 2, 3}, 4, false},
		{[]int{1, 2, 3}, -1, false},
		{[]int{-1, 1}, -1, true},
		{[]int{greatest, least}, least, true},
		{[]int{greatest, least}, greatest, true},
		{[]int{greatest}, least, false},
	} {
		if got := sets.Has(c.s, c.n); got != c.want {
			t.Errorf("Has(%v, %d) = %v, want %v", c.s, c.n, got, c.want)
		}
	}
}

func TestTwo(t *testing.T) {
	for _, c := range []struct{ a, b, union, both, less []int }{
		{nil, nil, nil, nil, nil},
		{[]int{}, nil, nil, nil, nil},
		{[]int{3, 1}, []int{2, 1}, []int{1, 2, 3}, []int{1}, []int{3}},
		{[]int{2, 1}, []int{3, 1}, []int{1, 2, 3}, []int{1}, []int{2}},
		{[]int{4, 4, 2}, nil, []int{2, 4}, nil, []int{2, 4}},
		{nil, []int{4, 4, 2}, []int{2, 4}, nil, nil},
		{[]int{1, 2}, []int{1, 2}, []int{1, 2}, []int{1, 2}, nil},
		{[]int{2, 1, 2}, []int{1, 1, 2}, []int{1, 2}, []int{1, 2}, nil},
		{[]int{1, 3}, []int{2, 4}, []int{1, 2, 3, 4}, nil, []int{1, 3}},
		{[]int{5, 5}, []int{5, 5, 5}, []int{5}, []int{5}, nil},
		{[]int{1, 2, 3}, []int{1, 2}, []int{1, 2, 3}, []int{1, 2}, []int{3}},
		{[]int{1, 2}, []int{1, 2, 3}, []int{1, 2, 3}, []int{1, 2}, nil},
		{[]int{-5, 0, -5}, []int{0, -7}, []int{-7, -5, 0}, []int{0}, []int{-5}},
		{[]int{greatest, least}, []int{0, greatest}, []int{least, 0, greatest}, []int{greatest}, []int{least}},
		{[]int{greatest, 0}, []int{0, least}, []int{least, 0, greatest}, []int{0}, []int{greatest}},
	} {
		setIs(t, "Union", sets.Union(c.a, c.b), c.union)
		setIs(t, "Both", sets.Both(c.a, c.b), c.both)
		setIs(t, "Less", sets.Less(c.a, c.b), c.less)
	}
}

func TestOrder(t *testing.T) {
	for _, c := range []struct {
		a, b []int
		want int
	}{
		{nil, nil, 0},
		{nil, []int{}, 0},
		{nil, []int{0}, -1},
		{[]int{least}, nil, 1},
		{[]int{1, 2}, []int{1}, 1},
		{[]int{1}, []int{1, 2}, -1},
		{[]int{1, 2}, []int{1, 2}, 0},
		{[]int{1, 9}, []int{2}, -1},
		{[]int{2}, []int{1, 9}, 1},
		{[]int{1, 2}, []int{2, 1}, -1},
		{[]int{2, 1}, []int{1, 2}, 1},
		{[]int{1, 1}, []int{1}, 1},
		{[]int{-1}, []int{1}, -1},
		{[]int{-2}, []int{-1}, -1},
		{[]int{10}, []int{9}, 1},
		{[]int{least}, []int{greatest}, -1},
		{[]int{greatest}, []int{least}, 1},
		{[]int{0, greatest}, []int{0, least, 5}, 1},
	} {
		if got := sets.Order(c.a, c.b); got != c.want {
			t.Errorf("Order(%v, %v) = %d, want %d", c.a, c.b, got, c.want)
		}
	}
}

func TestFind(t *testing.T) {
	some := [][]int{{1}, {2, 1}, {1, 2}, {2, 1}, nil, {12}, {-1, 2}, {1, 1}, {greatest, least}, {}, {3}}
	for _, c := range []struct {
		all  [][]int
		s    []int
		want int
	}{
		{nil, nil, -1},
		{[][]int{}, []int{1}, -1},
		{nil, []int{least}, -1},
		{[][]int{nil}, []int{}, 0},
		{[][]int{{}}, nil, 0},
		{some, []int{1}, 0},
		{some, []int{2, 1}, 1},
		{some, []int{1, 2}, 2},
		{some, nil, 4},
		{some, []int{}, 4},
		{some, []int{12}, 5},
		{some, []int{-1, 2}, 6},
		{some, []int{1, 1}, 7},
		{some, []int{greatest, least}, 8},
		{some, []int{least, greatest}, -1},
		{some, []int{3}, 10},
		{some, []int{2}, -1},
		{some, []int{2, 1, 1}, -1},
		{some, []int{1, -2}, -1},
		{some, []int{1, 1, 1}, -1},
		{[][]int{{1, 2, 3}}, []int{1, 2}, -1},
		{[][]int{{1, 2}}, []int{1, 2, 3}, -1},
		{[][]int{{1, 23}}, []int{12, 3}, -1},
		{[][]int{{0}}, nil, -1},
		{[][]int{{least}, {0}}, []int{0}, 1},
		{[][]int{{greatest}, {-1}}, []int{-1}, 1},
		{[][]int{{greatest - 1}, {least + 1}}, []int{greatest}, -1},
		{[][]int{nil}, []int{0}, -1},
		{[][]int{{7}, {7}, {7}}, []int{7}, 0},
	} {
		if got := sets.Find(c.all, c.s); got != c.want {
			t.Errorf("Find(%v, %v) = %d, want %d", c.all, c.s, got, c.want)
		}
	}
}

// TestAllShort holds each call of one list, and of two, against a second way, at all short lists.
func TestAllShort(t *testing.T) {
	numbers := edgeNumbers()
	all := shortLists(numbers, 3)
	for _, a := range all {
		setOf := those(numbers, func(n int) bool { return of(a, n) })
		setIs(t, "Of", sets.Of(a), setOf)
		if got := sets.Is(a); got != same(a, setOf) {
			t.Errorf("Is(%v) = %v", a, got)
		}
		for _, n := range append(numbers, 1, least+1, greatest-1) {
			if got := sets.Has(a, n); got != of(a, n) {
				t.Errorf("Has(%v, %d) = %v", a, n, got)
			}
		}
		for _, b := range all {
			setIs(t, "Union", sets.Union(a, b), those(numbers, func(n int) bool { return of(a, n) || of(b, n) }))
			setIs(t, "Both", sets.Both(a, b), those(numbers, func(n int) bool { return of(a, n) && of(b, n) }))
			setIs(t, "Less", sets.Less(a, b), those(numbers, func(n int) bool { return of(a, n) && !of(b, n) }))
			if got := sets.Order(a, b); got != order(a, b) {
				t.Errorf("Order(%v, %v) = %d, want %d", a, b, got, order(a, b))
			}
		}
	}
}

func TestFindAllShort(t *testing.T) {
	all := shortLists([]int{-1, 1, 11}, 4)
	twice := append(slices.Clone(all), all...)
	for at, s := range all {
		if got := sets.Find(all, s); got != at {
			t.Errorf("Find(all, %v) = %d, want %d", s, got, at)
		}
		if got := sets.Find(twice, s); got != at {
			t.Errorf("Find(twice, %v) = %d, want %d", s, got, at)
		}
		if got := sets.Find(all[:at], s); got != -1 {
			t.Errorf("Find(those ahead, %v) = %d, want -1", s, got)
		}
		if got := sets.Find(all[at:], s); got != 0 {
			t.Errorf("Find(from there on, %v) = %d, want 0", s, got)
		}
	}
}

// roomy is l with spare room behind it, in which there are numbers that a call must leave alone.
func roomy(l []int) []int {
	out := append(make([]int, 0, len(l)+4), l...)
	for i := len(l); i < cap(out); i++ {
		out[:cap(out)][i] = 77 + i
	}
	return out
}

// TestArgumentsStay: nothing that is handed in is changed, spare room included (R4).
func TestArgumentsStay(t *testing.T) {
	lists := [][]int{nil, {}, {1}, {3, 1, 1}, {1, 2, 3}, {3, 2, 1}, {5, 5}}
	for _, l := range lists {
		for _, m := range lists {
			a, b := roomy(l), roomy(m)
			wholeA, wholeB := slices.Clone(a[:cap(a)]), slices.Clone(b[:cap(b)])
			all := append(make([][]int, 0, 4), b, a)
			calls := []func(){
				func() { sets.Of(a) },
				func() { sets.Is(a) },
				func() { sets.Has(a, 1) },
				func() { sets.Union(a, b) },
				func() { sets.Both(a, b) },
				func() { sets.Less(a, b) },
				func() { sets.Order(a, b) },
				func() { sets.Find(all, a) },
			}
			for i, call := range calls {
				call()
				if !same(a[:cap(a)], wholeA) || !same(b[:cap(b)], wholeB) || len(all) != 2 || all[:3][2] != nil {
					t.Errorf("call %d changed %v or %v", i, l, m)
				}
			}
		}
	}
}

// fill writes a number all over a list and its spare room.
func fill(l []int, n int) {
	l = l[:cap(l)]
	for i := range l {
		l[i] = n
	}
}

// TestAnswersAreNew: what is answered shares nothing with an argument or an earlier answer, spare room included (R4).
func TestAnswersAreNew(t *testing.T) {
	calls := []func(a, b []int) []int{
		func(a, b []int) []int { return sets.Of(a) },
		sets.Union,
		sets.Both,
		sets.Less,
	}
	lists := [][]int{nil, {}, {1}, {1, 2, 3}, {3, 1, 1}, {7, 8}}
	for i, call := range calls {
		for _, l := range lists {
			for _, m := range lists {
				a, b := roomy(l), roomy(m)
				wholeA, wholeB := slices.Clone(a[:cap(a)]), slices.Clone(b[:cap(b)])
				first := call(a, b)
				want := slices.Clone(first)
				second := call(a, b)
				fill(first, -9)
				if !same(second, want) {
					t.Errorf("call %d of %v, %v: two answers share memory", i, l, m)
				}
				fill(second, -8)
				if !same(a[:cap(a)], wholeA) || !same(b[:cap(b)], wholeB) {
					t.Errorf("call %d of %v, %v: an answer shares memory with an argument", i, l, m)
				}
				third := call(a, b)
				fill(a, -7)
				fill(b, -6)
				if !same(third, want) {
					t.Errorf("call %d of %v, %v: what is done to an argument is seen in an answer", i, l, m)
				}
			}
		}
	}
}

// TestFindKeepsNothing: lists that are changed between two calls are found as they then are (R5).
func TestFindKeepsNothing(t *testing.T) {
	all := [][]int{{1}, {2}}
	if sets.Find(all, []int{2}) != 1 {
		t.Error("ahead of the change")
	}
	all[0][0], all[1][0] = 2, 3
	if sets.Find(all, []int{2}) != 0 || sets.Find(all, []int{1}) != -1 || sets.Find([][]int{{4}}, []int{4}) != 0 {
		t.Error("behind the change")
	}
}

// TestSideBySide: calls from several goroutines at once answer what they answer alone (R5).
func TestSideBySide(t *testing.T) {
	all := shortLists([]int{1, 2}, 4)
	var wait sync.WaitGroup
	for range 8 {
		wait.Go(func() {
			for at, s := range all {
				if sets.Find(all, s) != at || !sets.Is(sets.Union(s, all[at/2])) {
					t.Errorf("list %d is not found", at)
				}
			}
		})
	}
	wait.Wait()
}

func TestLongLists(t *testing.T) {
	const n = 20000
	var down, even, odd, up []int
	for i := range n {
		down, up = append(down, n-1-i), append(up, i)
		if i%2 == 0 {
			even = append(even, i)
		} else {
			odd = append(odd, i)
		}
	}
	setIs(t, "Of", sets.Of(append(down, down...)), up)
	setIs(t, "Union", sets.Union(odd, even), up)
	setIs(t, "Both", sets.Both(down, odd), odd)
	setIs(t, "Less", sets.Less(down, odd), even)
	if !sets.Is(up) || sets.Is(down) || sets.Order(up, down) != -1 || sets.Find([][]int{down, up}, up) != 1 {
		t.Error("long lists")
	}
}
