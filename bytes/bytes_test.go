package bytes_test

import (
	"math"
	"slices"
	"strconv"
	"sync"
	"testing"

	"topiary/api"
	"topiary/bytes"
)

// truths is a set told byte by byte, as a second way to what a set is.
type truths [256]bool

// told reads a set as package api's words say: bit b%64 of word b/64.
func told(s api.Set) truths {
	var out truths
	for b := range out {
		out[b] = s[b/64]/(1<<(b%64))%2 == 1
	}
	return out
}

// those are the bytes for which keep holds.
func those(keep func(b int) bool) truths {
	var out truths
	for b := range out {
		out[b] = keep(b)
	}
	return out
}

// set is made of truths by sums of powers of two.
func set(l truths) api.Set {
	var out api.Set
	for b, in := range l {
		if in {
			out[b/64] += uint64(1) << (b % 64)
		}
	}
	return out
}

// some is the set of the bytes that are named.
func some(l ...byte) api.Set {
	var out truths
	for _, b := range l {
		out[b] = true
	}
	return set(out)
}

// from is the set of the bytes from one to another.
func from(a, z int) api.Set {
	return set(those(func(b int) bool { return a <= b && b <= z }))
}

func none() api.Set { return api.Set{} }

func all() api.Set {
	return api.Set{math.MaxUint64, math.MaxUint64, math.MaxUint64, math.MaxUint64}
}

// edgeBytes are those at the ends of all bytes and on either side of a word's end.
func edgeBytes() []byte {
	return []byte{0, 1, 62, 63, 64, 65, 'a', 126, 127, 128, 129, 190, 191, 192, 193, 254, 255}
}

// edgeSets are sets whose least, greatest or inner ends stand at edges.
func edgeSets() []api.Set {
	return []api.Set{
		none(), all(),
		some(0), some(255), some(63), some(64), some(63, 64), some(0, 255), some(127, 128), some(191, 192),
		from(0, 63), from(64, 127), from(128, 191), from(192, 255), from(63, 192), from(1, 254),
		from('a', 'c'), from('b', 'd'), from('b', 'c'),
		set(those(func(b int) bool { return b%2 == 0 })),
		set(those(func(b int) bool { return b%3 == 1 })),
		set(those(func(b int) bool { return b*b%7 < 3 })),
	}
}

func setIs(t *testing.T, what string, got, want api.Set) {
	t.Helper()
	if got != want {
		t.Errorf("%s = %x, want %x", what, got, want)
	}
}

func TestOne(t *testing.T) {
	setIs(t, "One(0)", bytes.One(0), api.Set{1, 0, 0, 0})
	setIs(t, "One(63)", bytes.One(63), api.Set{1 << 63, 0, 0, 0})
	setIs(t, "One(64)", bytes.One(64), api.Set{0, 1, 0, 0})
	setIs(t, "One('a')", bytes.One('a'), api.Set{0, 1 << 33, 0, 0})
	setIs(t, "One(128)", bytes.One(128), api.Set{0, 0, 1, 0})
	setIs(t, "One(192)", bytes.One(192), api.Set{0, 0, 0, 1})
	setIs(t, "One(255)", bytes.One(255), api.Set{0, 0, 0, 1 << 63})
	for b := range 256 {
		setIs(t, "One("+strconv.Itoa(b)+")", bytes.One(byte(b)), some(byte(b)))
	}
}

func TestSpan(t *testing.T) {
	setIs(t, "of one byte", bytes.Span('x', 'x'), some('x'))
	setIs(t, "of two", bytes.Span(63, 64), api.Set{1 << 63, 1, 0, 0})
	setIs(t, "of a word", bytes.Span(64, 127), api.Set{0, math.MaxUint64, 0, 0})
	setIs(t, "of all", bytes.Span(0, 255), all())
	setIs(t, "of the last", bytes.Span(255, 255), some(255))
	setIs(t, "of the first", bytes.Span(0, 0), some(0))
	setIs(t, "turned round", bytes.Span('b', 'a'), none())
	setIs(t, "from the last to the first", bytes.Span(255, 0), none())
	setIs(t, "from the last to the last but one", bytes.Span(255, 254), none())
	setIs(t, "from the second to the first", bytes.Span(1, 0), none())
}

func TestSpanAll(t *testing.T) {
	for a := range 256 {
		for z := range 256 {
			if got := bytes.Span(byte(a), byte(z)); got != from(a, z) {
				t.Fatalf("Span(%d, %d) = %x, want %x", a, z, got, from(a, z))
			}
		}
	}
}

func TestHas(t *testing.T) {
	for _, c := range []struct {
		s    api.Set
		b    byte
		want bool
	}{
		{none(), 0, false},
		{none(), 255, false},
		{all(), 0, true},
		{all(), 255, true},
		{api.Set{1}, 0, true},
		{api.Set{1}, 64, false},
		{api.Set{1 << 63}, 63, true},
		{api.Set{1 << 63}, 64, false},
		{api.Set{0, 1}, 64, true},
		{api.Set{0, 1}, 63, false},
		{api.Set{0, 0, 0, 1 << 63}, 255, true},
		{api.Set{0, 0, 0, 1 << 63}, 254, false},
		{from('a', 'c'), 'c', true},
		{from('a', 'c'), 'd', false},
	} {
		if got := bytes.Has(c.s, c.b); got != c.want {
			t.Errorf("Has(%x, %d) = %v, want %v", c.s, c.b, got, c.want)
		}
	}
}

func TestOfTwo(t *testing.T) {
	setIs(t, "Or", bytes.Or(from('a', 'c'), some('d')), from('a', 'd'))
	setIs(t, "Or of what is in it", bytes.Or(from('a', 'd'), some('b')), from('a', 'd'))
	setIs(t, "Or of far ends", bytes.Or(some(0), some(255)), api.Set{1, 0, 0, 1 << 63})
	setIs(t, "Or of nothing", bytes.Or(none(), none()), none())
	setIs(t, "And", bytes.And(from('a', 'c'), from('b', 'z')), from('b', 'c'))
	setIs(t, "And of what shares nothing", bytes.And(from(0, 63), from(64, 127)), none())
	setIs(t, "And of all", bytes.And(all(), some(255)), some(255))
	setIs(t, "And of nothing", bytes.And(none(), all()), none())
	setIs(t, "Not of nothing", bytes.Not(none()), all())
	setIs(t, "Not of all", bytes.Not(all()), none())
	setIs(t, "Not of one", bytes.Not(some(0)), from(1, 255))
	setIs(t, "Not of a part", bytes.Not(from(128, 255)), from(0, 127))
}

func TestCountAndLeast(t *testing.T) {
	for _, c := range []struct {
		s            api.Set
		count, least int
	}{
		{none(), 0, -1},
		{all(), 256, 0},
		{some(0), 1, 0},
		{some(255), 1, 255},
		{some(63), 1, 63},
		{some(64), 1, 64},
		{some(63, 64), 2, 63},
		{some(64, 63, 192), 3, 63},
		{some(0, 255), 2, 0},
		{from(1, 255), 255, 1},
		{from('a', 'c'), 3, 'a'},
		{from(128, 191), 64, 128},
		{from(192, 254), 63, 192},
	} {
		if got := bytes.Count(c.s); got != c.count {
			t.Errorf("Count(%x) = %d, want %d", c.s, got, c.count)
		}
		if got := bytes.Least(c.s); got != c.least {
			t.Errorf("Least(%x) = %d, want %d", c.s, got, c.least)
		}
	}
}

// TestEdgeSets holds each call of P5.1 against truths, at all pairs of sets with ends at edges.
func TestEdgeSets(t *testing.T) {
	sets := edgeSets()
	for _, b := range edgeBytes() {
		sets = append(sets, some(b), from(0, int(b)), from(int(b), 255))
	}
	for _, s := range sets {
		in := told(s)
		count, least := 0, -1
		for b := 255; b >= 0; b-- {
			if in[b] {
				count, least = count+1, b
			}
			if got := bytes.Has(s, byte(b)); got != in[b] {
				t.Errorf("Has(%x, %d) = %v", s, b, got)
			}
		}
		if bytes.Count(s) != count || bytes.Least(s) != least {
			t.Errorf("Count, Least of %x = %d, %d, want %d, %d", s, bytes.Count(s), bytes.Least(s), count, least)
		}
		setIs(t, "Not", bytes.Not(s), set(those(func(b int) bool { return !in[b] })))
		for _, r := range sets {
			other := told(r)
			setIs(t, "Or", bytes.Or(s, r), set(those(func(b int) bool { return in[b] || other[b] })))
			setIs(t, "And", bytes.And(s, r), set(those(func(b int) bool { return in[b] && other[b] })))
		}
	}
}

func partsAre(t *testing.T, what string, l, want []api.Set) {
	t.Helper()
	if got := bytes.Parts(l); !slices.Equal(got, want) {
		t.Errorf("Parts %s = %x, want %x", what, got, want)
	}
}

func TestParts(t *testing.T) {
	type sets = []api.Set
	partsAre(t, "of no list", nil, sets{all()})
	partsAre(t, "of no sets", sets{}, sets{all()})
	partsAre(t, "of the empty set", sets{none()}, sets{all()})
	partsAre(t, "of all bytes", sets{all()}, sets{all()})
	partsAre(t, "of all and nothing", sets{all(), none(), all()}, sets{all()})
	partsAre(t, "of one set", sets{from('a', 'c')}, sets{bytes.Not(from('a', 'c')), from('a', 'c')})
	partsAre(t, "of one that begins at 0", sets{from(0, 63)}, sets{from(0, 63), from(64, 255)})
	partsAre(t, "of one that ends at 255", sets{from(64, 255)}, sets{from(0, 63), from(64, 255)})
	partsAre(t, "of byte 255", sets{some(255)}, sets{from(0, 254), some(255)})
	partsAre(t, "of byte 0", sets{some(0)}, sets{some(0), from(1, 255)})
	partsAre(t, "of one set twice", sets{some('x'), some('x')}, sets{bytes.Not(some('x')), some('x')})
	partsAre(t, "of a set and what isn't in it", sets{from(9, 70), bytes.Not(from(9, 70))}, sets{bytes.Not(from(9, 70)), from(9, 70)})
	partsAre(t, "of sets that share nothing", sets{from('x', 'z'), from('a', 'c')}, sets{
		bytes.And(bytes.Not(from('x', 'z')), bytes.Not(from('a', 'c'))), from('a', 'c'), from('x', 'z')})
	partsAre(t, "of one that lies in the other", sets{from(10, 200), from(63, 64)}, sets{
		bytes.Not(from(10, 200)), bytes.And(from(10, 200), bytes.Not(from(63, 64))), from(63, 64)})
	partsAre(t, "of one in which the other lies", sets{from(63, 64), from(10, 200)}, sets{
		bytes.Not(from(10, 200)), bytes.And(from(10, 200), bytes.Not(from(63, 64))), from(63, 64)})
	partsAre(t, "of the chapter's example", sets{from('a', 'c'), from('b', 'd')}, sets{
		bytes.Not(from('a', 'd')), some('a'), from('b', 'c'), some('d')})
	partsAre(t, "of the example turned round", sets{from('b', 'd'), from('a', 'c')}, sets{
		bytes.Not(from('a', 'd')), some('a'), from('b', 'c'), some('d')})
	partsAre(t, "of sets that cover all", sets{from(0, 100), from(50, 255)}, sets{from(0, 49), from(50, 100), from(101, 255)})
}

// parts tells bytes apart by which sets hold them: a second way to Parts, in the order in which kinds are met.
func parts(l []api.Set) []api.Set {
	var out []truths
	places := map[string]int{}
	for b := range 256 {
		kind := ""
		for _, s := range l {
			kind += strconv.FormatBool(told(s)[b])
		}
		at, met := places[kind]
		if !met {
			at = len(out)
			places[kind] = at
			out = append(out, truths{})
		}
		out[at][b] = true
	}
	var made []api.Set
	for _, one := range out {
		made = append(made, set(one))
	}
	return made
}

// TestPartsOfEdgeSets goes through all lists of at most two sets with ends at edges, and some of three.
func TestPartsOfEdgeSets(t *testing.T) {
	sets := edgeSets()
	for i, s := range sets {
		partsAre(t, "of one", []api.Set{s}, parts([]api.Set{s}))
		for k, r := range sets {
			l := []api.Set{s, r}
			partsAre(t, "of two", l, parts(l))
			l = append(l, sets[(i*5+k*3+1)%len(sets)])
			partsAre(t, "of three", l, parts(l))
		}
	}
	partsAre(t, "of all edge sets", sets, parts(sets))
	slices.Reverse(sets)
	partsAre(t, "of all edge sets turned round", sets, parts(sets))
}

// ones are the 256 sets of one byte, the greatest first.
func ones() []api.Set {
	var out []api.Set
	for b := 255; b >= 0; b-- {
		out = append(out, some(byte(b)))
	}
	return out
}

// TestManyParts: there are never more parts than bytes, however many sets there are.
func TestManyParts(t *testing.T) {
	rising := ones()
	slices.Reverse(rising)
	partsAre(t, "of each byte", ones(), rising)
	partsAre(t, "of each byte but one", ones()[1:], rising)
	var bits []api.Set
	for n := range 8 {
		bits = append(bits, set(those(func(b int) bool { return b>>n&1 == 1 })))
	}
	partsAre(t, "of each bit", bits, rising)
	var many []api.Set
	for range 100 {
		many = append(many, bits...)
		many = append(many, edgeSets()...)
	}
	partsAre(t, "of many", many, rising)
}

// roomy is l with spare room behind it, in which there are sets that a call must leave alone.
func roomy(l []api.Set) []api.Set {
	out := append(make([]api.Set, 0, len(l)+4), l...)
	for i := len(l); i < cap(out); i++ {
		out[:cap(out)][i] = some(byte(i), 77)
	}
	return out
}

// fill writes a set all over a list and its spare room.
func fill(l []api.Set, s api.Set) {
	l = l[:cap(l)]
	for i := range l {
		l[i] = s
	}
}

// TestMemory: Parts changes nothing that is handed in, and its answer shares nothing, spare room included (R4).
func TestMemory(t *testing.T) {
	for _, l := range [][]api.Set{nil, {}, {all()}, {none()}, {some('x')}, {from('b', 'd'), from('a', 'c')}, ones(), edgeSets()} {
		in := roomy(l)
		whole := slices.Clone(in[:cap(in)])
		want := parts(l)
		first, second := bytes.Parts(in), bytes.Parts(in)
		fill(first, some(9))
		if !slices.Equal(second, want) {
			t.Errorf("two answers of %x share memory", l)
		}
		fill(second, some(8))
		if !slices.Equal(in[:cap(in)], whole) {
			t.Errorf("an argument was changed: %x", l)
		}
		third := bytes.Parts(in)
		fill(in, some(7))
		if !slices.Equal(third, want) {
			t.Errorf("what is done to an argument is seen in an answer: %x", l)
		}
	}
}

// TestSideBySide: calls from several goroutines at once answer what they answer alone (R5).
func TestSideBySide(t *testing.T) {
	sets := edgeSets()
	want := parts(sets)
	var wait sync.WaitGroup
	for range 8 {
		wait.Go(func() {
			for range 20 {
				if !slices.Equal(bytes.Parts(sets), want) {
					t.Error("other parts")
				}
			}
		})
	}
	wait.Wait()
}
