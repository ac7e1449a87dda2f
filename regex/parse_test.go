package regex_test

import (
	"slices"
	"strings"
	"testing"

	"topiary/api"
	"topiary/regex"
)

func readsAs(t *testing.T, s string, want cells) {
	t.Helper()
	if l, n, e := regex.Parse(s); !slices.Equal(l, want) || n != 0 || e != api.OK {
		t.Errorf("Parse(%q) = %v, %d, %d, want %v", s, l, n, e, want)
	}
}

func faultAt(t *testing.T, s string, at int) {
	t.Helper()
	if l, n, e := regex.Parse(s); len(l) != 0 || n != at || e != api.ErrForm {
		t.Errorf("Parse(%q) = %v, %d, %d, want a fault at %d", s, l, n, e, at)
	}
}

func isFull(t *testing.T, s string) {
	t.Helper()
	if l, n, e := regex.Parse(s); len(l) != 0 || n != 0 || e != api.ErrFull {
		t.Errorf("Parse of %d bytes = %v, %d, %d, want ErrFull", len(s), l, n, e)
	}
}

func TestParseJoins(t *testing.T) {
	a, b, c := one('a'), one('b'), one('c')
	for s, want := range map[string]cells{
		"a": {a}, "a|b*": {a, b, star, or}, "a**": {a, star, star}, "a*+?": {a, star, plus, opt},
		"abc": {a, b, cat, c, cat}, "a|b|c": {a, b, or, c, or}, "a(bc)": {a, b, c, cat, cat}, "a|(b|c)": {a, b, c, or, or},
		"(ab)c": {a, b, cat, c, cat}, "(a|b)|c": {a, b, or, c, or}, "(a|b)c": {a, b, or, c, cat}, "a(b|c)": {a, b, c, or, cat},
		"ab|c": {a, b, cat, c, or}, "a|bc": {a, b, c, cat, or}, "ab*": {a, b, star, cat}, "(ab)*": {a, b, cat, star}, "(a|b)+": {a, b, or, plus},
		"()": {empty}, "()*": {empty, star}, "()()": {empty, empty, cat}, "()|a": {empty, a, or}, "a|()": {a, empty, or}, "(())": {empty},
		"(a)": {a}, "((a))": {a}, "(a*)*": {a, star, star}, "(a)*b?": {a, star, b, opt, cat},
		"ab?|c": {a, b, opt, cat, c, or},
	} {
		readsAs(t, s, want)
	}
}

func TestParseAtoms(t *testing.T) {
	for s, want := range map[string]api.Cell{
		" ": one(32), "~": one(126), "-": one('-'), "^": one('^'), "#": one('#'), "$": one('$'), "{": one('{'), "}": one('}'), "\"": one('"'), ",": one(','), "0": one('0'),
		".": point(), `\n`: one(10), `\t`: one(9), `\r`: one(13),
		`\x00`: one(0), `\x1f`: one(31), `\x1F`: one(31), `\x20`: one(32), `\x7e`: one(126), `\x7f`: one(127), `\xff`: one(255), `\xFF`: one(255), `\xaB`: one(0xab), `\x0a`: one(10),
		`\.`: one('.'), `\*`: one('*'), `\+`: one('+'), `\?`: one('?'), `\(`: one('('), `\)`: one(')'), `\[`: one('['), `\]`: one(']'), `\|`: one('|'), `\\`: one('\\'), `\/`: one('/'), `\-`: one('-'), `\^`: one('^'),
	} {
		readsAs(t, s, cells{want})
	}
	readsAs(t, `\x414`, cells{one('A'), one('4'), cat})
	readsAs(t, `\\n`, cells{one('\\'), one('n'), cat})
	readsAs(t, `\.*`, cells{one('.'), star})
	readsAs(t, " -", cells{one(' '), one('-'), cat})
}

// TestParseBytes: of all bytes, which tell themselves, which are told by \, and which begin an atom.
func TestParseBytes(t *testing.T) {
	for b := range 256 {
		s := string([]byte{byte(b)})
		switch {
		case s == ".":
			readsAs(t, s, cells{point()})
		case s == "(" || s == "[":
			faultAt(t, s, 1)
		case b < 32 || b > 126 || strings.Contains(`*+?)]|\/`, s):
			faultAt(t, s, 0)
		default:
			readsAs(t, s, cells{one(byte(b))})
		}
		if strings.Contains(`.*+?()[]|\/-^`, s) {
			readsAs(t, `\`+s, cells{one(byte(b))})
			readsAs(t, `[\`+s+`]`, cells{one(byte(b))})
		} else if !strings.Contains("ntrx", s) {
			faultAt(t, `\`+s, 0)
			faultAt(t, `a[b\`+s+`]`, 3)
		}
		digits := `\x` + "0123456789abcdef"[b>>4:b>>4+1] + "0123456789ABCDEF"[b&15:b&15+1]
		readsAs(t, digits, cells{one(byte(b))})
		readsAs(t, "["+digits+"]", cells{one(byte(b))})
	}
}

// TestParseBytesOfClasses: of all bytes, which tell themselves in a class.
func TestParseBytesOfClasses(t *testing.T) {
	for b := range 256 {
		s := string([]byte{byte(b)})
		switch {
		case strings.Contains(`]\\-`, s): // these do something there: TestParseClasses, TestParseFaults
		case b < 32 || b > 126 || strings.Contains(`[^/`, s):
			faultAt(t, "[a"+s+"]", 2)
			faultAt(t, "[ -"+s+"]", 3)
			faultAt(t, `[^\`+"x61"+s+"]", 6)
		default:
			readsAs(t, "["+s+"]", cells{one(byte(b))})
			readsAs(t, "[ -"+s+"]", cells{span(32, byte(b))})
			readsAs(t, "[^"+s+"-~]", cells{others(span(byte(b), 126))})
		}
	}
}

func TestParseClasses(t *testing.T) {
	for s, want := range map[string]api.Cell{
		"[a]": one('a'), "[ab]": some("ab"), "[ba]": some("ab"), "[aa]": one('a'), "[a-c]": span('a', 'c'), "[a-a]": one('a'), "[a-bb-c]": span('a', 'c'),
		"[xa-c]": some("abcx"), "[a-cx]": some("abcx"), "[a-c0-2]": some("abc012"),
		"[*.]": some("*."), "[.]": one('.'), "[+?()|*.]": some("+?()|*."), "[(-*]": span('(', '*'), "[.-.]": one('.'), "[ -~]": span(32, 126),
		"[^a]": others(one('a')), "[^a-c]": others(span('a', 'c')), "[^ab]": others(some("ab")), `[^\]]`: others(one(']')), `[^\^]`: others(one('^')), `[^\n]`: point(), "[^.]": others(one('.')),
		`[\^]`: one('^'), `[\-]`: one('-'), `[a\-c]`: some("a-c"), `[a\^]`: some("a^"), `[\[\]\\\^\-\/]`: some(`[]\^-/`), `[\.\*\|]`: some(".*|"),
		`[+-\-]`: span('+', '-'), `[\--\/]`: span('-', '/'), `[\[-\]]`: span('[', ']'), `[\^-a]`: span('^', 'a'),
		`[\t-\r]`: span(9, 13), `[\n\t]`: some("\n\t"), `[\x00-\x1f]`: span(0, 31), `[\x00-\xff]`: all(), `[\x00-\xFF]`: all(), `[\x7f-\xff]`: span(127, 255),
		`[^\x00-\xfe]`: one(255), `[^\x01-\xff]`: one(0), `[\xff-\xff]`: one(255),
		`[x-z\x41]`: some("xyzA"), "[0-9a-fA-F]": some("0123456789abcdefABCDEF"),
	} {
		readsAs(t, s, cells{want})
	}
	readsAs(t, "[a]*", cells{one('a'), star})
	readsAs(t, "[a][b]", cells{one('a'), one('b'), cat})
	readsAs(t, "[^a]|^a", cells{others(one('a')), one('^'), one('a'), cat, or})
	readsAs(t, "a-c", cells{one('a'), one('-'), cat, one('c'), cat})
}

func TestParseFaults(t *testing.T) {
	for s, at := range map[string]int{
		// rows, pieces, parentheses
		"": 0, "|": 0, "|a": 0, "a|": 2, "a||b": 2, "a|*": 2, "(|a)": 1, "(a|)": 3, "(a||b)": 3, "a(|)": 2, "*": 0, "+a": 0, "?": 0, "a|+": 2, "(*)": 1,
		"(": 1, "(a": 2, "((a)": 4, "(()": 3, "a(": 2, "(a|": 3, "(a*": 3, ")": 0, "a)": 1, "())": 2, "(a))b": 3, "a|)": 2, "a*)": 2,
		"a/b": 1, "/": 0, "a]": 1, "]": 0, "a\n": 1, "\n": 0, "\t": 0, "ab\x00": 2, "a\x1f": 1, "a\x7f": 1, "a\x80": 1, "\xff": 0, "aé": 1,
		// bytes told by \
		`\`: 0, `a\`: 1, `a\q`: 1, `\N`: 0, `\x`: 0, `\x4`: 0, `a\x4`: 1, `\xg0`: 0, `\x0g`: 0, `ab\xz`: 2, `\X41`: 0, "\\\n": 0, `\x-1`: 0, `\0`: 0, `a|\a`: 2, `(\`: 1, `\ `: 0, `\x4)`: 0,
		// classes
		"[": 1, "[]": 1, "[^": 2, "[^]": 2, "[a": 2, "[^a": 3, "[]a]": 1, "[^]a]": 2, "[a-": 3, "[a-]": 3, "[a-b": 4, "[a-b-c]": 4, "[a-b-": 4, "[a--]": 3, "[-a]": 1, "[-]": 1, "[a^]": 2, "[^^]": 2, "[[]": 1, "[a[]": 2, "[/]": 1, "[a/]": 2, "[a-/]": 3, "[a-^]": 3, "[a-[]": 3,
		"[\n]": 1, "[a\x7f]": 2, "[a-\xff]": 3, "[\x00]": 1, "a[": 2, "a[b": 3, "([a": 3, "[a|b": 4, "[a)": 3, "[^-a]": 2,
		`[\`: 1, `[\q]`: 1, `[\x4]`: 1, `[\x`: 1, `[a\`: 2, `[a\q]`: 2, `[a-\`: 3, `[a-\q]`: 3, `[a-\x4]`: 3, `[a-\x`: 3, `[\]`: 3, `[a\]`: 4, `[a-\]`: 1, `[A-\]`: 5, `[\-`: 3, `[a\-`: 4,
		// items and classes that are none
		"[b-a]": 1, "[cb-a]": 2, "[^b-a]": 2, "[b-a": 1, "[c-ab-a]": 1, "[a-zb-a]": 4, `[a-\-]`: 1, `[\xff-\x00]`: 1, `[x\xff-\xfe]`: 2, `[a\x01-\x00`: 2,
		`[^\x00-\xff]`: 0, `a[^\x00-\xff]`: 1, `([^\x00-ab-\xff])`: 1, `[^\x00-\xff](`: 0, `[^\n.-\xff\x00-\x09\x0b--`: 24, `[^\x00-\xff`: 11, `[^\x00-\xff-]`: 11,
	} {
		faultAt(t, s, at)
	}
}

func TestParseFull(t *testing.T) {
	full := func(n int) string { return strings.Repeat("a", n) }
	isFull(t, full(201))
	isFull(t, full(100000))
	isFull(t, strings.Repeat("(", 201))
	isFull(t, "*"+full(200))
	isFull(t, full(200)+"/")
	isFull(t, "["+full(200))
	// Of at most 200 bytes: a fault of form comes ahead of too many cells.
	faultAt(t, full(199)+"/", 199)
	faultAt(t, full(198)+"(|", 199)
	faultAt(t, strings.Repeat("(", 200), 200)
	faultAt(t, "["+full(199), 200)
	faultAt(t, full(199)+`\`, 199)
	faultAt(t, full(200)[:199]+"|", 200)
	isFull(t, full(200))
	isFull(t, full(31))
	isFull(t, strings.Repeat("a|", 30)+"a")
	isFull(t, "a"+strings.Repeat("*", 60))
	isFull(t, full(30)+"*?")
	isFull(t, strings.Repeat("()", 31))
	isFull(t, "("+full(31)+")")
	readsAs(t, full(30), row(30, cat))
	readsAs(t, full(30)+"*", join(row(29, cat), cells{one('a'), star, cat}))
	readsAs(t, "("+full(30)+")+", join(row(30, cat), cells{plus}))
	readsAs(t, strings.Repeat("a|", 29)+"a", row(30, or))
	readsAs(t, "a"+strings.Repeat("*", 59), wrapped(cells{one('a')}, 59, star))
	readsAs(t, "["+full(198)+"]", cells{one('a')})
	readsAs(t, strings.Repeat("(", 99)+"ab"+strings.Repeat(")", 99), cells{one('a'), one('b'), cat})
	readsAs(t, strings.Repeat("(", 100)+strings.Repeat(")", 100), cells{empty})
	readsAs(t, full(29)+"[^"+strings.Repeat("b", 168)+"]", join(row(29, cat), cells{others(one('b')), cat}))
}

// goesOn tells whether one of these may stand behind s, and any number of ) behind that, so that all of it is a rule's text.
func goesOn(s string, ways ...string) bool {
	for _, more := range ways {
		for n := range strings.Count(s, "(") + 1 {
			if _, _, e := regex.Parse(s + more + strings.Repeat(")", n)); e == api.OK {
				return true
			}
		}
	}
	return false
}

// faultOf is the place of a fault, if there is one; what else is answered must be as told.
func faultOf(t *testing.T, s string) (int, bool) {
	t.Helper()
	l, at, e := regex.Parse(s)
	fine := e == api.OK && at == 0 && regex.Right(l)
	faulty := e == api.ErrForm && len(l) == 0 && 0 <= at && at <= len(s)
	if !fine && !faulty {
		t.Fatalf("Parse(%q) = %v, %d, %d", s, l, at, e)
	}
	return at, faulty
}

// TestParseFaultsOfAll: at all short texts, what is ahead of a fault begins a rule's text, and with the byte of the fault nothing does.
func TestParseFaultsOfAll(t *testing.T) {
	faults := 0
	everyText(6, "ab()|*/", func(s string) {
		at, faulty := faultOf(t, s)
		if !faulty {
			return
		}
		faults++
		if !goesOn(s[:at], "", "a") || at < len(s) && goesOn(s[:at+1], "", "a") {
			t.Fatalf("Parse(%q): a fault at %d", s, at)
		}
	})
	if faults < 1000 {
		t.Error("too few faults:", faults)
	}
}

// TestParseFaultsOfAllClasses: likewise, but that with the byte of the fault something may begin, where a byte told by \, or an item of two, does.
func TestParseFaultsOfAllClasses(t *testing.T) {
	ways := []string{"", "]", "a]", "~]", "f]", "ff]", "xff]", `\xff]`, "a", "f", "ff", "xff"}
	faults := 0
	everyText(6, "a]^-[\\x1", func(s string) {
		at, faulty := faultOf(t, s)
		if !faulty {
			return
		}
		faults++
		if !goesOn(s[:at], ways...) || at < len(s) && s[at] != '\\' && goesOn(s, ways...) {
			t.Fatalf("Parse(%q): a fault at %d", s, at)
		}
		if at < len(s) && s[at] != '\\' && !strings.Contains(s[at+1:], "-") && goesOn(s[:at+1], ways...) {
			t.Fatalf("Parse(%q): a fault at %d", s, at)
		}
	})
	if faults < 1000 {
		t.Error("too few faults:", faults)
	}
}
