package word_test

import (
	"regexp"
	"slices"
	"strings"
	"testing"

	"topiary/api"
	"topiary/word"
)

// patterns tell the chapter's words a second way, each from a text's front on.
var patterns = map[int]*regexp.Regexp{
	0:          regexp.MustCompile(`^(?:[\t\n\r ]|#[^\n]*)`),
	api.WName:  regexp.MustCompile(`^[A-Za-z_][A-Za-z0-9_]*`),
	api.WRegex: regexp.MustCompile(`^/(?:[^\n/\\]|\\[^\n])*/`),
	api.WSign:  regexp.MustCompile(`^[:;|%]`),
}

// byPatterns tells what All does of a text that isn't too long.
func byPatterns(s string) answer {
	var out []api.Word
	at := 0
next:
	for at < len(s) {
		for kind, pattern := range patterns {
			text := pattern.FindString(s[at:])
			if text == "" {
				continue
			}
			if kind == api.WName && len(text) > api.MaxName {
				return fault(at)
			}
			if kind != 0 {
				out = append(out, api.Word{Kind: kind, At: at, Text: text})
			}
			if kind == api.WRegex {
				out[len(out)-1].Text = text[1 : len(text)-1]
			}
			at += len(text)
			continue next
		}
		return fault(at)
	}
	return fine(out...)
}

// met counts what was answered, so that no kind of it stays untried.
type met struct {
	faults int
	kinds  [4]int
}

func (m *met) hold(t *testing.T, s string) {
	t.Helper()
	got, want := all(s), byPatterns(s)
	if !got.same(want) {
		t.Fatalf("All(%q): %v, want %v", s, got, want)
	}
	if got.err != api.OK {
		m.faults++
		return
	}
	for _, w := range got.words {
		m.kinds[w.Kind]++
	}
	again(t, got.words)
}

func (m *met) enough(t *testing.T, n int) {
	t.Helper()
	if m.faults < n || slices.Min(m.kinds[1:]) < n || m.kinds[0] != 0 {
		t.Error("too few of one kind:", *m)
	}
}

// TestEveryShort: all short texts of the bytes at which something turns are cut as the patterns cut them.
func TestEveryShort(t *testing.T) {
	var m met
	for _, s := range texts(5, "a1/\\#\n ;$") {
		m.hold(t, s)
	}
	for _, s := range texts(9, "/\\\n") {
		m.hold(t, s)
	}
	for _, s := range texts(7, "a/#\n") {
		m.hold(t, s)
	}
	m.enough(t, 1000)
}

// TestMixed: parts of all kinds, one behind the other, in every order and with blanks or none between.
func TestMixed(t *testing.T) {
	long := strings.Repeat("Ab_9", api.MaxName/4)
	parts := []string{"a", "_Z9", long, long + "x", "7", ":", "%", "//", `/a\/b/`, `/\\/`, "/#/", "/a\n", `/\`, "#", "# /a/ $\n", "$", "\xff", "\x00", "é"}
	var m met
	for _, between := range []string{"", " ", "\t", "\r\n", "#x\n"} {
		for _, a := range parts {
			for _, b := range parts {
				for _, c := range parts {
					m.hold(t, a+between+b+between+c)
				}
			}
		}
	}
	m.enough(t, 1000)
}

// TestCovered: what isn't a word's is a blank's, and words don't lie in one another.
func TestCovered(t *testing.T) {
	for _, s := range texts(5, "a/#\n :\\") {
		l, _, e := word.All(s)
		if e != api.OK {
			continue
		}
		end := 0
		for _, w := range append(l, api.Word{At: len(s)}) {
			if w.At < end {
				t.Fatalf("%q: %v", s, l)
			}
			if between := all(s[end:w.At]); !between.same(fine()) {
				t.Fatalf("%q: %v, %q between", s, l, s[end:w.At])
			}
			end = w.At + len(word.Show([]api.Word{w}))
			if w.Kind != 0 && s[w.At:end] != word.Show([]api.Word{w}) {
				t.Fatalf("%q: %v", s, w)
			}
		}
	}
}
