package word_test

import (
	"slices"
	"strings"
	"sync"
	"testing"
	"unsafe"

	"topiary/api"
	"topiary/word"
)

func of(kind, at int, text string) api.Word { return api.Word{Kind: kind, At: at, Text: text} }
func name(at int, text string) api.Word     { return of(api.WName, at, text) }
func rule(at int, text string) api.Word     { return of(api.WRegex, at, text) }
func sign(at int, text string) api.Word     { return of(api.WSign, at, text) }

// answer is what All tells.
type answer struct {
	words []api.Word
	at    int
	err   api.Errno
}

func all(s string) answer {
	l, at, e := word.All(s)
	return answer{l, at, e}
}

// fine is the answer of a text without a fault.
func fine(words ...api.Word) answer { return answer{words: words} }

// fault is the answer of a text with one at that place.
func fault(at int) answer { return answer{at: at, err: api.ErrForm} }

// full is the answer of a text that is too long.
var full = answer{err: api.ErrFull}

// same tells whether two are the same, nil and empty lists being one.
func (a answer) same(b answer) bool {
	return a.at == b.at && a.err == b.err && slices.Equal(a.words, b.words)
}

// short cuts a text for a message.
func short(s string) string {
	if len(s) > 60 {
		return s[:40] + ".." + s[len(s)-10:]
	}
	return s
}

func holds(t *testing.T, s string, want answer) {
	t.Helper()
	if got := all(s); !got.same(want) {
		t.Errorf("All(%q), of %d bytes: %.200v, want %.200v", short(s), len(s), got, want)
	}
}

// bare is words without their places, which Show leaves behind.
func bare(l []api.Word) []api.Word {
	out := slices.Clone(l)
	for i := range out {
		out[i].At = 0
	}
	return out
}

// texts are all of at most n of these signs.
func texts(n int, signs string) []string {
	out := []string{""}
	for from := 0; n > 0; n-- {
		end := len(out)
		for _, s := range out[from:end] {
			for i := range len(signs) {
				out = append(out, s+signs[i:i+1])
			}
		}
		from = end
	}
	return out
}

func TestAllExamples(t *testing.T) {
	for s, want := range map[string]answer{
		// the chapter's own
		"a:b|/x/;": fine(name(0, "a"), sign(1, ":"), name(2, "b"), sign(3, "|"), rule(4, "x"), sign(7, ";")),
		// a grammar's items
		"token n /[0-9]+/; # digits\nleft p;\ne: e p e %p | n;": fine(
			name(0, "token"), name(6, "n"), rule(8, "[0-9]+"), sign(16, ";"),
			name(27, "left"), name(32, "p"), sign(33, ";"),
			name(35, "e"), sign(36, ":"), name(38, "e"), name(40, "p"), name(42, "e"), sign(44, "%"), name(45, "p"), sign(47, "|"), name(49, "n"), sign(50, ";")),
		// nothing, and blanks alone
		"": fine(), "\t": fine(), "\n": fine(), "\r": fine(), " ": fine(), " \t\r\n\n ": fine(), "#": fine(), "#\n": fine(), "# a : /x": fine(), "# a\n# b\n": fine(), " #\n #": fine(),
		// each blank between, ahead and behind
		"a\tb": fine(name(0, "a"), name(2, "b")), "a\nb": fine(name(0, "a"), name(2, "b")),
		"a\rb": fine(name(0, "a"), name(2, "b")), "a b": fine(name(0, "a"), name(2, "b")),
		"\r\n\ta \n": fine(name(3, "a")), "a#r\nb": fine(name(0, "a"), name(4, "b")),
		// a remark goes up to a byte 10 and no other, with words, faults and remarks in it
		"#a\nb": fine(name(3, "b")), "#\nb": fine(name(2, "b")), "#a\rb\tc": fine(), "a#": fine(name(0, "a")), "a # b": fine(name(0, "a")),
		"#$1/\\\x00\xff#\n;": fine(sign(9, ";")), "##\n##\n:": fine(sign(6, ":")), "#\\\n:": fine(sign(3, ":")), "#/\n/a/": fine(rule(3, "a")),
		// each sign
		":": fine(sign(0, ":")), ";": fine(sign(0, ";")), "|": fine(sign(0, "|")), "%": fine(sign(0, "%")),
		"::": fine(sign(0, ":"), sign(1, ":")), ";|": fine(sign(0, ";"), sign(1, "|")),
		// words with no blank between them
		"a/x/b": fine(name(0, "a"), rule(1, "x"), name(4, "b")), "/a//b/": fine(rule(0, "a"), rule(3, "b")), "%p/x/": fine(sign(0, "%"), name(1, "p"), rule(2, "x")),
		"////": fine(rule(0, ""), rule(2, "")),
	} {
		holds(t, s, want)
	}
}

func TestAllNames(t *testing.T) {
	for _, s := range []string{"a", "z", "A", "Z", "_", "__", "a1", "_1", "a_", "aZ09_z", "token", "Token", "abcdefghijklmnop", "_234567890123456", "A______________9"} {
		holds(t, s, fine(name(0, s)))
		holds(t, ";"+s+":", fine(sign(0, ";"), name(1, s), sign(1+len(s), ":")))
		holds(t, s+"/x/", fine(name(0, s), rule(len(s), "x")))
		holds(t, s+"#", fine(name(0, s)))
	}
	for _, first := range []string{"a", "Z", "_"} {
		for _, more := range []string{"a", "Q", "7", "_"} {
			for _, n := range []int{api.MaxName - 1, api.MaxName, api.MaxName + 1, api.MaxName + 2, 2 * api.MaxName, 2*api.MaxName + 1, 256 + 1, 3000} {
				s := first + strings.Repeat(more, n-1)
				if n <= api.MaxName {
					holds(t, s, fine(name(0, s)))
					holds(t, " "+s+" b", fine(name(1, s), name(n+2, "b")))
					continue
				}
				holds(t, s, fault(0))
				holds(t, "b "+s+";", fault(2))
				holds(t, "/x/"+s, fault(3))
			}
		}
	}
	// in a rule's text and in a remark letters are no name
	long := strings.Repeat("a", api.MaxName+1)
	holds(t, "/"+long+"/", fine(rule(0, long)))
	holds(t, "#"+long, fine())
}

func TestAllRules(t *testing.T) {
	for _, s := range []string{
		"", "x", "x y", "\t\r ", "#", ":;|%", `\/`, `\\`, `\\\\`, `\\\/`, `\/\/`, `x\/y`, `a\\`, `\a`, `\ `, `\` + "\r", `\` + "\x00", `\` + "\xff", "\x00", "\xff", "é", `\é`, "[", "(", `a\n`, `1`, `$`,
	} {
		holds(t, "/"+s+"/", fine(rule(0, s)))
		holds(t, "a/"+s+"/b", fine(name(0, "a"), rule(1, s), name(3+len(s), "b")))
		holds(t, "/"+s+"//"+s+"/", fine(rule(0, s), rule(2+len(s), s)))
		holds(t, "#\n/"+s+"/#", fine(rule(2, s)))
		// the first slash that isn't taken along ends it, and the next one begins another
		holds(t, "/"+s+"/ /", fault(3+len(s)))
		// one that doesn't end, at the text's end and at a byte 10
		for _, end := range []string{"", "\n", "\n/", "\n/ /x/", `\`, `\` + "\n", `\` + "\n/", `\/`, `\/` + "\n/", `\\\/`} {
			holds(t, "/"+s+end, fault(0))
			holds(t, "a ;/"+s+end, fault(3))
			holds(t, "/"+s+"//"+s+end, fault(2+len(s)))
		}
	}
	holds(t, `/\\/`, fine(rule(0, `\\`)))
	holds(t, `/\\//`, fault(4))
	holds(t, `/\/`, fault(0))
	holds(t, `/\//`, fine(rule(0, `\/`)))
	holds(t, `/\///`, fault(4))
	holds(t, "/\n/", fault(0))
	holds(t, "/a#\n/", fault(0))
	holds(t, "/", fault(0))
	holds(t, "///", fault(2))
}

// begins tells how a text of one byte is answered.
func begins(b byte) (kind int, blank, whole bool) {
	switch {
	case strings.IndexByte("abcdefghijklmnopqrstuvwxyzABCDEFGHIJKLMNOPQRSTUVWXYZ_", b) >= 0:
		return api.WName, false, true
	case strings.IndexByte(":;|%", b) >= 0:
		return api.WSign, false, true
	case strings.IndexByte("\t\n\r #", b) >= 0:
		return 0, true, true
	}
	return 0, false, false
}

// TestAllBytes: each byte where a word may begin, first, behind words and last; and each within a name, a rule's text and a remark.
func TestAllBytes(t *testing.T) {
	for n := range 256 {
		b := string([]byte{byte(n)})
		kind, blank, whole := begins(byte(n))
		switch {
		case blank:
			holds(t, b, fine())
			holds(t, "a "+b, fine(name(0, "a")))
			holds(t, b+"\na", fine(name(2, "a")))
			holds(t, "a"+b+"\nb", fine(name(0, "a"), name(3, "b")))
		case whole:
			holds(t, b, fine(of(kind, 0, b)))
			holds(t, "a "+b, fine(name(0, "a"), of(kind, 2, b)))
			holds(t, b+" a", fine(of(kind, 0, b), name(2, "a")))
			holds(t, "a "+b+" b", fine(name(0, "a"), of(kind, 2, b), name(4, "b")))
		default:
			holds(t, b, fault(0))
			holds(t, "a "+b, fault(2))
			holds(t, b+" a", fault(0))
			holds(t, "a:/x/ "+b+" b", fault(6))
			holds(t, "a:/x/"+b, fault(5))
			holds(t, "#\n;"+b, fault(3))
		}
		switch inside := "a" + b + "c"; {
		case kind == api.WName || '0' <= n && n <= '9':
			holds(t, inside, fine(name(0, inside)))
		case kind == api.WSign:
			holds(t, inside, fine(name(0, "a"), sign(1, b), name(2, "c")))
		case n == '#':
			holds(t, inside, fine(name(0, "a")))
		case blank:
			holds(t, inside, fine(name(0, "a"), name(2, "c")))
		default:
			holds(t, inside, fault(1))
		}
		if n == 10 {
			holds(t, "/a"+b+"c/", fault(0))
			holds(t, `/a\`+b+"c/", fault(0))
			holds(t, "#a"+b+"c", fine(name(3, "c")))
			continue
		}
		if n != '/' && n != '\\' {
			holds(t, "/a"+b+"c/", fine(rule(0, "a"+b+"c")))
			holds(t, "/"+b+"/", fine(rule(0, b)))
		}
		holds(t, `/a\`+b+"c/", fine(rule(0, `a\`+b+"c")))
		holds(t, `/\`+b+"/", fine(rule(0, `\`+b)))
		holds(t, "#a"+b+"c", fine())
	}
}

// TestAllFaults: a digit or another byte that begins nothing; of two faults the first one counts, of whatever kinds they are.
func TestAllFaults(t *testing.T) {
	for s, at := range map[string]int{
		"1": 0, "1a": 0, "0_": 0, " 9": 1, "a 1b": 2, ":1": 1, "/x/1": 3, "a-b": 1, "\\": 0, "a\\b": 1, "a$": 1, "$": 0, "é": 0, "aé": 1, "\x00": 0, "a\x00": 1, "\xff": 0, "a \xff": 2, "a\vb": 1, "a\fb": 1, "a\u00a0b": 1, "\ufeffa": 0, "*": 0, "(a)": 0, "a,b": 1, "a=b": 1, "'a'": 0, "\"a\"": 0, "a.": 1, "{": 0, "[a]": 0, "@": 0, "`": 0,
	} {
		holds(t, s, fault(at))
	}
	long := strings.Repeat("n", api.MaxName+1)
	faults := []string{"$", "1", "é", "/x", `/x\/`, "/x\\", long, long + "$"}
	for _, one := range faults {
		for _, other := range faults {
			for _, ahead := range []string{"", " ", "#r\n", "a ", "a;", "/y/", "/$/", "/1é/|#$\n"} {
				holds(t, ahead+one+"\n"+other, fault(len(ahead)))
				holds(t, ahead+one+"\n a "+other, fault(len(ahead)))
			}
		}
	}
}

// TestAllLimit: texts of MaxText bytes are cut, those of one more aren't, whatever stands in them.
func TestAllLimit(t *testing.T) {
	const most = api.MaxText
	if most != 4000 || api.MaxName != 16 {
		t.Fatal("other limits than the document's")
	}
	blanks := strings.Repeat(" \t\r\n", most/4)
	holds(t, blanks, fine())
	holds(t, "#"+blanks[:most-5]+"   a", fine(name(most-1, "a")))
	holds(t, blanks[:most-1]+";", fine(sign(most-1, ";")))
	holds(t, blanks[:most-1]+"$", fault(most-1))
	holds(t, blanks[:most-1]+"/", fault(most-1))
	holds(t, "#"+strings.Repeat("$", most-1), fine())
	inside := strings.Repeat("x", most-2)
	holds(t, "/"+inside+"/", fine(rule(0, inside)))
	holds(t, "/"+inside+"x", fault(0))
	holds(t, strings.Repeat("x", most), fault(0))
	var signs []api.Word
	for n := range most {
		signs = append(signs, sign(n, "|"))
	}
	holds(t, strings.Repeat("|", most), fine(signs...))
	for _, n := range []int{most + 1, most + 2, 2 * most, 100000, 1 << 22} {
		for _, s := range []string{" ", "|", "x", "#", "$", "/", "a ", "\n"} {
			holds(t, strings.Repeat(s, n)[:n], full)
		}
		holds(t, "$"+strings.Repeat(" ", n-1), full)
		holds(t, strings.Repeat(" ", n-1)+"$", full)
		holds(t, "/"+strings.Repeat("x", n-2)+"/", full)
		holds(t, "#"+strings.Repeat("x", n-1), full)
	}
}

func TestShow(t *testing.T) {
	for _, c := range []struct {
		words []api.Word
		want  string
	}{
		{nil, ""}, {[]api.Word{}, ""},
		{[]api.Word{name(0, "a")}, "a"}, {[]api.Word{rule(0, "x")}, "/x/"}, {[]api.Word{rule(0, "")}, "//"}, {[]api.Word{sign(0, ":")}, ":"},
		{[]api.Word{name(0, "a"), name(2, "b")}, "a b"}, {[]api.Word{rule(0, ""), rule(2, "")}, "// //"}, {[]api.Word{rule(0, `\/`), sign(9, "%"), name(3, "_")}, `/\// % _`},
		{[]api.Word{name(0, "a"), sign(1, ":"), name(2, "b"), sign(3, "|"), rule(4, "x"), sign(7, ";")}, "a : b | /x/ ;"},
		// places don't matter
		{[]api.Word{name(1<<62, "b"), name(-1<<63, "a")}, "b a"},
		// what All never told: other kinds and texts, which are written as they are
		{[]api.Word{{}}, ""}, {[]api.Word{{}, {}}, " "}, {[]api.Word{{}, {}, {}}, "  "}, {[]api.Word{name(0, ""), sign(0, ""), rule(0, "")}, "  //"},
		{[]api.Word{of(0, 0, "x"), of(4, 0, "y"), of(-1, 0, "z"), of(1<<62, 0, "/"), of(-1<<63, 0, "#")}, "x y z / #"},
		{[]api.Word{name(0, "a b"), sign(0, "\n"), rule(0, "/"), name(0, "/a/"), rule(0, "\\"), sign(0, "é\x00\xff")}, "a b \n /// /a/ /\\/ é\x00\xff"},
	} {
		if got := word.Show(c.words); got != c.want {
			t.Errorf("Show(%v): %q, want %q", c.words, got, c.want)
		}
	}
	for _, n := range []int{1000, 4000, 4001, 100000} {
		l := slices.Repeat([]api.Word{rule(0, "ab")}, n)
		if got := word.Show(l); got != strings.Repeat("/ab/ ", n)[:5*n-1] {
			t.Errorf("Show of %d rules: %d bytes, %q", n, len(got), short(got))
		}
	}
	if got := word.Show([]api.Word{rule(0, strings.Repeat("x", 1<<20))}); got != "/"+strings.Repeat("x", 1<<20)+"/" {
		t.Errorf("Show of a great rule: %d bytes", len(got))
	}
}

// again tells whether All of Show of words has their kinds and texts.
func again(t *testing.T, l []api.Word) {
	t.Helper()
	s := word.Show(l)
	got := all(s)
	if got.err != api.OK || got.at != 0 || !slices.Equal(bare(got.words), bare(l)) {
		t.Fatalf("All of %q: %.200v, want %.200v", short(s), got, l)
	}
	if once := word.Show(got.words); once != s {
		t.Fatalf("Show of All of %q: %q", short(s), short(once))
	}
}

func TestShowAgain(t *testing.T) {
	for _, s := range []string{
		"", " ", "#", "a:b|/x/;", "a\tb\nc\rd#e\nf", `/\//`, "////", `/\\//\\/`, "/#/#", "/ /a", "/x/a/y/", "%p", ":;|%", "/\x00\xff\r\t/", "/é/", "token n /[0-9]+/; skip b /[ ]+/; left n; e: e n %n | ; start e;", "abcdefghijklmnop abcdefghijklmnop",
		"/" + strings.Repeat("x", api.MaxText-2) + "/", strings.Repeat("|", api.MaxText/2),
	} {
		l, _, e := word.All(s)
		if e != api.OK {
			t.Fatalf("%q: %d", short(s), e)
		}
		again(t, l)
	}
	// with its blanks a text may outgrow MaxText: the blanks stay, and All then says so
	l, _, _ := word.All(strings.Repeat(":", api.MaxText/2+1))
	s := word.Show(l)
	if s != strings.Repeat(": ", api.MaxText/2)+":" {
		t.Errorf("%d bytes: %q", len(s), short(s))
	}
	holds(t, s, full)
}

// TestNewMemory: no text that is answered shares memory with one that was handed in, and no two answers share any, spare room included.
func TestNewMemory(t *testing.T) {
	given := []byte("token ab /x*/ ; : %")
	s := unsafe.String(&given[0], len(given))
	l, _, _ := word.All(s)
	kept := slices.Clone(l)
	for i := range kept {
		kept[i].Text = strings.Clone(kept[i].Text)
	}
	other, _, _ := word.All(s)
	for i := range other[:cap(other)] {
		other[:cap(other)][i] = api.Word{Kind: 9, At: 9, Text: "?"}
	}
	for i := range given {
		given[i] = '?'
	}
	if !slices.Equal(l, kept) {
		t.Errorf("%v, want %v", l, kept)
	}
	for _, w := range []api.Word{name(0, "?"), rule(0, "?"), sign(0, "?")} {
		text := []byte("abc")
		w.Text = unsafe.String(&text[0], len(text))
		list := []api.Word{w, name(1, "spare"), name(2, "spare")}
		shown := word.Show(list[:1])
		want := strings.Clone(shown)
		if list[0] != w || list[1] != (name(1, "spare")) || list[2] != (name(2, "spare")) {
			t.Error("the list was changed:", list)
		}
		copy(text, "???")
		if shown != want {
			t.Errorf("%q, want %q", shown, want)
		}
	}
}

// TestManyAtOnce: calls at the same time have nothing to do with one another.
func TestManyAtOnce(t *testing.T) {
	var wait sync.WaitGroup
	for n := range 8 {
		wait.Go(func() {
			s := strings.Repeat("a /x/ ", n) + ";"
			for range 50 {
				l, at, e := word.All(s)
				if e != api.OK || at != 0 || len(l) != 2*n+1 || word.Show(l) != s {
					t.Error(n, l, at, e)
				}
				if got := all(s + "$"); !got.same(fault(len(s))) {
					t.Error(n, got)
				}
			}
		})
	}
	wait.Wait()
}
