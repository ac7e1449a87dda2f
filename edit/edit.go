// Package edit is layer 1: see shared/doc/01-edit.md.
package edit

import (
	"strings"

	"topiary/api"
)

// Apply tells what e makes of s.
func Apply(s string, e api.Edit) (string, api.Errno) {
	if f := refusal(s, e); f != api.OK {
		return "", f
	}
	return replaced(s, e), api.OK
}

// Back tells the edit that makes s again of what e makes.
func Back(s string, e api.Edit) (api.Edit, api.Errno) {
	if f := refusal(s, e); f != api.OK {
		return api.Edit{}, f
	}
	return api.Edit{At: e.At, Len: len(e.Text), Text: strings.Clone(gone(s, e))}, api.OK
}

// All does the edits of l up to the first that is refused; the text stands beside its error.
func All(s string, l []api.Edit) (string, int, api.Errno) {
	text := strings.Clone(s)
	for i, e := range l {
		next, f := Apply(text, e)
		if f != api.OK {
			return text, i, f
		}
		text = next
	}
	return text, len(l), api.OK
}

// Diff tells the edit that makes b of a. No limit holds here: it knows no error.
func Diff(a, b string) api.Edit {
	at := sameFront(a, b)
	// The end is looked for only behind the beginning, so that no byte is spared twice.
	behind := sameEnd(a[at:], b[at:])
	return api.Edit{At: at, Len: len(a) - behind - at, Text: strings.Clone(b[at : len(b)-behind])}
}

// Idle tells whether e fits s and leaves it as it is, however long s is. Only a text of the very length, and so the very bytes, does that.
func Idle(s string, e api.Edit) bool {
	return fits(s, e) && gone(s, e) == e.Text
}

// Both tells one edit that does what e and then f do.
func Both(s string, e, f api.Edit) (api.Edit, api.Errno) {
	half, err := Apply(s, e)
	if err != api.OK {
		return api.Edit{}, err
	}
	whole, err := Apply(half, f)
	if err != api.OK {
		return api.Edit{}, err
	}
	return Diff(s, whole), api.OK
}

// fits doesn't add At and Len up: the sum of great ones would wrap round.
func fits(s string, e api.Edit) bool {
	return e.At >= 0 && e.Len >= 0 && e.Len <= len(s)-e.At
}

// refusal is told ahead of making anything, so that no text beyond the limit is ever made.
func refusal(s string, e api.Edit) api.Errno {
	if !fits(s, e) {
		return api.ErrRange
	}
	if len(s)-e.Len+len(e.Text) > api.MaxText {
		return api.ErrFull
	}
	return api.OK
}

// gone is what an edit that fits s takes out of it.
func gone(s string, e api.Edit) string {
	return s[e.At : e.At+e.Len]
}

// replaced is what an edit that fits s makes of it. It is copied, as a sum with but one part that isn't empty is that very part.
func replaced(s string, e api.Edit) string {
	return strings.Clone(s[:e.At] + e.Text + s[e.At+e.Len:])
}

func sameFront(a, b string) int {
	n := 0
	for n < len(a) && n < len(b) && a[n] == b[n] {
		n++
	}
	return n
}

func sameEnd(a, b string) int {
	n := 0
	for n < len(a) && n < len(b) && a[len(a)-1-n] == b[len(b)-1-n] {
		n++
	}
	return n
}
