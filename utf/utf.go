// Package utf is layer 1, bytes as text: see shared/doc/01-utf.md.
package utf

import (
	"strings"
	"unicode/utf8"
)

const (
	byteOrderMark = "\ufeff"
	replacement   = "\ufffd"
)

// Text is what bytes say, as a text.
func Text(b []byte) string {
	s := strings.TrimPrefix(string(b), byteOrderMark)
	var out strings.Builder
	out.Grow(len(s))
	broken := 0 // where the last broken piece ends: range stops at each byte of it
	for i, r := range s {
		if i < broken {
			continue
		}
		if r == 0 || r == utf8.RuneError {
			broken = i + piece(s[i:])
			r = utf8.RuneError
		}
		out.WriteRune(r)
	}
	return out.String()
}

// piece is how many bytes of s begin a character together that does not end; at least one.
func piece(s string) int {
	n := 1
	for n < len(s) && !utf8.FullRuneInString(s[:n+1]) { // bytes that can't begin a character count as full
		n++
	}
	return n
}

// Right says whether s is a text.
func Right(s string) bool {
	for i, r := range s {
		if r == 0 {
			return false
		}
		if r == utf8.RuneError && !strings.HasPrefix(s[i:], replacement) { // a broken byte looks like U+FFFD, which may stand
			return false
		}
	}
	return true
}

// Newlines is s with one kind of line's end.
func Newlines(s string) string {
	var out strings.Builder
	out.Grow(len(s))
	next := lineReader(s)
	for line, ended, ok := next(); ok; line, ended, ok = next() {
		out.WriteString(line)
		if ended {
			out.WriteByte('\n')
		}
	}
	return out.String()
}

// Lines are the lines of s, without their ends.
func Lines(s string) []string {
	var out []string
	next := lineReader(strings.Clone(s)) // what comes out shares no memory with s
	for line, _, ok := next(); ok; line, _, ok = next() {
		out = append(out, line)
	}
	return out
}

// lineReader gives the lines of s one by one, and whether they have an end; not ok: there is none any more.
func lineReader(s string) func() (line string, ended, ok bool) {
	at := 0
	return func() (line string, ended, ok bool) {
		from := at
		for at < len(s) && s[at] != '\n' && s[at] != '\r' {
			at++
		}
		line, ended = s[from:at], at < len(s)
		at += endWidth(s[at:])
		return line, ended, at > from
	}
}

// endWidth is how many bytes the line's end has that s begins with, if s is not empty.
func endWidth(s string) int {
	if strings.HasPrefix(s, "\r\n") {
		return 2
	}
	return min(1, len(s))
}
