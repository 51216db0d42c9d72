package utf_test

import (
	"slices"
	"strings"
	"testing"

	"tympan/utf"
)

// edges are bytes at which what may stand changes, of the forms of characters.
const edges = "\x00\x01A\x7f\x80\x8f\x90\x9f\xa0\xbb\xbf\xc0\xc1\xc2\xdf\xe0\xe1\xec\xed\xee\xef\xf0\xf1\xf3\xf4\xf5\xff"

// each calls do with all strings of at most so many bytes of an alphabet, each once.
func each(alphabet string, most int, do func(s string)) {
	do("")
	if most == 0 {
		return
	}
	for i := range len(alphabet) {
		each(alphabet, most-1, func(s string) { do(alphabet[i:i+1] + s) })
	}
}

// width is how many bytes a character has that begins with c; 0: none does.
func width(c byte) int {
	switch {
	case c < 0x80:
		return 1
	case 0xc0 <= c && c < 0xe0:
		return 2
	case 0xe0 <= c && c < 0xf0:
		return 3
	case 0xf0 <= c && c < 0xf8:
		return 4
	}
	return 0
}

// begins says whether s is a character's shortest form, or the beginning of one, by the numbers that it may grow to.
func begins(s string) bool {
	n := 0
	if s != "" {
		n = width(s[0])
	}
	if n < len(s) || n == 0 {
		return false
	}
	low := int(s[0])
	if n > 1 {
		low &= 1<<(7-n) - 1
	}
	high := low
	for i := 1; i < n; i++ {
		low, high = low<<6, high<<6|0x3f
		if i < len(s) {
			if s[i]&0xc0 != 0x80 {
				return false
			}
			low |= int(s[i] & 0x3f)
			high = high&^0x3f | int(s[i]&0x3f)
		}
	}
	low = max(low, []int{0, 1, 0x80, 0x800, 0x10000}[n])
	high = min(high, []int{0, 0x7f, 0x7ff, 0xffff, 0x10ffff}[n])
	return low <= high && !(0xd800 <= low && high <= 0xdfff)
}

// textByForms is Text, piece by piece, from what begins says alone.
func textByForms(s string) string {
	s = strings.TrimPrefix(s, "\xef\xbb\xbf")
	out := ""
	for s != "" {
		n := 0
		for n < len(s) && begins(s[:n+1]) {
			n++
		}
		if n > 0 && n == width(s[0]) {
			out += s[:n]
		} else {
			out += "\xef\xbf\xbd"
		}
		s = s[max(n, 1):]
	}
	return out
}

func TestText(t *testing.T) {
	for _, x := range []struct{ in, out string }{
		{"", ""}, {"a", "a"}, {"a\x00\xffb", "a\ufffd\ufffdb"},
		{"\xef\xbb\xbfa", "a"}, {"\xef\xbb\xbf", ""}, {"\xef\xbb\xbf\xef\xbb\xbfa", "\ufeffa"}, {"a\xef\xbb\xbf", "a\ufeff"},
		{"\xef\xbb", "\ufffd"}, {"\xef\xbbA", "\ufffdA"}, {"\x00\xef\xbb\xbf", "\ufffd\ufeff"}, {"\xef\xbb\xef\xbb\xbf", "\ufffd\ufeff"},
		{"\xe2\x82A", "\ufffdA"}, {"\xe2\x82", "\ufffd"}, {"\xe2\xe2\x82\xac", "\ufffd€"}, {"\xe2\x82\xc3\xa9", "\ufffdé"},
		{"\xf0\x80\x80", "\ufffd\ufffd\ufffd"}, {"\xed\xa0\x80", "\ufffd\ufffd\ufffd"}, {"\xed\x9f\xbf", "\ud7ff"},
		{"\xf0\x9f\x98", "\ufffd"}, {"\xf0\x9f\x98A", "\ufffdA"}, {"\xf0\x9f\x98\x80", "😀"}, {"\xf0\x9f\x98\xf0\x9f\x98\x80", "\ufffd😀"},
		{"\xf4\x8f\xbf\xbf", "\U0010ffff"}, {"\xf4\x90\x80\x80", "\ufffd\ufffd\ufffd\ufffd"}, {"\xf5\x80", "\ufffd\ufffd"},
		{"\xc0\x80", "\ufffd\ufffd"}, {"\xc1\xbf", "\ufffd\ufffd"}, {"\xc2\x80", "\u0080"}, {"\xc2", "\ufffd"}, {"\xe0\x9f\xbf", "\ufffd\ufffd\ufffd"},
		{"\x80\xbf", "\ufffd\ufffd"}, {"\xfe\xff", "\ufffd\ufffd"}, {"\xef\xbf\xbd\xef\xbf\xbd", "\ufffd\ufffd"}, {"\xef\xbf\xbd\xbd", "\ufffd\ufffd"},
		{"\xe2\x82\x00", "\ufffd\ufffd"}, {"a\r\nb\rc\n", "a\r\nb\rc\n"}, {"\x01\x1f\x7f", "\x01\x1f\x7f"},
	} {
		if got := utf.Text([]byte(x.in)); got != x.out {
			t.Errorf("Text of %x: %q, not %q", x.in, got, x.out)
		}
	}
}

func TestTextOfAnyBytes(t *testing.T) {
	each(edges, 4, func(s string) {
		got := utf.Text([]byte(s))
		if want := textByForms(s); got != want {
			t.Errorf("Text of %x: %q, not %q", s, got, want)
		}
		if !utf.Right(got) {
			t.Errorf("Text of %x is no text: %q", s, got)
		}
	})
}

func TestTextOfTexts(t *testing.T) {
	for r := rune(1); r <= 0x10ffff; r++ {
		if 0xd800 <= r && r <= 0xdfff {
			continue
		}
		s := string(r)
		if !utf.Right(s) || utf.Text([]byte("a"+s)) != "a"+s || r != 0xfeff && utf.Text([]byte(s)) != s {
			t.Errorf("the character %x: %v, %q", r, utf.Right(s), utf.Text([]byte(s)))
		}
	}
}

func TestRight(t *testing.T) {
	for _, s := range []string{"", "a", "é", "€", "😀", "\u0080", "\u07ff", "\u0800", "\ud7ff", "\ue000", "\uffff", "\U00010000", "\U0010ffff", "\ufeff", "\ufffd", "\ufffd\ufffda", "\r\n\x01\x7f"} {
		if !utf.Right(s) {
			t.Errorf("Right of %x: false", s)
		}
	}
	for _, s := range []string{"\x00", "a\x00", "\x00a", "\xc0\x80", "\x80", "\xff", "a\xff", "\xe2\x82", "\xe2\x82A", "\xed\xa0\x80", "\xed\xbf\xbf", "\xe0\x80\x80", "\xe0\x9f\xbf", "\xf0\x8f\xbf\xbf", "\xf4\x90\x80\x80", "\xf8\x88\x80\x80\x80", "\ufffd\xff", "\xef\xbf", "é\xc3"} {
		if utf.Right(s) {
			t.Errorf("Right of %x: true", s)
		}
	}
}

func TestRightOfAnyBytes(t *testing.T) {
	each(edges, 4, func(s string) {
		if strings.HasPrefix(s, "\ufeff") {
			return
		}
		if got, want := utf.Right(s), textByForms(s) == s && !strings.Contains(s, "\x00"); got != want {
			t.Errorf("Right of %x: %v", s, got)
		}
		if utf.Right(s) && utf.Text([]byte(s)) != s {
			t.Errorf("Text of the text %x is another one", s)
		}
	})
}

func TestNewlines(t *testing.T) {
	for _, x := range []struct{ in, out string }{
		{"", ""}, {"a", "a"}, {"a\n", "a\n"}, {"a\r\nb", "a\nb"}, {"a\rb", "a\nb"}, {"a\r", "a\n"}, {"\r\n", "\n"},
		{"\n\r", "\n\n"}, {"\r\r\n", "\n\n"}, {"\r\n\n", "\n\n"}, {"\r\n\r", "\n\n"}, {"\r\r", "\n\n"},
		{"\xff\r\x00\r\n\xe2\x82", "\xff\n\x00\n\xe2\x82"}, {"\v\f\u0085\u2028", "\v\f\u0085\u2028"},
	} {
		if got := utf.Newlines(x.in); got != x.out {
			t.Errorf("Newlines of %q: %q, not %q", x.in, got, x.out)
		}
	}
}

func TestLines(t *testing.T) {
	for _, x := range []struct {
		in  string
		out []string
	}{
		{"", nil}, {"a", []string{"a"}}, {"a\n", []string{"a"}}, {"a\nb", []string{"a", "b"}}, {"a\r\n\nb", []string{"a", "", "b"}},
		{"\n", []string{""}}, {"\r", []string{""}}, {"\r\n", []string{""}}, {"\n\r", []string{"", ""}}, {"\r\r\n", []string{"", ""}}, {"\n\n", []string{"", ""}},
		{"a\rb\r\nc\nd", []string{"a", "b", "c", "d"}}, {" \n ", []string{" ", " "}}, {"a\r\n", []string{"a"}}, {"a\r", []string{"a"}},
		{"\xff\n\x00\r\xe2\x82", []string{"\xff", "\x00", "\xe2\x82"}}, {"a\v\f\u0085\u2028b", []string{"a\v\f\u0085\u2028b"}},
	} {
		if got := utf.Lines(x.in); !slices.Equal(got, x.out) {
			t.Errorf("Lines of %q: %q, not %q", x.in, got, x.out)
		}
	}
}

func TestLinesOfAnyBytes(t *testing.T) {
	each("a\r\n\xff", 7, func(s string) {
		ends := strings.ReplaceAll(strings.ReplaceAll(s, "\r\n", "\n"), "\r", "\n")
		if got := utf.Newlines(s); got != ends {
			t.Errorf("Newlines of %q: %q, not %q", s, got, ends)
		}
		want := strings.Split(ends, "\n")
		if want[len(want)-1] == "" {
			want = want[:len(want)-1]
		}
		if got := utf.Lines(s); !slices.Equal(got, want) {
			t.Errorf("Lines of %q: %q, not %q", s, got, want)
		}
	})
}

func TestWhatIsHandedInStays(t *testing.T) {
	memory := []byte("\xef\xbb\xbfa\x00\xe2\x82\xacb")
	whole := string(memory)
	got := utf.Text(memory[:7]) // the euro's last byte lies behind the length
	if got != "a\ufffd\ufffd" || string(memory) != whole {
		t.Errorf("Text: %q, and what it was given is %x", got, memory)
	}
	b := []byte("text")
	got = utf.Text(b)
	copy(b, "else")
	if got != "text" {
		t.Errorf("Text changes with what it was given: %q", got)
	}
}

func TestAnswersAreNew(t *testing.T) {
	one, two := utf.Lines("a\nb\n"), utf.Lines("a\nb\n")
	one[0] = "x"
	_ = append(one[:1], "y")
	if !slices.Equal(two, []string{"a", "b"}) || !slices.Equal(utf.Lines("a\nb\n"), two) {
		t.Errorf("lines of one answer change those of another: %q", two)
	}
}

func TestNothingIsNil(t *testing.T) {
	if utf.Text(nil) != "" || utf.Text([]byte{}) != "" || len(utf.Lines("")) != 0 {
		t.Error("nothing has something in it")
	}
}

func TestLongInputs(t *testing.T) {
	const many = 1 << 20
	for _, x := range []struct {
		in    string
		lines int
	}{
		{"\xf0\x9f\x98", 1}, {"\x80", 1}, {"\x00", 1}, {"\xef\xbb\xbf", 1}, {"\xed", 1}, {"\r", many}, {"\r\n", many}, {"a\r", many}, {"é", 1},
	} {
		s := strings.Repeat(x.in, many)
		if !utf.Right(utf.Text([]byte(s))) || len(utf.Lines(s)) != x.lines || len(utf.Lines(utf.Newlines(s))) != x.lines {
			t.Errorf("%d times %q", many, x.in)
		}
	}
}
