package class_test

import (
	"math"
	"strconv"
	"strings"
	"testing"
	"unicode"
	"unicode/utf8"
	"unsafe"

	"tympan/class"
)

// The chapter's own words.
const (
	spaces  = "09, 0a, 0c, 0d, 20"
	letters = "41 to 5a, 61 to 7a"
	digits  = "30 to 39"
	blanks  = "9, a, c, d, 20, a0, 1680, 2000 to 200a, 202f, 205f, 3000"
	puncts  = "21 to 2f, 3a to 40, 5b to 60, 7b to 7e, a1 to a9, ab, ac, ae to b1, b4, b6 to b8, bb, bf, d7, f7, " +
		"2010 to 2027, 2030 to 205e, 20a0 to 20c0, 2190 to 23ff, 2500 to 27bf, 2e00 to 2e5d, 3001 to 3003, 3008 to 3020, " +
		"fe10 to fe19, fe30 to fe6b, ff01 to ff0f, ff1a to ff20, ff3b to ff40, ff5b to ff65, 1f300 to 1faff"
	folded = "41 to 5a, c0 to d6, d8 to de, 391 to 3a1, 3a3 to 3a9, 410 to 42f, 400 to 40f, 100 to 137, 14a to 177, 1e00 to 1e95, 139 to 148, 179 to 17e"
)

// members are the numbers that a row of ranges has.
func members(t *testing.T, row string) map[rune]bool {
	t.Helper()
	out := map[rune]bool{}
	for part := range strings.SplitSeq(row, ", ") {
		from, to, isRange := strings.Cut(part, " to ")
		if !isRange {
			to = from
		}
		low, err := strconv.ParseInt(from, 16, 32)
		if err != nil {
			t.Fatal(err)
		}
		high, err := strconv.ParseInt(to, 16, 32)
		if err != nil {
			t.Fatal(err)
		}
		for r := low; r <= high; r++ {
			out[rune(r)] = true
		}
	}
	return out
}

// character says whether a text may have r.
func character(r rune) bool { return r != 0 && utf8.ValidRune(r) }

func TestBytes(t *testing.T) {
	for _, x := range []struct {
		name string
		ask  func(byte) bool
		row  string
		many int
	}{
		{"Space", class.Space, spaces, 5}, {"Letter", class.Letter, letters, 52}, {"Digit", class.Digit, digits, 10},
	} {
		want := members(t, x.row)
		many := 0
		for c := range 256 {
			got := x.ask(byte(c))
			if got != want[rune(c)] {
				t.Errorf("%s of %x: %v", x.name, c, got)
			}
			if got {
				many++
			}
		}
		if many != x.many {
			t.Errorf("%s: true of %d bytes, not of %d", x.name, many, x.many)
		}
	}
}

func TestHex(t *testing.T) {
	for c := range 256 {
		want := strings.IndexByte("0123456789abcdef", byte(unicode.ToLower(rune(c))))
		if c >= 0x80 {
			want = -1
		}
		if got := class.Hex(byte(c)); got != want {
			t.Errorf("Hex of %x: %d, not %d", c, got, want)
		}
	}
	for c, want := range map[byte]int{'0': 0, '9': 9, 'a': 10, 'f': 15, 'A': 10, 'F': 15, 'g': -1, 'G': -1, '/': -1, ':': -1, '@': -1, '`': -1, 0: -1, 0xff: -1} {
		if got := class.Hex(c); got != want {
			t.Errorf("Hex of %q: %d, not %d", c, got, want)
		}
	}
}

func TestLower(t *testing.T) {
	for c := range 256 {
		want := byte(c)
		if c >= 0x41 && c <= 0x5a {
			want += 0x20
		}
		s := string([]byte{byte(c)})
		if got := class.Lower(s); got != string([]byte{want}) {
			t.Errorf("Lower of %x: %x", s, got)
		}
	}
	for _, x := range []struct{ in, out string }{
		{"", ""}, {"ÀB", "Àb"}, {"aBcZ", "abcz"}, {"@AZ[`az{", "@az[`az{"}, {"ΑЖŽẞ", "ΑЖŽẞ"}, {"\u212aK", "\u212ak"},
		{"\xffA\xc3B\x00C", "\xffa\xc3b\x00c"}, {"\xc1\xda", "\xc1\xda"}, {"SCRIPT", "script"},
	} {
		if got := class.Lower(x.in); got != x.out {
			t.Errorf("Lower of %q: %q, not %q", x.in, got, x.out)
		}
	}
}

func TestKindsOfCharacters(t *testing.T) {
	for _, x := range []struct {
		name string
		ask  func(rune) bool
		row  string
	}{
		{"Blank", class.Blank, blanks}, {"Punct", class.Punct, puncts},
	} {
		want := members(t, x.row)
		for r := rune(-0x200); r <= 0x120000; r++ {
			if got := x.ask(r); got != want[r] {
				t.Errorf("%s of %x: %v", x.name, r, got)
			}
		}
		for _, r := range []rune{math.MinInt32, math.MinInt32 + ' ', math.MinInt32 + '$', 0x7f000020, 0x7f000024, math.MaxInt32} {
			if x.ask(r) {
				t.Errorf("%s of %x: true", x.name, r)
			}
		}
	}
}

func TestKindsByExample(t *testing.T) {
	for _, r := range []rune{' ', '\t', '\n', '\f', '\r', 0xa0, 0x1680, 0x2000, 0x2005, 0x200a, 0x202f, 0x205f, 0x3000} {
		if !class.Blank(r) || class.Punct(r) {
			t.Errorf("%x: Blank %v, Punct %v", r, class.Blank(r), class.Punct(r))
		}
	}
	for _, r := range []rune("$€!~*_`¡«¬×÷‐⁞₠←✂、。！｡😀") {
		if !class.Punct(r) || class.Blank(r) {
			t.Errorf("%x: Punct %v, Blank %v", r, class.Punct(r), class.Blank(r))
		}
	}
	for _, r := range []rune{'a', 'Z', '0', 0xaa, 0xad, 0xb2, 0xb5, 0xe9, 0, 0xb, 0x7f, 0x85, 0x1680 + 1, 0x200b, 0x2028, 0x2029, 0x3004, 0xfeff, 0xfffd, 0x1fb00} {
		if class.Punct(r) || class.Blank(r) {
			t.Errorf("%x: Punct %v, Blank %v", r, class.Punct(r), class.Blank(r))
		}
	}
}

func TestFold(t *testing.T) {
	for _, x := range []struct{ in, out string }{
		{"", ""}, {"Straße ΑΓΩ", "strasse αγω"}, {"@AZ[`az{", "@az[`az{"},
		{"\u00bf\u00c0\u00d6\u00d7\u00d8\u00de", "\u00bf\u00e0\u00f6\u00d7\u00f8\u00fe"}, {"\u00e0\u00f7\u00ff", "\u00e0\u00f7\u00ff"},
		{"\u00df\u1e9e", "ssss"}, {"\u1e9d\u1e9f", "\u1e9d\u1e9f"},
		{"\u0390\u0391\u03a1\u03a2\u03a3\u03a9\u03aa", "\u0390\u03b1\u03c1\u03a2\u03c3\u03c9\u03aa"}, {"\u03c1\u03c2\u03c3", "\u03c1\u03c3\u03c3"},
		{"\u0400\u040f\u0410\u042f\u0430", "\u0450\u045f\u0430\u044f\u0430"}, {"\u0450\u045f\u0460", "\u0450\u045f\u0460"},
		{"\u0100\u0101\u0130\u0131\u0136\u0137\u0138", "\u0101\u0101\u0131\u0131\u0137\u0137\u0138"},
		{"\u0139\u013a\u0147\u0148\u0149", "\u013a\u013a\u0148\u0148\u0149"},
		{"\u014a\u014b\u0176\u0177\u0178", "\u014b\u014b\u0177\u0177\u0178"},
		{"\u0179\u017a\u017d\u017e\u017f", "\u017a\u017a\u017e\u017e\u017f"},
		{"\u1dff\u1e00\u1e01\u1e94\u1e95\u1e96", "\u1dff\u1e01\u1e01\u1e95\u1e95\u1e96"},
		{"a\n\tB  C", "a\n\tb  c"}, {"\u212a\ufffd😀\U00010400", "\u212a\ufffd😀\U00010400"},
	} {
		if got := class.Fold(x.in); got != x.out {
			t.Errorf("Fold of %q: %q, not %q", x.in, got, x.out)
		}
	}
}

// foldOf is Fold of one character, by Unicode's small letters but where the chapter has it otherwise.
func foldOf(r rune, row map[rune]bool) string {
	switch {
	case r == 0xdf || r == 0x1e9e:
		return "ss"
	case r == 0x3c2:
		return "\u03c3"
	case r == 0x130:
		return "\u0131"
	case row[r]:
		return string(unicode.ToLower(r))
	}
	return string(r)
}

func TestFoldOfAllCharacters(t *testing.T) {
	row := members(t, folded)
	for r := rune(1); r <= unicode.MaxRune; r++ {
		if !character(r) {
			continue
		}
		s, want := string(r), foldOf(r, row)
		if got := class.Fold(s); got != want {
			t.Errorf("Fold of %x: %q, not %q", r, got, want)
		}
		if got := class.Fold("S" + s + s + "ß"); got != "s"+want+want+"ss" {
			t.Errorf("Fold of %x between others: %q", r, got)
		}
		if again := class.Fold(class.Fold(s)); again != want {
			t.Errorf("Fold of Fold of %x: %q, not %q", r, again, want)
		}
	}
}

func TestPrevAndNext(t *testing.T) {
	for _, x := range []struct {
		s          string
		i          int
		prev, next rune
	}{
		{"", 0, '\n', '\n'}, {"", 1, '\n', '\n'}, {"", -1, '\n', '\n'},
		{"é", 0, '\n', 'é'}, {"é", 2, 'é', '\n'}, {"é", 3, '\n', '\n'}, {"é", -1, '\n', '\n'},
		{"ab", 0, '\n', 'a'}, {"ab", 1, 'a', 'b'}, {"ab", 2, 'b', '\n'}, {"ab", 3, '\n', '\n'},
		{"ab", math.MaxInt, '\n', '\n'}, {"ab", math.MinInt, '\n', '\n'},
		{"a€😀b", 1, 'a', '€'}, {"a€😀b", 4, '€', '😀'}, {"a€😀b", 8, '😀', 'b'}, {"a€😀b", 9, 'b', '\n'},
		{"\r\t", 1, '\r', '\t'}, {"\ufffda", 3, 0xfffd, 'a'},
	} {
		if got := class.Prev(x.s, x.i); got != x.prev {
			t.Errorf("Prev of %q at %d: %x, not %x", x.s, x.i, got, x.prev)
		}
		if got := class.Next(x.s, x.i); got != x.next {
			t.Errorf("Next of %q at %d: %x, not %x", x.s, x.i, got, x.next)
		}
	}
}

func TestPrevAndNextOfAllCharacters(t *testing.T) {
	for r := rune(1); r <= unicode.MaxRune; r++ {
		if !character(r) {
			continue
		}
		s := "é" + string(r) + "€"
		end := len(s) - len("€")
		if class.Next(s, 2) != r || class.Prev(s, end) != r || class.Prev(s, 2) != 'é' || class.Next(s, end) != '€' {
			t.Errorf("%x: Next %x, Prev %x", r, class.Next(s, 2), class.Prev(s, end))
		}
	}
}

// No call may panic, whatever it is given: bytes that are no text, and places that are none.
func TestWrongInputs(t *testing.T) {
	for _, s := range []string{"\xff", "\x80\x80", "\xc3", "a\xe2\x82", "\xf0\x9f\x98", "\xed\xa0\x80", "\x00", "\xc3A\x00", "é\xc3", "\xf4\x90\x80\x80"} {
		if once := class.Fold(s); class.Fold(once) != once {
			t.Errorf("Fold of Fold of %x is another one", s)
		}
		if len(class.Lower(s)) != len(s) {
			t.Errorf("Lower of %x: %x", s, class.Lower(s))
		}
		for i := -2; i <= len(s)+2; i++ {
			prev, next := class.Prev(s, i), class.Next(s, i)
			if (i <= 0 || i > len(s)) && prev != '\n' || (i < 0 || i >= len(s)) && next != '\n' {
				t.Errorf("%x at %d: Prev %x, Next %x", s, i, prev, next)
			}
		}
	}
	for i := range len("a€😀") { // within a character some rune is told
		class.Prev("a€😀", i)
		class.Next("a€😀", i)
	}
}

func TestAnswersAreNew(t *testing.T) {
	const same = "nothing here changes"
	for name, call := range map[string]func(string) string{"Lower": class.Lower, "Fold": class.Fold} {
		one, two := call(same), call(same)
		if one != same || two != same {
			t.Errorf("%s of %q: %q, %q", name, same, one, two)
		}
		if unsafe.StringData(one) == unsafe.StringData(same) || unsafe.StringData(one) == unsafe.StringData(two) {
			t.Errorf("%s tells the memory that it was given, or told before", name)
		}
	}
}

func TestLongInputs(t *testing.T) {
	const many = 1 << 20
	if got := class.Lower(strings.Repeat("À\xffB", many)); got != strings.Repeat("À\xffb", many) {
		t.Error("Lower of a long one")
	}
	if got := class.Fold(strings.Repeat("Aß\u1e9e€", many)); got != strings.Repeat("assss€", many) {
		t.Error("Fold of a long one")
	}
	s := strings.Repeat("é", many)
	if class.Prev(s, len(s)) != 'é' || class.Next(s, len(s)-2) != 'é' || class.Next(s, len(s)) != '\n' {
		t.Error("Prev and Next of a long one")
	}
}
