package url_test

import (
	"fmt"
	"regexp"
	"slices"
	"strings"
	"testing"
	"unsafe"

	"tympan/url"
)

// The chapter's own row of what may stand in an address beside letters and digits.
const marks = "- _ . + ! * ' ( ) , % # @ ? = ; : / & $ ~"

// ends are the bytes 00 to 20.
var ends = bytesUpTo(0x20)

func bytesUpTo(last int) string {
	var out []byte
	for c := range last + 1 {
		out = append(out, byte(c))
	}
	return string(out)
}

// one is a string of one byte.
func one(c int) string { return string([]byte{byte(c)}) }

var anywhere = strings.NewReplacer("\x09", "", "\x0a", "", "\x0d", "")

// stripByWords is Strip, by the chapter's words.
func stripByWords(s string) string { return anywhere.Replace(strings.Trim(s, ends)) }

var withScheme = regexp.MustCompile(`^([A-Za-z][A-Za-z0-9+.-]*):`)

// schemeByWords is Scheme, by the chapter's words.
func schemeByWords(s string) (string, bool) {
	m := withScheme.FindStringSubmatch(stripByWords(s))
	if m == nil {
		return "", false
	}
	return strings.ToLower(m[1]), true
}

// escapeByWords is Escape, by the chapter's words.
func escapeByWords(s string) string {
	out := ""
	for i := range len(s) {
		c := s[i]
		switch {
		case 'a' <= c && c <= 'z', 'A' <= c && c <= 'Z', '0' <= c && c <= '9', slices.Contains(strings.Fields(marks), one(int(c))):
			out += one(int(c))
		default:
			out += fmt.Sprintf("%%%02X", c)
		}
	}
	return out
}

// joined calls do with all that at most so many pieces come to, one behind the other.
func joined(pieces []string, most int, do func(s string)) {
	do("")
	if most == 0 {
		return
	}
	for _, p := range pieces {
		joined(pieces, most-1, func(s string) { do(p + s) })
	}
}

// sameAsWords holds all calls against what the chapter says of s.
func sameAsWords(t *testing.T, s string) {
	t.Helper()
	if got, want := url.Strip(s), stripByWords(s); got != want {
		t.Errorf("Strip of %q: %q, not %q", s, got, want)
	}
	scheme, has := schemeByWords(s)
	if got, ok := url.Scheme(s); got != scheme || ok != has {
		t.Errorf("Scheme of %q: %q, %v, not %q, %v", s, got, ok, scheme, has)
	}
	want := escapeByWords(s)
	got := url.Escape(s)
	if got != want {
		t.Errorf("Escape of %q: %q, not %q", s, got, want)
	}
	if again := url.Escape(got); again != got {
		t.Errorf("Escape of Escape of %q: %q, not %q", s, again, got)
	}
	for _, schemes := range [][]string{nil, {"http"}, {"a", "a+b", "ab"}, {"x", scheme}} {
		if got, want := url.Safe(s, schemes), !has || slices.Contains(schemes, scheme); got != want {
			t.Errorf("Safe of %q with %q: %v", s, schemes, got)
		}
	}
}

func TestStrip(t *testing.T) {
	for _, x := range []struct{ in, out string }{
		{"", ""}, {"a", "a"}, {" ", ""}, {ends, ""}, {ends + "a" + ends, "a"}, {"\t\n\r", ""}, {" \t a \n ", "a"},
		{"a b", "a b"}, {" a  b ", "a  b"}, {"a\tb\nc\rd", "abcd"}, {"a\r\n\r\nb", "ab"}, {"a \t b", "a  b"}, {"\ta\t \tb\t", "a b"},
		{"a\x00b\x01c\x0bd\x0ce\x1ff", "a\x00b\x01c\x0bd\x0ce\x1ff"}, {"\x00a\x00", "a"}, {"\x0ca\x0b", "a"}, {"\x1fa\x1f", "a"}, {"!a!", "!a!"},
		{"\x7fa\x7f", "\x7fa\x7f"}, {"\x80a\x80", "\x80a\x80"}, {"\u00a0a\u00a0", "\u00a0a\u00a0"}, {"\u2028a\u3000", "\u2028a\u3000"}, {"\ufeffa", "\ufeffa"}, {"\u0085a", "\u0085a"},
		{" \xff\n\xff ", "\xff\xff"}, {"\xc3\n\xa9", "é"}, {"\n\xe2\x82\t\xac ", "€"}, {" é€😀 ", "é€😀"}, {"%20a%0a", "%20a%0a"}, {"&#10;a", "&#10;a"},
		{"java\nscript:x", "javascript:x"}, {"\x01HTTP://a", "HTTP://a"}, {"http://a/ b\n", "http://a/ b"},
	} {
		if got := url.Strip(x.in); got != x.out {
			t.Errorf("Strip of %q: %q, not %q", x.in, got, x.out)
		}
		if got := url.Strip(x.out); got != x.out {
			t.Errorf("Strip of %q, which is stripped: %q", x.out, got)
		}
	}
}

func TestStripOfEachByte(t *testing.T) {
	for c := range 256 {
		atEnd, within := one(c), one(c)
		if c <= 0x20 {
			atEnd = ""
		}
		if c == 0x09 || c == 0x0a || c == 0x0d {
			within = ""
		}
		for in, out := range map[string]string{
			one(c): atEnd, one(c) + "a": atEnd + "a", "a" + one(c): "a" + atEnd, "a" + one(c) + "b": "a" + within + "b", "a" + one(c) + " ": "a" + atEnd, "a" + one(c) + one(c) + "é": "a" + within + within + "é",
		} {
			if got := url.Strip(in); got != out {
				t.Errorf("Strip of %q: %q, not %q", in, got, out)
			}
		}
	}
}

func TestScheme(t *testing.T) {
	for in, scheme := range map[string]string{
		"java\nscript:x": "javascript", "\x01HTTP://a": "http", "JaVaScRiPt:alert(1)": "javascript", "mailto:a@b": "mailto", "data:text/html,x": "data", "http:": "http", "a:": "a", "Z:": "z",
		" \t\n\r\x00\x1fhttp:x": "http", "\nj\ta\rv\r\na\tscript\n:\tx": "javascript", "http\t:": "http", "h\nttp:\x00": "http", "http:\n": "http", "http: ": "http",
		"a+b-c.d:": "a+b-c.d", "a+:": "a+", "a-:": "a-", "a.:": "a.", "A.B+C-D9:x": "a.b+c-d9", "a0123456789:": "a0123456789", "azAZ:": "azaz", "svn+ssh://a": "svn+ssh",
		"a:b:c": "a", "a::": "a", "http:/a:b": "http", "a:é": "a", "a:\xff": "a", "a:\x00": "a", "a:/": "a", "c:\\x": "c",
	} {
		if got, ok := url.Scheme(in); got != scheme || !ok {
			t.Errorf("Scheme of %q: %q, %v, not %q", in, got, ok, scheme)
		}
	}
	for _, in := range []string{
		"", ":", "a", "http", " ", "\n", "::", ":a", ":a:", "/a:b", "//a:80", "1a:", "9:", "+a:", "-a:", ".a:", "?a:", "#a:", "a/b:c", "a?b:c", "a#b:c", "./a:b", "a b:", "a_b:", "a%62:", "a@b:c", "a,b:", "a\\b:", "a~b:", "a*b:",
		"java\x00script:x", "java\x0cscript:x", "java\x0bscript:x", "java script:x", "javascript :x", "java\x1fscript:x", "\x7fa:", "a\x7f:", "é:", "aé:", "éa:", "\u00a0http:", "\ufeffhttp:", "http\u00a0:", "\xffa:", "a\xff:", "a\xc1:", "\u212a:", "a\u212a:", "ſ:", "a\u0660:",
		"javascript&colon;x", "javascript&#58;x", "javascript%3ax", "javascript\uff1ax", "javascript;x", "&#106;avascript:x",
	} {
		if got, ok := url.Scheme(in); got != "" || ok {
			t.Errorf("Scheme of %q: %q, %v", in, got, ok)
		}
	}
}

// Each byte, and each two, at the places where a scheme may have them or not.
func TestSchemeOfEachByte(t *testing.T) {
	for c := range 256 {
		b := one(c)
		for _, s := range []string{b, b + ":", b + "a:", "a" + b, "a" + b + ":", "a" + b + "b:", "ab" + b, "a:" + b, b + b + ":", "a" + b + ":b:"} {
			sameAsWords(t, s)
		}
		for d := range 256 {
			sameAsWords(t, b+one(d)+":x")
		}
	}
}

func TestEscape(t *testing.T) {
	for _, x := range []struct{ in, out string }{
		{"", ""}, {"a", "a"}, {"a é\"[", "a%20%C3%A9%22%5B"}, {"http://a.b/c?d=e&f#g", "http://a.b/c?d=e&f#g"}, {strings.ReplaceAll(marks, " ", ""), strings.ReplaceAll(marks, " ", "")},
		{"%", "%"}, {"%2", "%2"}, {"%zz", "%zz"}, {"%20%c3%A9", "%20%c3%A9"}, {"%%", "%%"}, {"% ", "%%20"},
		{" ", "%20"}, {"\x00\x01\x0f\x10\x1f", "%00%01%0F%10%1F"}, {"\t\n\r", "%09%0A%0D"}, {" a ", "%20a%20"}, {"\"<>\\^`{|}[]", "%22%3C%3E%5C%5E%60%7B%7C%7D%5B%5D"}, {"\x7f\x80\xff", "%7F%80%FF"},
		{"é", "%C3%A9"}, {"€", "%E2%82%AC"}, {"😀", "%F0%9F%98%80"}, {"\xc3", "%C3"}, {"\ufffd", "%EF%BF%BD"}, {"\u00a0", "%C2%A0"}, {"azAZ09", "azAZ09"}, {"@[`{/:", "@%5B%60%7B/:"},
	} {
		if got := url.Escape(x.in); got != x.out {
			t.Errorf("Escape of %q: %q, not %q", x.in, got, x.out)
		}
	}
}

func TestEscapeOfEachByte(t *testing.T) {
	same := 0
	for c := range 256 {
		want := escapeByWords(one(c))
		if want == one(c) {
			same++
		}
		if got := url.Escape(one(c)); got != want {
			t.Errorf("Escape of %x: %q, not %q", c, got, want)
		}
		if got := url.Escape("a" + one(c) + "é"); got != "a"+want+"%C3%A9" {
			t.Errorf("Escape of %x between others: %q", c, got)
		}
	}
	if same != 26+26+10+21 {
		t.Errorf("%d bytes may stand in an address", same)
	}
}

func TestSafe(t *testing.T) {
	some := []string{"http", "https", "mailto"}
	for _, x := range []struct {
		in      string
		schemes []string
		safe    bool
	}{
		{"//a", nil, true}, {"", nil, true}, {"/a:b", nil, true}, {"a", []string{}, true}, {":", nil, true}, {"1a:", nil, true}, {"?a:b", nil, true}, {"#a:b", some, true}, {"./javascript:x", some, true}, {"java script:x", nil, true},
		{"http:", nil, false}, {"http:", []string{}, false}, {"a:", nil, false}, {"http:", some, true}, {"HTTPS://a", some, true}, {"MailTo:a@b", some, true}, {"ftp:x", some, false}, {"httpx:", some, false}, {"htt:", some, false}, {"http+x:", some, false},
		{"javascript:x", some, false}, {"JaVaScRiPt:x", some, false}, {" javascript:x", some, false}, {"java\nscript:x", some, false}, {"\x01java\tscript\r:x", some, false}, {"\x00h\nttp:x", some, true},
		{"http:javascript:x", some, true}, {"javascript:http:x", some, false}, {"javascript:x", []string{"javascript"}, true}, {"mailto:x", []string{"http", "mailto"}, true}, {"http:x", []string{"http", "mailto"}, true},
		{"http:x", []string{"HTTP"}, false}, {"HTTP:x", []string{"HTTP"}, false}, {"http:x", []string{"http:"}, false}, {"http:x", []string{" http"}, false}, {"http:x", []string{""}, false}, {":x", []string{"a"}, true}, {"http:x", []string{"", "http", "http"}, true},
	} {
		if got := url.Safe(x.in, x.schemes); got != x.safe {
			t.Errorf("Safe of %q with %q: %v", x.in, x.schemes, got)
		}
	}
}

func TestAnyPieces(t *testing.T) {
	joined(strings.Split("a|Z|http|1|+|-|.|:|/|%|%20| |\x00|\x0c|\t|\n|\r|é|\xff|[|~", "|"), 4, func(s string) { sameAsWords(t, s) })
	joined(strings.Split("A|b|0|+|:|\n| ", "|"), 6, func(s string) { sameAsWords(t, s) })
}

// What Strip leaves out, put where it is left out, changes nothing.
func TestAsSafeAsWithout(t *testing.T) {
	for _, s := range []string{"javascript:x", "HTTP://a", "/a:b", "//a", "1a:", ":", "a", "", "mailto:a b", "é:x", "a\xff:x", "java script:x", "x:\x0cy"} {
		for c := range 0x21 {
			places := []int{0, len(s)}
			if c == 0x09 || c == 0x0a || c == 0x0d {
				places = nil
				for i := range len(s) + 1 {
					places = append(places, i)
				}
			}
			for _, i := range places {
				with := s[:i] + one(c) + s[i:]
				for _, schemes := range [][]string{nil, {"http"}, {"javascript", "mailto"}, {"java"}} {
					if url.Safe(with, schemes) != url.Safe(s, schemes) {
						t.Errorf("Safe of %q with %q: %v, but not of %q", with, schemes, url.Safe(with, schemes), s)
					}
				}
				name, ok := url.Scheme(s)
				if got, has := url.Scheme(with); got != name || has != ok {
					t.Errorf("Scheme of %q: %q, %v, but of %q: %q, %v", with, got, has, s, name, ok)
				}
				if url.Strip(with) != url.Strip(s) {
					t.Errorf("Strip of %q: %q, but of %q: %q", with, url.Strip(with), s, url.Strip(s))
				}
			}
		}
	}
}

func TestSchemesStayAsTheyAre(t *testing.T) {
	all := []string{"https", "mailto", "http", "ftp"}
	some := all[:2]
	if url.Safe("http:x", some) || url.Safe("ftp:x", some) {
		t.Error("a scheme behind the list's length is taken")
	}
	if !url.Safe("https:x", some) || !url.Safe("mailto:x", some) || !url.Safe("http:x", all) {
		t.Error("a scheme of the list is not taken")
	}
	if !slices.Equal(all, []string{"https", "mailto", "http", "ftp"}) {
		t.Errorf("the list is changed: %q", all)
	}
	some[0] = "tel" // nothing of an earlier call is kept
	if url.Safe("https:x", some) || !url.Safe("tel:x", some) {
		t.Error("an earlier list is kept")
	}
}

func TestAnswersAreNew(t *testing.T) {
	const same = "http://nothing.here/changes"
	scheme := func(s string) string { name, _ := url.Scheme(s); return name }
	for what, call := range map[string]func(string) string{"Strip": url.Strip, "Escape": url.Escape, "Scheme": scheme} {
		first, second := call(same), call(same)
		if first == "" || first != second || !strings.HasPrefix(same, first) {
			t.Errorf("%s of %q: %q, then %q", what, same, first, second)
		}
		if unsafe.StringData(first) == unsafe.StringData(same) || unsafe.StringData(first) == unsafe.StringData(second) {
			t.Errorf("%s tells the memory that it was given, or told before", what)
		}
	}
}

// No call may take long where all is as bad as it can be.
func TestLongInputs(t *testing.T) {
	const many = 1 << 20
	long := strings.Repeat("a\n\t\r", many)
	if got := url.Strip(ends + long + ends); got != strings.Repeat("a", many) {
		t.Errorf("Strip of a long one: %d bytes", len(got))
	}
	if got := url.Strip(strings.Repeat(ends, many/16)); got != "" {
		t.Errorf("Strip of many ends: %d bytes", len(got))
	}
	if got, ok := url.Scheme(long + ":x"); !ok || got != strings.Repeat("a", many) {
		t.Errorf("Scheme of a long one: %d bytes, %v", len(got), ok)
	}
	if got, ok := url.Scheme(long); ok || got != "" {
		t.Errorf("Scheme of a long one without an end: %d bytes, %v", len(got), ok)
	}
	if got, ok := url.Scheme("a:" + strings.Repeat(":", many)); !ok || got != "a" {
		t.Errorf("Scheme with many ends: %d bytes, %v", len(got), ok)
	}
	if got := url.Escape(strings.Repeat("\xff/", many)); got != strings.Repeat("%FF/", many) {
		t.Errorf("Escape of a long one: %d bytes", len(got))
	}
	if !url.Safe("http:"+long, slices.Repeat([]string{"https", "http"}, 1000)) || url.Safe(long+":x", []string{"a"}) {
		t.Error("Safe of a long one")
	}
}
