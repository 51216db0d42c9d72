package tag_test

import (
	"math"
	"slices"
	"strconv"
	"strings"
	"testing"
	"unsafe"

	"tympan/api"
	"tympan/ent"
	"tympan/tag"
)

const (
	letters = "abcdefghijklmnopqrstuvwxyzABCDEFGHIJKLMNOPQRSTUVWXYZ"
	blanks  = "\x09\x0a\x0c\x0d\x20"
)

// one is a string of one byte.
func one(c int) string { return string([]byte{byte(c)}) }

// small is s with small letters for A to Z, and with no other change.
func small(s string) string {
	for i, c := range letters[26:] {
		s = strings.ReplaceAll(s, string(c), letters[i:i+1])
	}
	return s
}

// beginsByWords is Begins, by the chapter's words.
func beginsByWords(s string, i int) bool {
	if i < 0 || i >= len(s) || s[i] != '<' {
		return false
	}
	behind := s[i+1:]
	if strings.HasPrefix(behind, "/") {
		behind = behind[1:]
	}
	return behind != "" && strings.Contains(letters, behind[:1])
}

// upTo is what s has up to the first of signs from least on, and what stands from that on.
func upTo(s, signs string, least int) (string, string) {
	n := strings.IndexAny(s[least:], signs)
	if n < 0 {
		return s, ""
	}
	return s[:least+n], s[least+n:]
}

// readByWords is Read, by the chapter's words.
func readByWords(s string, i int) (api.Token, int, bool) {
	if !beginsByWords(s, i) {
		return api.Token{}, i, false
	}
	t := api.Token{Kind: api.TokStart}
	rest := s[i+1:]
	if rest[0] == '/' {
		t.Kind, rest = api.TokEnd, rest[1:]
	}
	name, rest := upTo(rest, blanks+"/>", 1)
	t.Name = small(name)
	for {
		rest = strings.TrimLeft(rest, blanks)
		if rest == "" {
			return api.Token{}, len(s), false
		}
		if rest[0] == '>' || strings.HasPrefix(rest, "/>") {
			width := strings.IndexByte(rest, '>') + 1
			t.Closing = width == 2
			if t.Kind == api.TokEnd {
				t.Attrs, t.Closing = nil, false
			}
			return t, len(s) - len(rest) + width, true
		}
		if rest[0] == '/' {
			rest = rest[1:]
			continue
		}
		a, behind, ended := attributeByWords(rest)
		if !ended {
			return api.Token{}, len(s), false
		}
		rest = behind
		if !slices.ContainsFunc(t.Attrs, func(b api.Attr) bool { return b.Name == a.Name }) {
			t.Attrs = append(t.Attrs, a)
		}
	}
}

// attributeByWords is the attribute that s begins with, and what stands behind it; false: its value has no end.
func attributeByWords(s string) (api.Attr, string, bool) {
	name, rest := upTo(s, blanks+"/>=", 1)
	name, rest = small(name), strings.TrimLeft(rest, blanks)
	if !strings.HasPrefix(rest, "=") {
		return api.Attr{Name: name}, rest, true
	}
	rest = strings.TrimLeft(rest[1:], blanks)
	if rest == "" {
		return api.Attr{}, "", false
	}
	if rest[0] == '>' {
		return api.Attr{Name: name}, rest, true
	}
	if rest[0] == '"' || rest[0] == '\'' {
		value, behind, ended := strings.Cut(rest[1:], rest[:1])
		return api.Attr{Name: name, Value: ent.Decode(value, true)}, behind, ended
	}
	value, rest := upTo(rest, blanks+">", 0)
	return api.Attr{Name: name, Value: ent.Decode(value, true)}, rest, true
}

// same says whether two tokens are the same; lists that are nil and empty are.
func same(a, b api.Token) bool {
	return a.Kind == b.Kind && a.Name == b.Name && slices.Equal(a.Attrs, b.Attrs) && a.Closing == b.Closing && a.Text == b.Text
}

// reads holds Read at i against what it has to tell.
func reads(t *testing.T, s string, i int, want api.Token, to int, is bool) {
	t.Helper()
	if got, end, ok := tag.Read(s, i); !same(got, want) || end != to || ok != is {
		t.Errorf("Read of %q at %d: %+v, %d, %v, not %+v, %d, %v", s, i, got, end, ok, want, to, is)
	}
}

// sameAsWords holds both calls at i against what the chapter says.
func sameAsWords(t *testing.T, s string, i int) {
	t.Helper()
	if got, want := tag.Begins(s, i), beginsByWords(s, i); got != want {
		t.Errorf("Begins of %q at %d: %v", s, i, got)
	}
	want, to, is := readByWords(s, i)
	reads(t, s, i, want, to, is)
}

// joined calls do with all that at most so many pieces come to, one behind the other.
func joined(pieces []string, most int, do func(s string)) {
	do("")
	if most == 0 {
		return
	}
	for _, p := range pieces {
		joined(pieces, most-1, func(s string) { do(p + s) })
	}
}

// start is a tag that begins an element; names and values stand one behind the other.
func start(name string, parts ...string) api.Token {
	t := api.Token{Kind: api.TokStart, Name: name}
	for i := 0; i < len(parts); i += 2 {
		t.Attrs = append(t.Attrs, api.Attr{Name: parts[i], Value: parts[i+1]})
	}
	return t
}

// closing is a tag that closes itself.
func closing(name string, parts ...string) api.Token {
	t := start(name, parts...)
	t.Closing = true
	return t
}

// end is a tag that ends an element.
func end(name string) api.Token { return api.Token{Kind: api.TokEnd, Name: name} }

func TestExamples(t *testing.T) {
	reads(t, "<A Href=x title='a&amp;b' href=y/>z", 0, start("a", "href", "x", "title", "a&b"), 34, true)
	reads(t, "<br/>", 0, closing("br"), 5, true)
	reads(t, "</p a>", 0, end("p"), 6, true)
	reads(t, `<a b="`, 0, api.Token{}, 6, false)
	reads(t, "<a =x>", 0, start("a", "=x", ""), 6, true)
}

func TestBegins(t *testing.T) {
	for _, s := range []string{"<a", "<Z", "</a", "</Z", "<a>", "</a>", "<a<", "<b/", "<script", "</A\xff"} {
		for _, ahead := range []string{"", "x", "<", "</", "</é", "\xff"} {
			if !tag.Begins(ahead+s, len(ahead)) {
				t.Errorf("no tag begins at %d of %q", len(ahead), ahead+s)
			}
		}
	}
	for _, s := range []string{
		"", "<", "</", "a", "/a", ">", "< a", "</ a", "<\na", "<//a", "</>", "<>", "<1", "</1", "<!", "<!a", "<?a", "<!--", "</!a", "<<a", "<</a", "<_a", "<-a", "<:a", "<&a", "<é", "</é", "<\uff41>", "<\u017f>", "<\u212a>", "\\<a", " <a", "<\x00a", "<\xffa", "\uff1ca",
	} {
		if tag.Begins(s, 0) {
			t.Errorf("a tag begins %q", s)
		}
		reads(t, s, 0, api.Token{}, 0, false)
	}
}

func TestBeginsOfEachByte(t *testing.T) {
	for c := range 256 {
		isLetter := strings.Contains(letters, one(c))
		for s, want := range map[string]bool{
			"<" + one(c): isLetter, "</" + one(c): isLetter, "<" + one(c) + "a": isLetter || c == '/', "</" + one(c) + "a": isLetter,
			one(c) + "a": c == '<', one(c) + "/a": c == '<', "a" + one(c): false,
		} {
			if got := tag.Begins(s, 0); got != want {
				t.Errorf("Begins of %q: %v", s, got)
			}
			sameAsWords(t, s, 0)
			sameAsWords(t, s+">", 0)
		}
	}
}

func TestPlaces(t *testing.T) {
	const s = "x<a b=<i>>y</A c>é<br/"
	for i := -3; i < len(s)+3; i++ {
		want := i == 1 || i == 6 || i == 11 || i == 19
		if got := tag.Begins(s, i); got != want {
			t.Errorf("Begins at %d: %v", i, got)
		}
		sameAsWords(t, s, i)
	}
	reads(t, s, 1, start("a", "b", "<i"), 9, true)
	reads(t, s, 6, start("i"), 9, true)
	reads(t, s, 11, end("a"), 17, true)
	reads(t, s, 19, api.Token{}, len(s), false)
	for _, i := range []int{-1, len(s), len(s) + 1, math.MaxInt, math.MaxInt - 1, math.MinInt, math.MaxInt32, math.MinInt32, 1<<32 + 1, 1 << 62} {
		if tag.Begins(s, i) {
			t.Errorf("Begins at %d", i)
		}
		reads(t, s, i, api.Token{}, i, false)
		reads(t, "", i, api.Token{}, i, false)
		reads(t, "<a>", i, api.Token{}, i, false)
	}
}

func TestNames(t *testing.T) {
	for in, name := range map[string]string{
		"a": "a", "Z": "z", "AbC": "abc", "h1": "h1", "H1": "h1", "my-Tag": "my-tag", "svg:A": "svg:a", "a=b": "a=b", "a\"b'": "a\"b'", "a<B": "a<b", "a&amp;B": "a&amp;b", "a&lt": "a&lt", "aÉé": "aÉé", "a\u00a0B": "a\u00a0b",
		"a\x00B": "a\x00b", "a\x0bb": "a\x0bb", "a\xffB": "a\xffb", "a!--": "a!--", "a\\": "a\\", "a\u2028b": "a\u2028b", "K\u212a": "k\u212a", "S\u017f": "s\u017f", "foreignObject": "foreignobject",
	} {
		for behind, kind := range map[string]uint8{">": 0, " >": 0, "\t>": 0, "\n>": 0, "\f>": 0, "\r>": 0, "/>": 1, " />": 1, "/ >": 0, "//>": 1} {
			s := "<" + in + behind
			reads(t, s, 0, api.Token{Kind: api.TokStart, Name: name, Closing: kind == 1}, len(s), true)
			s = "</" + in + behind
			reads(t, s+"z", 0, end(name), len(s), true)
		}
		reads(t, "<"+in, 0, api.Token{}, len(in)+1, false)
		reads(t, "</"+in, 0, api.Token{}, len(in)+2, false)
	}
}

func TestSlashes(t *testing.T) {
	for s, want := range map[string]api.Token{
		"<a/>": closing("a"), "<a //>": closing("a"), "<a / />": closing("a"), "<a/ >": start("a"), "<a/ / >": start("a"), "<a/\n>": start("a"), "<a///>": closing("a"),
		"<a/b>": start("a", "b", ""), "<a/b/>": closing("a", "b", ""), "<a/b/c>": start("a", "b", "", "c", ""), "<a b/=c>": start("a", "b", "", "=c", ""), "<a b / =c>": start("a", "b", "", "=c", ""),
		"<a b=/>": start("a", "b", "/"), "<a b= />": start("a", "b", "/"), "<a b=c/>": start("a", "b", "c/"), "<a b=c />": closing("a", "b", "c"), "<a b=/c/d>": start("a", "b", "/c/d"), "<a b=//c/>": start("a", "b", "//c/"),
		"<a b=''/>": closing("a", "b", ""), `<a b="c"/>`: closing("a", "b", "c"), `<a b="c"/ >`: start("a", "b", "c"), `<a b="/>">`: start("a", "b", "/>"), "<a =/>": closing("a", "=", ""), "<a ==/>": start("a", "=", "/"),
		"</a/>": end("a"), "</a b/>": end("a"), "</a b=/>": end("a"), "</a/b='>'/>": end("a"),
	} {
		reads(t, s, 0, want, len(s), true)
		reads(t, s+">", 0, want, len(s), true)
	}
}

func TestAttributes(t *testing.T) {
	for s, want := range map[string]api.Token{
		"<a b>": start("a", "b", ""), "<a b c>": start("a", "b", "", "c", ""), "<a  b\n\t\f\rc >": start("a", "b", "", "c", ""), "<a b=>": start("a", "b", ""), "<a b= >": start("a", "b", ""), "<a b =>": start("a", "b", ""), "<a b\n=\t>": start("a", "b", ""),
		"<a b=c>": start("a", "b", "c"), "<a b = c>": start("a", "b", "c"), "<a b\r=\fc\td>": start("a", "b", "c", "d", ""), "<a b c=d>": start("a", "b", "", "c", "d"), "<a b =c =d>": start("a", "b", "c", "=d", ""), "<a b==c>": start("a", "b", "=c"), "<a b=c=d>": start("a", "b", "c=d"),
		`<a b="c d">`: start("a", "b", "c d"), "<a b='c d'>": start("a", "b", "c d"), `<a b = "c" >`: start("a", "b", "c"), `<a b="">`: start("a", "b", ""), "<a b=''>": start("a", "b", ""), `<a b="c"d>`: start("a", "b", "c", "d", ""), `<a b="c"d='e'f=g>`: start("a", "b", "c", "d", "e", "f", "g"),
		`<a b="c'd">`: start("a", "b", "c'd"), `<a b='c"d'>`: start("a", "b", `c"d`), `<a b='"'c="'">`: start("a", "b", `"`, "c", "'"), `<a b="'"c='"'>`: start("a", "b", "'", "c", `"`), `<a b=" c ">`: start("a", "b", " c "), "<a b='\n\t'>": start("a", "b", "\n\t"), `<a b=">">`: start("a", "b", ">"), "<a b='<c>'>": start("a", "b", "<c>"),
		`<a b=c"d>`: start("a", "b", `c"d`), "<a b=c'd'>": start("a", "b", "c'd'"), "<a b=<c>": start("a", "b", "<c"), "<a b=`c`>": start("a", "b", "`c`"), `<a b=\"c>`: start("a", "b", `\"c`), `<a b="\"c>`: start("a", "b", `\`, "c", ""), "<a b='\\'c>": start("a", "b", "\\", "c", ""),
		`<a "b">`: start("a", `"b"`, ""), "<a 'b=c'>": start("a", "'b", "c'"), `<a "=b>`: start("a", `"`, "b"), `<a "">`: start("a", `""`, ""), `<a b"c=d>`: start("a", `b"c`, "d"), "<a <b>": start("a", "<b", ""), "<a <b=<c>": start("a", "<b", "<c"), `<a "b'>`: start("a", `"b'`, ""),
		"<a =>": start("a", "=", ""), "<a ==>": start("a", "=", ""), "<a = =>": start("a", "=", ""), "<a = = b>": start("a", "=", "b"), "<a =b=c>": start("a", "=b", "c"), "<a ===>": start("a", "=", "="), "<a =/=>": start("a", "=", ""), "<a ='b'>": start("a", "='b'", ""), `<a ="b c">`: start("a", `="b`, "", `c"`, ""),
		"<a é=É>": start("a", "é", "É"), "<a ÉÀZ=Z>": start("a", "ÉÀz", "Z"), "<a B-C:D.E_F=G>": start("a", "b-c:d.e_f", "G"), "<a b\xff\x00=\xff\x00>": start("a", "b\xff\x00", "\xff\x00"), "<a \xff=\x80>": start("a", "\xff", "\x80"), "<a \u00a0=\u00a0>": start("a", "\u00a0", "\u00a0"), "<a \x0b=\x0b>": start("a", "\x0b", "\x0b"),
		"<a 1=2>": start("a", "1", "2"), "<a !--b-->": start("a", "!--b--", ""), "<a ?>": start("a", "?", ""), "<a on\nclick=x>": start("a", "on", "", "click", "x"), "<a ONCLICK=X>": start("a", "onclick", "X"),
	} {
		reads(t, s, 0, want, len(s), true)
		for _, behind := range []string{"", ">", "<", "\"", "'", "z", " ", "\n", "é", "\xff", "/>", "=x>"} {
			reads(t, s+behind, 0, want, len(s), true)
			sameAsWords(t, s+behind, 0)
		}
		for _, ahead := range []string{"x", "<", "</", "<a ", "é", "\xff"} {
			reads(t, ahead+s, len(ahead), want, len(ahead)+len(s), true)
		}
		reads(t, "</"+s[1:], 0, end("a"), len(s)+1, true)
	}
}

func TestAttributesThatAreThere(t *testing.T) {
	for s, want := range map[string]api.Token{
		"<a b b>": start("a", "b", ""), "<a b=1 b=2>": start("a", "b", "1"), "<a b=1 B=2>": start("a", "b", "1"), "<a B b=2>": start("a", "b", ""), "<a b= c b=2>": start("a", "b", "c"), "<a b c=1 b=2 d C=3 b>": start("a", "b", "", "c", "1", "d", ""),
		"<a b=1 b='>' c>": start("a", "b", "1", "c", ""), `<a b=1 b="x" c=2 b c>`: start("a", "b", "1", "c", "2"), "<a b=1 b=2/>": start("a", "b", "1"), "<a b=1 b/>": closing("a", "b", "1"), "<a b/b/>": closing("a", "b", ""),
		"<a =/=>": start("a", "=", ""), "<a =b/=b>": start("a", "=b", ""), "<a =b =b>": start("a", "=b", "b"), "<a é É>": start("a", "é", "", "É", ""), "<a k K \u212a>": start("a", "k", "", "\u212a", ""), "<a b bb b b bb>": start("a", "b", "", "bb", ""), "<a a>": start("a", "a", ""), "<a \xff \xfe \xff>": start("a", "\xff", "", "\xfe", ""), "<a &amp; &>": start("a", "&amp;", "", "&", ""),
	} {
		reads(t, s, 0, want, len(s), true)
		sameAsWords(t, s, 0)
	}
	reads(t, "<a b b='>", 0, api.Token{}, 9, false)
	reads(t, `<a b=1 b=">`, 0, api.Token{}, 11, false)
	reads(t, "<a b=1 b=", 0, api.Token{}, 9, false)
}

func TestReferences(t *testing.T) {
	for in, want := range map[string]string{
		"&amp;": "&", "a&amp;b": "a&b", "&amp": "&", "&ampx": "&ampx", "&amp=": "&amp=", "&copy=1": "&copy=1", "a&copy;=1": "a©=1", "&notit;": "&notit;", "&#65;&#x42": "AB", "&lt;b&gt;": "<b>", "&quot;&apos;": "\"'", "&Tab;&NewLine;": "\t\n",
		"&#0;": "\ufffd", "&#62;&#32;&#34;": "> \"", "&": "&", "&;": "&;", "&amp;amp;": "&amp;", "javascript&colon;x": "javascript:x", "JaVa&#10;Script:x": "JaVa\nScript:x", "&nosuch;": "&nosuch;", "&ngE;": "\u2267\u0338", "&#128;": "€", "\xff&amp;\x00": "\xff&\x00",
	} {
		for _, quote := range []string{"", `"`, "'"} {
			s := "<a b=" + quote + in + quote + " c>"
			reads(t, s, 0, start("a", "b", want, "c", ""), len(s), true)
		}
		s := "<a b=" + in + ">"
		reads(t, s, 0, start("a", "b", want), len(s), true)
	}
	reads(t, "<&#97;>", 0, api.Token{}, 0, false)
	reads(t, "<a &#98;=c>", 0, start("a", "&#98;", "c"), 11, true)
	reads(t, "<a b&equals;c>", 0, start("a", "b&equals;c", ""), 14, true)
	reads(t, "<a b=&quot;c d&quot;>", 0, start("a", "b", "\"c", "d&quot;", ""), 21, true)
	reads(t, "<a b='&#39;'>", 0, start("a", "b", "'"), 13, true)
	reads(t, `<a b="&am"p;>`, 0, start("a", "b", "&am", "p;", ""), 13, true)
}

// What begins and has no end: all of it is passed over.
func TestWithoutEnd(t *testing.T) {
	for _, s := range []string{
		"<a", "</a", "<a ", "<a/", "<a /", "<a b", "<a b ", "<a b=", "<a b= ", "<a b=c", "<a b=c ", `<a b="`, "<a b='", `<a b="c`, `<a b="c>`, "<a b='c>", `<a b="c'>`, `<a b='c">`, `<a b="c"`, `<a b="c" `, "<a b=''", "<a b=''/", "<a b=/", "<a =", "<a ==", "<a <", "<a \"", "<a b c=d e", "</a b='>",
		"<a\x00", "<a é", "<a \xff", "<a b=&gt;", "<a b=\"&quot;>", "<a b=&#62", "<a<b", "<a \uff1e",
	} {
		reads(t, s, 0, api.Token{}, len(s), false)
		reads(t, "<x>"+s, 3, api.Token{}, len(s)+3, false)
		sameAsWords(t, s, 0)
	}
	for _, s := range []string{`<A b="c d" e='f' G=h/i j k = "l" m = 'n' o = p q/ r="" s=''t="&amp;"u v/>`, `</A b="c d" e='f' g= h>`} {
		reads(t, s[:0], 0, api.Token{}, 0, false)
		reads(t, s[:1], 0, api.Token{}, 0, false)
		for n := 3; n < len(s); n++ {
			reads(t, s[:n], 0, api.Token{}, n, false)
			sameAsWords(t, s[:n], 0)
		}
		if _, to, ok := tag.Read(s, 0); to != len(s) || !ok {
			t.Errorf("Read of %q: %d, %v", s, to, ok)
		}
	}
}

func TestEachByteAtEachPlace(t *testing.T) {
	for _, s := range []string{"<a>", "<ab c>", "<a b=c/>", `<a b = "c"d='e' f/g>`, "</a b='c'>", "<a b b=1/>", "<a =/=>", "<a b=''/c>"} {
		for at := range len(s) + 1 {
			for c := range 256 {
				sameAsWords(t, s[:at]+one(c)+s[at:], 0)
				if at < len(s) {
					sameAsWords(t, s[:at]+one(c)+s[at+1:], 0)
				}
			}
			for _, c := range blanks + "/>='\"<aA&" {
				for _, d := range blanks + "/>='\"<aA&" {
					sameAsWords(t, s[:at]+string(c)+string(d)+s[at:], 0)
				}
			}
		}
	}
}

func TestAnyPieces(t *testing.T) {
	pieces := strings.Split("<|/|>| |\n|=|\"|'|b|C|&lt|;|é|\xff", "|")
	joined(pieces, 3, func(s string) {
		for i := -1; i <= len(s)+1; i++ {
			sameAsWords(t, s, i)
		}
	})
	joined(pieces, 4, func(s string) {
		sameAsWords(t, "<"+s, 0)
		sameAsWords(t, "<a "+s+">", 0)
		sameAsWords(t, "</A b="+s+">", 0)
		sameAsWords(t, "<a b ="+s+"'>", 0)
	})
	joined(strings.Split("/|>| |=|\"|'|b", "|"), 6, func(s string) { sameAsWords(t, "<a "+s+"\"/>", 0) })
}

// Tags that are written well are read as they were.
func TestThereAndBack(t *testing.T) {
	escaped := strings.NewReplacer("&", "&amp;", `"`, "&quot;", "<", "&lt;", ">", "&gt;", "\u00a0", "&nbsp;")
	joined(strings.Split("&|amp;|\"|'|<|>| |/|=|\n|x|é|\u00a0|\xff", "|"), 3, func(value string) {
		written := escaped.Replace(value)
		s := `<a href="` + written + `" title="` + written + `">`
		want := start("a", "href", value, "title", value)
		reads(t, s, 0, want, len(s), true)
		reads(t, s+written+"</a>", 0, want, len(s), true)
		reads(t, s+written+"</a>", len(s)+len(written), end("a"), len(s)+len(written)+4, true)
	})
}

// outside says whether a string has no byte of a text's memory.
func outside(part, text string) bool {
	if part == "" || text == "" {
		return true
	}
	from, first := uintptr(unsafe.Pointer(unsafe.StringData(part))), uintptr(unsafe.Pointer(unsafe.StringData(text)))
	return from+uintptr(len(part)) <= first || first+uintptr(len(text)) <= from
}

func TestAnswersAreNew(t *testing.T) {
	s := strings.Clone("<name that=stands there='as it is' quoted=\"too\" amp='a&amp;b'></name>")
	for _, i := range []int{0, strings.Index(s, "</")} {
		one, _, _ := tag.Read(s, i)
		two, _, _ := tag.Read(s, i)
		if one.Name != "name" || !same(one, two) {
			t.Fatalf("%+v, then %+v", one, two)
		}
		parts := func(k api.Token) []string {
			out := []string{k.Name}
			for _, a := range k.Attrs {
				out = append(out, a.Name, a.Value)
			}
			return out
		}
		for n, part := range parts(one) {
			if !outside(part, s) {
				t.Errorf("%q is in the memory of what was handed in", part)
			}
			if !outside(part, parts(two)[n]) {
				t.Errorf("%q is in the memory that was told before", part)
			}
		}
	}
	one, _, _ := tag.Read(s, 0)
	for i := range one.Attrs {
		one.Attrs[i] = api.Attr{Name: "x", Value: "x"}
	}
	_ = append(one.Attrs, api.Attr{Name: "y"})
	two, _, _ := tag.Read(s, 0)
	if !same(two, start("name", "that", "stands", "there", "as it is", "quoted", "too", "amp", "a&b")) {
		t.Errorf("what was told has changed what is told: %+v", two)
	}
}

// No call may take long where all is as bad as it can be.
func TestLongInputs(t *testing.T) {
	const many = 1 << 18
	for piece, attrs := range map[string]int{
		" ": 0, "/": 0, " / ": 0, "b ": 1, "b/": 1, "=": 1, "= ": 1, "b=c ": 1, "b='c'": 1, `b="'"`: 1, "b=\"\nc\"": 1, "<": 1, "\"": 1, " '": 1, "&": 1, " a=&lt;&lt": 1, "é": 1, "\xff ": 1, "=/": 1,
	} {
		s := "<a " + strings.Repeat(piece, many)
		reads(t, s, 0, api.Token{}, len(s), false)
		got, to, ok := tag.Read(s+" >", 0)
		if got.Name != "a" || len(got.Attrs) != attrs || to != len(s)+2 || !ok {
			t.Errorf("many %q: %d attributes, %d, %v", piece, len(got.Attrs), to, ok)
		}
	}
	long := strings.Repeat("Ab", many)
	reads(t, "<"+long+" "+long+"="+long+">", 0, start(small(long), small(long), long), 6*many+4, true)
	reads(t, "</"+long+">", 0, end(small(long)), 2*many+3, true)
	var s strings.Builder
	want := start("a")
	for n := range many {
		name := "N" + strconv.Itoa(n)
		s.WriteString(" " + name + "=" + strconv.Itoa(n))
		want.Attrs = append(want.Attrs, api.Attr{Name: small(name), Value: strconv.Itoa(n)})
	}
	if got, _, ok := tag.Read("<a"+s.String()+s.String()+">", 0); !ok || !same(got, want) {
		t.Errorf("of many attributes %d are told", len(got.Attrs))
	}
}
