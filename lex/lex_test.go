package lex_test

import (
	"fmt"
	"math"
	"slices"
	"strings"
	"testing"
	"unsafe"

	"tympan/api"
	"tympan/ent"
	"tympan/lex"
	"tympan/note"
	"tympan/raw"
	"tympan/tag"
)

const letters = "abcdefghijklmnopqrstuvwxyzABCDEFGHIJKLMNOPQRSTUVWXYZ"

// The modes of elements that have text of their own, without tags.
var rawModes = []uint8{api.ModeRefs, api.ModeRaw, api.ModeScript, api.ModePlain}

// Some of the modes in which there is markup from the beginning on: all but the four.
var otherModes = []uint8{api.ModeData, api.ModePlain + 1, 17, 128, 255}

// one is a string of one byte.
func one(c int) string { return string([]byte{byte(c)}) }

// text, comment, start and end are tokens; of start, names and values stand one behind the other.
func text(s string) api.Token    { return api.Token{Kind: api.TokText, Text: s} }
func comment(s string) api.Token { return api.Token{Kind: api.TokNote, Text: s} }
func end(name string) api.Token  { return api.Token{Kind: api.TokEnd, Name: name} }
func start(name string, parts ...string) api.Token {
	t := api.Token{Kind: api.TokStart, Name: name}
	for i := 0; i < len(parts); i += 2 {
		t.Attrs = append(t.Attrs, api.Attr{Name: parts[i], Value: parts[i+1]})
	}
	return t
}

// closing is a tag that closes itself.
func closing(name string, parts ...string) api.Token {
	t := start(name, parts...)
	t.Closing = true
	return t
}

var (
	doctype = api.Token{Kind: api.TokDoctype}
	last    = api.Token{Kind: api.TokLast}
)

// isMarkup says whether markup begins at i, by what the chapters 6 and 7 say together.
func isMarkup(s string, i int) bool {
	if i+1 >= len(s) || s[i] != '<' {
		return false
	}
	if s[i+1] == '/' {
		return i+2 < len(s)
	}
	return strings.Contains(letters+"!?", s[i+1:i+2])
}

// isTag says whether the markup at i is a tag.
func isTag(s string, i int) bool {
	return strings.Contains(letters, strings.TrimPrefix(s[i+1:], "/")[:1])
}

// nextByWords is Next, by the chapter's words.
func nextByWords(s string, i int, mode uint8, name string, cdata bool) (api.Token, int) {
	if i < 0 || i >= len(s) {
		return last, len(s)
	}
	if slices.Contains(rawModes, mode) {
		own, to := raw.Text(s, i, name, mode)
		if own != "" {
			return text(own), to
		}
		if i = to; i == len(s) {
			return last, len(s)
		}
	}
	if !isMarkup(s, i) {
		to := i + 1
		for to < len(s) && !isMarkup(s, to) {
			to++
		}
		return text(ent.Decode(s[i:to], false)), to
	}
	if isTag(s, i) {
		if t, to, ended := tag.Read(s, i); ended {
			return t, to
		}
		return last, len(s)
	}
	if t, to := note.Read(s, i, cdata); t.Kind != 0 {
		return t, to
	}
	return nextByWords(s, i+len("</>"), mode, name, cdata) // nothing else comes to no token
}

// allByWords is All, by the chapter's words.
func allByWords(s string) []api.Token {
	var out []api.Token
	for i := 0; ; {
		t, to := nextByWords(s, i, api.ModeData, "", false)
		if t.Kind == api.TokLast {
			return out
		}
		out, i = append(out, t), to
	}
}

// same says whether two tokens are the same; lists that are nil and empty are.
func same(a, b api.Token) bool {
	return a.Kind == b.Kind && a.Name == b.Name && slices.Equal(a.Attrs, b.Attrs) && a.Closing == b.Closing && a.Text == b.Text
}

// brief is what there is to say, at most so much of it that it can be read.
func brief(format string, parts ...any) string {
	s := fmt.Sprintf(format, parts...)
	return s[:min(len(s), 1000)]
}

// place is where, and as what, Next is asked for a token.
type place struct {
	s     string
	i     int
	mode  uint8
	name  string
	cdata bool
}

// tells holds Next against what it has to tell there.
func tells(t *testing.T, p place, want api.Token, to int) {
	t.Helper()
	if got, end := lex.Next(p.s, p.i, p.mode, p.name, p.cdata); !same(got, want) || end != to {
		t.Error(brief("Next of %+v: %+v, %d, not %+v, %d", p, got, end, want, to))
	}
}

// tellsData holds Next against what it has to tell at i, with cdata and without, where the mode is none of the four.
func tellsData(t *testing.T, s string, i int, want api.Token, to int) {
	t.Helper()
	for _, mode := range otherModes {
		for _, name := range []string{"", "b", "title"} {
			tells(t, place{s: s, i: i, mode: mode, name: name}, want, to)
			tells(t, place{s: s, i: i, mode: mode, name: name, cdata: true}, want, to)
		}
	}
}

// tellsAll holds All against what it has to tell.
func tellsAll(t *testing.T, s string, want ...api.Token) {
	t.Helper()
	if got := lex.All(s); !slices.EqualFunc(got, want, same) {
		t.Error(brief("All of %q: %+v, not %+v", s, got, want))
	}
}

// sameAsWords holds Next at i, in each mode, with cdata and without, against what the chapter says.
func sameAsWords(t *testing.T, s string, i int, name string) {
	t.Helper()
	for _, cdata := range []bool{false, true} {
		for mode := range api.ModePlain + 2 {
			want, to := nextByWords(s, i, mode, name, cdata)
			tells(t, place{s, i, mode, name, cdata}, want, to)
		}
	}
}

// joined calls do with all that at most so many pieces come to, one behind the other.
func joined(pieces []string, most int, do func(s string)) {
	do("")
	if most == 0 {
		return
	}
	for _, p := range pieces {
		joined(pieces, most-1, func(s string) { do(p + s) })
	}
}

func TestExamples(t *testing.T) {
	tellsAll(t, "a < b</x><!--c-->&lt;<", text("a < b"), end("x"), comment("c"), text("<<"))
	tellsAll(t, "<a")
	tells(t, place{s: "x</title>", mode: api.ModeRefs, name: "title"}, text("x"), 1)
	tells(t, place{s: "x</title>", i: 1, mode: api.ModeRefs, name: "title"}, end("title"), 9)
}

// Out of the text there is nothing more, in whatever mode.
func TestPlacesOutOfTheText(t *testing.T) {
	for _, s := range []string{"", "x", "<b>", "x</b>", "</>", "é&amp;<!--", "<![CDATA[x]]>"} {
		for _, i := range []int{-1, -2, len(s), len(s) + 1, math.MaxInt, math.MaxInt - 1, math.MinInt, math.MaxInt32, math.MinInt32, 1<<32 + 1, 1 << 62} {
			for mode := range 256 {
				for _, name := range []string{"", "b"} {
					tells(t, place{s, i, uint8(mode), name, false}, last, len(s))
					tells(t, place{s, i, uint8(mode), name, true}, last, len(s))
				}
			}
		}
	}
	tellsAll(t, "")
}

// From each place on there is what would be there if the text began there.
func TestPlacesInTheText(t *testing.T) {
	const s = "é<a b=<i>>y&lt;</A c></><!--d--><![CDATA[e]]><!doctype f></g"
	for i := -3; i < len(s)+3; i++ {
		for _, name := range []string{"", "a", "A", "i", "g", "script"} {
			sameAsWords(t, s, i, name)
		}
		if i < 0 || i >= len(s) {
			continue
		}
		for mode := range api.ModePlain + 1 {
			want, to := lex.Next(s[i:], 0, mode, "a", true)
			tells(t, place{s, i, mode, "a", true}, want, to+i)
		}
	}
	tellsData(t, s, 0, text("é"), 2)
	tellsData(t, s, 1, text("\xa9"), 2)
	tellsData(t, s, 2, start("a", "b", "<i"), 10)
	tellsData(t, s, 3, text("a b="), 7)
	tellsData(t, s, 7, start("i"), 10)
	tellsData(t, s, 10, text(">y<"), 16)
	tellsData(t, s, 13, text("lt;"), 16)
	tellsData(t, s, 16, end("a"), 22)
	tellsData(t, s, 22, comment("d"), 33)
	tells(t, place{s: s, i: 33}, comment("[CDATA[e]]"), 46)
	tells(t, place{s: s, i: 33, cdata: true}, text("e"), 46)
	tellsData(t, s, 46, doctype, 58)
	tellsData(t, s, 58, last, len(s))
}

func TestTokens(t *testing.T) {
	for _, x := range []struct {
		s    string
		want []api.Token
	}{
		{"a", []api.Token{text("a")}},
		{"<b>", []api.Token{start("b")}},
		{"<B C=d E>", []api.Token{start("b", "c", "d", "e", "")}},
		{"<br/>", []api.Token{closing("br")}},
		{"<br a='&lt;'/>&lt;", []api.Token{closing("br", "a", "<"), text("<")}},
		{"</B c=d/>", []api.Token{end("b")}},
		{"<b>x</b>", []api.Token{start("b"), text("x"), end("b")}},
		{"<b><i></b></i>", []api.Token{start("b"), start("i"), end("b"), end("i")}},
		{"<a b='</a>'>x", []api.Token{start("a", "b", "</a>"), text("x")}},
		{"<a b=\"<!--\">-->", []api.Token{start("a", "b", "<!--"), text("-->")}},
		{"<a<b>c", []api.Token{start("a<b"), text("c")}},
		{"<!--<b>-->c", []api.Token{comment("<b>"), text("c")}},
		{"<!--&lt;-->&lt;", []api.Token{comment("&lt;"), text("<")}},
		{"<!---->", []api.Token{comment("")}},
		{"<!-->x-->", []api.Token{comment(""), text("x-->")}},
		{"x<!--a", []api.Token{text("x"), comment("a")}},
		{"<!>x", []api.Token{comment(""), text("x")}},
		{"<?x?><?y", []api.Token{comment("?x?"), comment("?y")}},
		{"</ a></1></!b>", []api.Token{comment(" a"), comment("1"), comment("!b")}},
		{"<!DOCTYPE html><!doctype>x<!DocType", []api.Token{doctype, doctype, text("x"), doctype}},
		{"<![CDATA[<b>]]>", []api.Token{comment("[CDATA[<b"), text("]]>")}},
		{"<![CDATA[]]>", []api.Token{comment("[CDATA[]]")}},
		{"<title><b></title>", []api.Token{start("title"), start("b"), end("title")}},
		{"<script>a<b</script>", []api.Token{start("script"), text("a"), start("b<", "script", "")}},
		{"<script>a<b;</script>", []api.Token{start("script"), text("a"), start("b;<", "script", "")}},
		{"<plaintext></plaintext>x", []api.Token{start("plaintext"), end("plaintext"), text("x")}},
		{"<textarea>\n&amp;</textarea>", []api.Token{start("textarea"), text("\n&"), end("textarea")}},
		{"\r\n\x00\xff\ufeff", []api.Token{text("\r\n\x00\xff\ufeff")}},
		{"<b>\n</b>\n", []api.Token{start("b"), text("\n"), end("b"), text("\n")}},
	} {
		tellsAll(t, x.s, x.want...)
	}
}

// A sign that begins no markup is text, and does not end it.
func TestNoMarkup(t *testing.T) {
	for _, s := range []string{
		"< ", "< a", "< /a>", "<\na", "<>", "<<>>", "<1>", "<-->", "<->", "<=", "<_a>", "<:a>", "<@a>", "<[a]>", "<\\a>", "<é>", "<\uff41>", "<\u017f>", "<\u212a>", "<\x00a>", "<\xffa>", "<&", "<\uff01-->", "1 < 2 > 1", "<3", ">", "/>", "-->", "]]>", "!--", "\uff1ca>", "a>b",
	} {
		for _, more := range []string{"", " ", "z", "é", "\xff", "< "} {
			tellsAll(t, s+more, text(s+more))
			tellsAll(t, more+s, text(more+s))
			tellsData(t, s+more, 0, text(s+more), len(s+more))
		}
		tellsAll(t, s+"<b>", text(s), start("b"))
		tellsAll(t, s+"</b>"+s, text(s), end("b"), text(s))
		tellsAll(t, "<!--c-->"+s+"<?", comment("c"), text(s), comment("?"))
	}
	for _, s := range []string{"<", "</", "<<", "<</", "a<", "a</", "<1<", "< </"} { // nothing more may stand behind these
		tellsAll(t, s, text(s))
		tellsAll(t, "<b>"+s, start("b"), text(s))
		tellsData(t, "<b>"+s, 3, text(s), len(s)+3)
	}
}

// Which bytes behind a `<`, or a `</`, make markup of it.
func TestEachByteBehindASign(t *testing.T) {
	for c := range 256 {
		isLetter := strings.Contains(letters, one(c))
		lower := strings.ToLower(one(c))
		s := "x<" + one(c) + ">y"
		switch {
		case isLetter:
			tellsAll(t, s, text("x"), start(lower), text("y"))
		case c == '!':
			tellsAll(t, s, text("x"), comment(""), text("y"))
		case c == '?':
			tellsAll(t, s, text("x"), comment("?"), text("y"))
		case c == '/':
			tellsAll(t, s, text("x"), text("y"))
		default:
			tellsAll(t, s, text(s))
		}
		s = "x</" + one(c) + "z>y"
		switch {
		case isLetter:
			tellsAll(t, s, text("x"), end(lower+"z"), text("y"))
		case c == '>':
			tellsAll(t, s, text("x"), text("z>y"))
		default:
			tellsAll(t, s, text("x"), comment(one(c)+"z"), text("y"))
		}
		tellsAll(t, "x</"+one(c), allByWords("x</"+one(c))...)
	}
	tellsAll(t, "x<", text("x<"))
	tellsAll(t, "x</", text("x</"))
}

// In a text references stand for what they stand for where no attribute is; they make no markup.
func TestReferences(t *testing.T) {
	for s, want := range map[string]string{
		"&lt;": "<", "&lt;b>": "<b>", "&lt;/b>": "</b>", "&#60;b>": "<b>", "&#x3C;!--": "<!--", "&lt": "<", "&ltb>": "<b>", "&amp;lt;b>": "&lt;b>", "&copy=1": "©=1", "&copya": "©a", "&notit;": "¬it;", "&notin;": "∉", "&": "&", "&&": "&&", "&;": "&;", "&#": "&#", "&#x;": "&#x;", "&nowhere;": "&nowhere;", "&#0;": "\ufffd", "&#128;": "€", "&acE;": "\u223e\u0333", "&nbsp;": "\u00a0", "&NewLine;": "\n", "<&sol;b>": "</b>", "<&#98;>": "<b>", "&gt;&quot;": ">\"", "a&lt;b&gt;c": "a<b>c", "\xff&amp;\x00": "\xff&\x00",
	} {
		tellsAll(t, s, text(want))
		tellsAll(t, s+"<b>"+s+"</b>"+s, text(want), start("b"), text(want), end("b"), text(want))
		tellsAll(t, "</>"+s+"<!--"+s+"-->", text(want), comment(s))
		tellsData(t, s+"<?", 0, text(want), len(s))
	}
	tellsAll(t, "&am<b>p;", text("&am"), start("b"), text("p;"))
	tellsAll(t, "&amp<b>;", text("&"), start("b"), text(";"))
	tellsAll(t, "&l</>t;", text("&l"), text("t;"))
	tellsAll(t, "&#6<!---->0;", text("\x06"), comment(""), text("0;"))
	tellsAll(t, "<b c='&copy=1' d=&lt;>&copy=1", start("b", "c", "&copy=1", "d", "<"), text("©=1"))
	tellsAll(t, "</&lt;>", comment("&lt;"))
	tellsAll(t, "<b&lt;>", start("b&lt;"))
}

// A tag that has no end swallows all that follows.
func TestTagsWithoutEnd(t *testing.T) {
	for _, s := range []string{"<a", "</a", "<a ", "<a/", "<a b", "<a b=", "<a b=c", "<a b='", "<a b=\"c>d</a>", "<a b='c>\"<!--d-->", "</a b='><b>", "<Z\n=", "<a\x00\xff", "<a&gt;", "<a b=&gt;"} {
		tellsAll(t, s)
		tellsData(t, s, 0, last, len(s))
		tellsAll(t, "x"+s, text("x"))
		tellsData(t, "x"+s, 1, last, len(s)+1)
		tellsAll(t, "<i></i><!--c-->"+s, start("i"), end("i"), comment("c"))
		tellsAll(t, "</>"+s)
		tellsData(t, "</></>"+s, 0, last, len(s)+6)
	}
	tells(t, place{s: "x</title ", mode: api.ModeRefs, name: "title"}, text("x"), 1)
	for _, mode := range []uint8{api.ModeRefs, api.ModeRaw, api.ModeScript} {
		for _, s := range []string{"</title ", "</title/", "</title b='>"} {
			tells(t, place{s: "x" + s, i: 1, mode: mode, name: "title"}, last, len(s)+1)
		}
	}
}

// What comes to no token is passed over; what follows is read as it was to be.
func TestNoToken(t *testing.T) {
	for _, ahead := range []string{"</>", "</></>", "</></></></>"} {
		n := len(ahead)
		tellsAll(t, ahead)
		tellsAll(t, "a"+ahead, text("a"))
		tellsAll(t, ahead+"a", text("a"))
		tellsAll(t, "a"+ahead+"b", text("a"), text("b"))
		tellsAll(t, "<b>"+ahead+"</b>", start("b"), end("b"))
		tellsAll(t, ahead+"<!--a-->"+ahead, comment("a"))
		tellsAll(t, ahead+"<", text("<"))
		tellsAll(t, ahead+"</", text("</"))
		tellsAll(t, ahead+">", text(">"))
		tellsData(t, ahead, 0, last, n)
		tellsData(t, ahead+"&lt;</>", 0, text("<"), n+4)
		tellsData(t, ahead+"<b/>", 0, closing("b"), n+4)
		tells(t, place{s: ahead + "<![CDATA[x]]>", cdata: true}, text("x"), n+13)
		tells(t, place{s: ahead + "<![CDATA[x]]>"}, comment("[CDATA[x]]"), n+13)
		// Of an element without a name it is the end: its text goes on behind that.
		s := ahead + "&lt;<b><!--<script></>-->x</>"
		tells(t, place{s: s, mode: api.ModeRefs}, text("<<b><!--<script>"), n+19)
		tells(t, place{s: s, mode: api.ModeRaw}, text("&lt;<b><!--<script>"), n+19)
		tells(t, place{s: s, mode: api.ModeScript}, text("&lt;<b><!--<script></>-->x"), n+26)
		tells(t, place{s: s, mode: api.ModePlain}, text(s), len(s))
		tells(t, place{s: s, mode: api.ModeRaw, name: "b"}, text(s), len(s))
		tells(t, place{s: ahead, mode: api.ModeRaw}, last, n)
	}
	tells(t, place{s: "</></b>x<i></b>", mode: api.ModeRaw, name: "b"}, text("</>"), 3)
}

func TestCdata(t *testing.T) {
	for s, want := range map[string]string{
		"<![CDATA[x]]>": "x", "<![CDATA[]]>": "", "<![CDATA[<b>&lt;</b>]]>": "<b>&lt;</b>", "<![CDATA[]]]]>": "]]", "<![CDATA[</>]]>": "</>", "<![CDATA[x": "x", "<![CDATA[": "", "<![CDATA[a]>]]>": "a]>",
	} {
		for _, mode := range otherModes {
			tells(t, place{s: s, mode: mode, cdata: true}, text(want), len(s))
			tells(t, place{s: "x" + s, mode: mode, cdata: true}, text("x"), 1)
			tells(t, place{s: "x" + s, i: 1, mode: mode, cdata: true}, text(want), len(s)+1)
		}
		upto, _, _ := strings.Cut(s[2:], ">")
		tells(t, place{s: s}, comment(upto), min(len(upto)+3, len(s)))
		for _, mode := range rawModes {
			tells(t, place{s: s, mode: mode, name: "q", cdata: true}, text(ownText(s, mode)), len(s))
		}
	}
	tells(t, place{s: "<![cdata[x]]>", cdata: true}, comment("[cdata[x]]"), 13)
	tells(t, place{s: "<!--a-->", cdata: true}, comment("a"), 8)
	tells(t, place{s: "<!doctype a>", cdata: true}, doctype, 12)
}

// ownText is s as the text of an element of that mode.
func ownText(s string, mode uint8) string {
	if mode == api.ModeRefs {
		return ent.Decode(s, false)
	}
	return s
}

// In four modes there is no markup but an end of the name; behind that, and in all others, there is.
func TestModes(t *testing.T) {
	const s = "&lt;<i></a><!--c--></B x>y"
	for mode := range 256 {
		p := place{s: s, mode: uint8(mode), name: "b"}
		switch uint8(mode) {
		case api.ModePlain:
			tells(t, p, text(s), len(s))
		case api.ModeRaw, api.ModeScript:
			tells(t, p, text("&lt;<i></a><!--c-->"), 19)
		case api.ModeRefs:
			tells(t, p, text("<<i></a><!--c-->"), 19)
		default:
			tells(t, p, text("<"), 4)
			p.i = 4
			tells(t, p, start("i"), 7)
		}
		p.i = 19
		switch uint8(mode) {
		case api.ModePlain:
			tells(t, p, text("</B x>y"), len(s))
		default:
			tells(t, p, end("b"), 25)
		}
		p.i = 25
		tells(t, p, text("y"), 26)
		p.i = 26
		tells(t, p, last, 26)
	}
}

// Where an end stands at once there is no text of the element's own.
func TestEndsAtOnce(t *testing.T) {
	for _, mode := range []uint8{api.ModeRefs, api.ModeRaw, api.ModeScript} {
		for _, x := range []struct {
			s, name string
			want    api.Token
			to      int
		}{
			{"</title>x", "title", end("title"), 8}, {"</TITLE a=b/>x", "title", end("title"), 13}, {"</title\n>", "TITLE", end("title"), 9}, {"</title/></title>", "title", end("title"), 9},
			{"</script></script>", "script", end("script"), 9}, {"</1>x", "1", comment("1"), 4}, {"</ >x", "", comment(" "), 4}, {"</!-->x", "!--", comment("!--"), 6}, {"</é >", "é", comment("é "), 6},
			{"</titles>", "title", text("</titles>"), 9}, {"</title", "title", text("</title"), 7}, {"</title<b>", "title", text("</title<b>"), 10}, {"<title></title>", "title", text("<title>"), 7}, {"</a></title>", "title", text("</a>"), 4}, {"<!--</title>-->", "title", text("<!--"), 4}, {"<", "b", text("<"), 1}, {"x", "b", text("x"), 1},
		} {
			tells(t, place{s: x.s, mode: mode, name: x.name}, x.want, x.to)
			tells(t, place{s: x.s, mode: mode, name: x.name, cdata: true}, x.want, x.to)
			tells(t, place{s: "é<b>" + x.s, i: 5, mode: mode, name: x.name}, x.want, x.to+5)
		}
	}
	const script = "<!--<script></script>--></script>"
	tells(t, place{s: script, mode: api.ModeScript, name: "script"}, text(script[:24]), 24)
	tells(t, place{s: script, mode: api.ModeRaw, name: "script"}, text(script[:12]), 12)
	tells(t, place{s: script, i: 24, mode: api.ModeScript, name: "script"}, end("script"), len(script))
}

// written are pieces of HTML, each with the one token that it comes to, if any.
var written = []struct {
	s    string
	want api.Token
}{
	{"a", text("a")}, {"&lt;", text("<")}, {"< ", text("< ")}, {"é>", text("é>")}, {"</>", api.Token{}},
	{"<B C='<i>' d>", start("b", "c", "<i>", "d", "")}, {"<br/>", closing("br")}, {"</B >", end("b")}, {"<!--<b>-->", comment("<b>")}, {"<?x>", comment("?x")}, {"</ y>", comment(" y")}, {"<!Doctype x>", doctype},
}

// What is written piece by piece is read so; texts that stand side by side are one.
func TestPiecesOneBehindTheOther(t *testing.T) {
	var hold func(s string, want []api.Token, ends []int, most int)
	hold = func(s string, want []api.Token, ends []int, most int) {
		tellsAll(t, s, want...)
		at := 0
		for n, w := range want {
			tells(t, place{s: s, i: at}, w, ends[n])
			at = ends[n]
		}
		tells(t, place{s: s, i: at}, last, len(s))
		if most == 0 {
			return
		}
		for _, piece := range written {
			more, to, k := slices.Clone(want), slices.Clone(ends), len(want)-1
			switch {
			case piece.want.Kind == 0:
			case piece.want.Kind == api.TokText && k >= 0 && want[k].Kind == api.TokText && ends[k] == len(s):
				more[k].Text += piece.want.Text
				to[k] += len(piece.s)
			default:
				more, to = append(more, piece.want), append(to, len(s)+len(piece.s))
			}
			hold(s+piece.s, more, to, most-1)
		}
	}
	hold("", nil, nil, 4)
}

func TestEachByteAtEachPlace(t *testing.T) {
	for _, s := range []string{"a<b c>d", "a</b>d", "a</>d", "a<!--b-->d", "<?a>b", "<![CDATA[a]]>b", "&lt;<b/>", "<!doctype>a"} {
		for at := range len(s) + 1 {
			for c := range 256 {
				for _, in := range []string{s[:at] + one(c) + s[at:], s[:at] + one(c) + s[min(at+1, len(s)):]} {
					tellsAll(t, in, allByWords(in)...)
					sameAsWords(t, in, 0, "b")
					sameAsWords(t, in, 1, "b")
				}
			}
		}
	}
}

func TestCutOffAtEachByte(t *testing.T) {
	for _, s := range []string{"a < b</x><!--c-->&lt;<", "x</title>", "<a b='c' d=\"e\"/>f</A g>", "<![CDATA[a]]></></ b><?c><!doctype d>e", "é<!--a--!></script >"} {
		for n := range len(s) + 1 {
			tellsAll(t, s[:n], allByWords(s[:n])...)
			for i := -1; i <= n+1; i++ {
				for _, name := range []string{"", "x", "title", "a", "script"} {
					sameAsWords(t, s[:n], i, name)
				}
			}
		}
	}
}

func TestAnyPieces(t *testing.T) {
	joined(strings.Split("<|/|>|b|!|?|--| |'|=|&lt|;|é|\xff", "|"), 4, func(s string) {
		tellsAll(t, s, allByWords(s)...)
		sameAsWords(t, s, 0, "b")
		sameAsWords(t, s, 1, "")
	})
	joined(strings.Split("</>|</b>|</B |<b>|<!--|-->|<![CDATA[|]]>|&amp;|x|<script>|</script>", "|"), 4, func(s string) {
		tellsAll(t, s, allByWords(s)...)
		sameAsWords(t, s, 0, "b")
		sameAsWords(t, s, 0, "")
		sameAsWords(t, s, 3, "script")
	})
	joined(strings.Split("<|/|>|b|!|-|a", "|"), 6, func(s string) { tellsAll(t, s, allByWords(s)...) })
}

// Each token ends behind where it began, and within the text: who reads on comes to the end of all, in whatever mode.
func TestGoesOn(t *testing.T) {
	joined(strings.Split("<|</|>|a|<!|--|'|<![CDATA[]]>|</>", "|"), 4, func(s string) {
		for mode := range api.ModePlain + 2 {
			for _, name := range []string{"", "a"} {
				i, got := 0, api.Token{}
				for n := 0; got.Kind != api.TokLast; n++ {
					var to int
					got, to = lex.Next(s, i, mode, name, true)
					if n > len(s) || to > len(s) || got.Kind == 0 || got.Kind > api.TokLast || got.Kind == api.TokLast && to != len(s) || got.Kind != api.TokLast && to <= i {
						t.Fatalf("Next of %q at %d, in mode %d: %+v, %d", s, i, mode, got, to)
					}
					i = to
				}
			}
		}
	})
}

// A text in which no markup begins is one token, and none if it is empty.
func TestTextsWithoutMarkup(t *testing.T) {
	hold := func(s string) {
		if s == "" {
			tellsAll(t, s)
			return
		}
		tellsAll(t, s, text(s))
		for mode := range api.ModePlain + 2 {
			tells(t, place{s: s, mode: mode, name: "a"}, text(s), len(s))
		}
	}
	joined(strings.Split(">|/|a|!--|-->|amp;|#60;|'|\n|\r\n|é|\u00a0|\xff|\x00", "|"), 4, hold)
	joined(strings.Split("< |<1|<<é|>|<\x00", "|"), 4, hold)
	for _, s := range []string{"<b>", "</b>", "<!--b-->", "<?b>", "</ b>"} {
		if got := lex.All("a" + s + "c"); len(got) != 3 || got[1].Kind == api.TokText {
			t.Errorf("All of a text with %q: %+v", s, got)
		}
	}
}

// Texts, tags and comments that are written well are read as they were.
func TestThereAndBack(t *testing.T) {
	escaped := strings.NewReplacer("&", "&amp;", `"`, "&quot;", "<", "&lt;", ">", "&gt;", "\u00a0", "&nbsp;")
	joined(strings.Split("&|amp;|<|>|</b>|<!--|\"|\u00a0|\n|é|\xff", "|"), 3, func(in string) {
		if in == "" {
			return
		}
		s := escaped.Replace(in)
		tellsAll(t, s, text(in))
		tellsAll(t, s+`<b title="`+s+`">`+s+"</b><!--c-->"+s, text(in), start("b", "title", in), text(in), end("b"), comment("c"), text(in))
		tells(t, place{s: s + "</title>" + s, mode: api.ModeRefs, name: "title"}, text(in), len(s))
	})
}

// outside says whether a string has no byte of a text's memory.
func outside(part, text string) bool {
	if part == "" || text == "" {
		return true
	}
	from, first := uintptr(unsafe.Pointer(unsafe.StringData(part))), uintptr(unsafe.Pointer(unsafe.StringData(text)))
	return from+uintptr(len(part)) <= first || first+uintptr(len(text)) <= from
}

// parts are all strings of some tokens.
func parts(l []api.Token) []string {
	var out []string
	for _, k := range l {
		out = append(out, k.Name, k.Text)
		for _, a := range k.Attrs {
			out = append(out, a.Name, a.Value)
		}
	}
	return out
}

func TestAnswersAreNew(t *testing.T) {
	const in = "as it stands<name that=stands there='as it is' amp='a&amp;b'/>a&amp;b</name><!--what stands there--><?and there>and there"
	s := strings.Clone(in)
	first, second := lex.All(s), lex.All(s)
	if len(first) != 7 || !slices.EqualFunc(first, second, same) || s != in {
		t.Fatalf("%+v, then %+v, of %q", first, second, s)
	}
	for n, part := range parts(first) {
		if !outside(part, s) {
			t.Errorf("%q is in the memory of what was handed in", part)
		}
		if !outside(part, parts(second)[n]) {
			t.Errorf("%q is in the memory that was told before", part)
		}
	}
	first[0].Text, first[1].Attrs[0] = "x", api.Attr{Name: "x"}
	_ = append(first[1].Attrs, api.Attr{Name: "y"})
	_ = append(first[:3], api.Token{})
	tellsAll(t, s, second...)
	for mode := range api.ModePlain + 2 {
		name := strings.Clone("name")
		for i := 0; i < len(s); {
			one, to := lex.Next(s, i, mode, name, true)
			two, _ := lex.Next(s, i, mode, name, true)
			for n, part := range parts([]api.Token{one}) {
				if !outside(part, s) || !outside(part, name) || !outside(part, parts([]api.Token{two})[n]) {
					t.Errorf("%q, at %d in mode %d, is not new", part, i, mode)
				}
			}
			i = to
		}
	}
}

// No call may take long, or end the program, where all is as bad as it can be.
func TestLongInputs(t *testing.T) {
	const many = 1 << 18
	for _, piece := range []string{"<", "<<", "< ", "<1", "&", "&#", "&am", "é", "\xff", ">", "-->", "x"} {
		s := strings.Repeat(piece, many)
		tellsAll(t, s+"<b>"+s, text(s), start("b"), text(s))
		tellsAll(t, "<!--"+s, allByWords("<!--"+s)...)
		for mode := range api.ModePlain + 2 {
			tells(t, place{s: s, mode: mode, name: "b"}, text(s), len(s))
		}
	}
	s := strings.Repeat("</>", 4*many)
	tellsAll(t, s)
	tellsAll(t, s+"x", text("x"))
	for _, mode := range []uint8{api.ModeData, api.ModeRefs, api.ModeRaw, api.ModeScript} {
		tells(t, place{s: s, mode: mode}, last, len(s))
		tells(t, place{s: s + "x</>", mode: mode}, text("x"), len(s)+1)
	}
	for _, piece := range []string{"<a ", "<a b='", "</a", "<a b"} {
		s := strings.Repeat(piece, many)
		tellsAll(t, "x"+s, allByWords("x"+s)...)
	}
}

// Of a text with very many of them, each is read without a look at all that follows.
func TestManyInALongText(t *testing.T) {
	const many = 1 << 17
	for piece, want := range map[string][]api.Token{
		"<b>": {start("b")}, "</b>": {end("b")}, "<b c='d'/>": {closing("b", "c", "d")}, "<!--c-->": {comment("c")}, "<!>": {comment("")}, "<!doctype>": {doctype}, "x</>": {text("x")}, "&lt;<?>": {text("<"), comment("?")}, "x<b>y</b>": {text("x"), start("b"), text("y"), end("b")}, "< <b>": {text("< "), start("b")}, "<b></>": {start("b")},
	} {
		tellsAll(t, strings.Repeat(piece, many), slices.Repeat(want, many)...)
	}
	for _, mode := range []uint8{api.ModeRefs, api.ModeRaw, api.ModeScript} {
		s, n := strings.Repeat("x</b>", many), 0
		for i := 0; i < len(s) && n <= 2*many; n++ {
			_, i = lex.Next(s, i, mode, "b", false)
		}
		if n != 2*many {
			t.Errorf("of many texts with their ends %d are read in mode %d", n, mode)
		}
	}
}
