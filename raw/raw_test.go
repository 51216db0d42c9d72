package raw_test

import (
	"math"
	"strings"
	"testing"
	"unsafe"

	"tympan/api"
	"tympan/ent"
	"tympan/raw"
)

// The modes in which there is text without tags.
var modes = []uint8{api.ModeRefs, api.ModeRaw, api.ModeScript, api.ModePlain}

// one is a string of one byte.
func one(c int) string { return string([]byte{byte(c)}) }

// small is s with small letters for A to Z.
func small(s string) string {
	b := []byte(s)
	for i, c := range b {
		if 'A' <= c && c <= 'Z' {
			b[i] = c - 'A' + 'a'
		}
	}
	return string(b)
}

// great is s with great letters for a to z.
func great(s string) string {
	b := []byte(s)
	for i, c := range b {
		if 'a' <= c && c <= 'z' {
			b[i] = c - 'a' + 'A'
		}
	}
	return string(b)
}

// stands says whether word stands at i, in letters of any size, and behind it a blank, `/` or `>`.
func stands(s string, i int, word string) bool {
	to := i + len(word)
	if to >= len(s) {
		return false
	}
	for k := range len(word) {
		if small(one(int(s[i+k]))) != small(one(int(word[k]))) {
			return false
		}
	}
	return strings.Contains("\t\n\f\r />", s[to:to+1])
}

// textByWords is Text, by the chapter's words.
func textByWords(s string, i int, name string, mode uint8) (string, int) {
	if i < 0 || i > len(s) {
		return "", i
	}
	at := i
	switch mode {
	case api.ModePlain:
		at = len(s)
	case api.ModeRefs, api.ModeRaw:
		for at < len(s) && !stands(s, at, "</"+name) {
			at++
		}
	case api.ModeScript:
		at = scriptByWords(s, i, name)
	}
	text := s[i:at]
	if mode == api.ModeRefs {
		text = ent.Decode(text, false)
	}
	return text, at
}

// scriptByWords is the place up to which a script goes on from i, by the chapter's words.
func scriptByWords(s string, i int, name string) int {
	state, dashes := "OUT", 0
	for i < len(s) {
		switch {
		case state == "OUT" && stands(s, i, "</"+name):
			return i
		case state == "OUT" && strings.HasPrefix(s[i:], "<!--"):
			state, dashes, i = "IN", 2, i+4
		case state == "OUT":
			i++
		case s[i] == '-':
			dashes, i = dashes+1, i+1
		case s[i] == '>' && dashes >= 2:
			state, i = "OUT", i+1
		case state == "IN" && stands(s, i, "</"+name):
			return i
		case state == "IN" && stands(s, i, "<script"):
			state, dashes, i = "DEEP", 0, i+8
		case state == "DEEP" && stands(s, i, "</script"):
			state, dashes, i = "IN", 0, i+9
		default:
			dashes, i = 0, i+1
		}
	}
	return i
}

// scriptByBrowsers is the place up to which a script goes on from 0, byte by byte, as browsers go from state to state.
func scriptByBrowsers(s string) int {
	state, word := "data", ""
	end := 0 // where the tag begins that may be its end
	for i := 0; i < len(s); i++ {
		c := s[i]
		letter := 'a' <= c && c <= 'z' || 'A' <= c && c <= 'Z'
		ends := strings.Contains("\t\n\f\r />", one(int(c)))
		switch state {
		case "data", "escaped", "escaped dash", "escaped dash dash", "double", "double dash", "double dash dash":
			state = plainByBrowsers(state, c)
			end = i
		case "data less":
			switch c {
			case '/':
				state, word = "data end", ""
			case '!':
				state = "start"
			default:
				state, i = "data", i-1
			}
		case "start", "start dash":
			switch {
			case c != '-':
				state, i = "data", i-1
			case state == "start":
				state = "start dash"
			default:
				state = "escaped dash dash"
			}
		case "escaped less":
			switch {
			case c == '/':
				state, word = "escaped end", ""
			case letter:
				state, word, i = "double start", "", i-1
			default:
				state, i = "escaped", i-1
			}
		case "double less":
			if c == '/' {
				state, word = "double end", ""
			} else {
				state, i = "double", i-1
			}
		case "data end", "escaped end":
			switch {
			case letter:
				word += small(one(int(c)))
			case ends && word == "script":
				return end
			default:
				state, i = strings.TrimSuffix(state, " end"), i-1
			}
		case "double start", "double end":
			back, on := "escaped", "double"
			if state == "double end" {
				back, on = on, back
			}
			switch {
			case letter:
				word += small(one(int(c)))
			case ends && word == "script":
				state = on
			case ends:
				state = back
			default:
				state, i = back, i-1
			}
		}
	}
	return len(s)
}

// plainByBrowsers is the state behind a byte, of those states in which no tag has begun.
func plainByBrowsers(state string, c byte) string {
	of, dashes, _ := strings.Cut(state, " ")
	switch {
	case c == '<':
		return of + " less"
	case of == "data":
		return of
	case c == '-' && dashes == "":
		return of + " dash"
	case c == '-':
		return of + " dash dash"
	case c == '>' && dashes == "dash dash":
		return "data"
	}
	return of
}

// tells holds Text against what it has to tell.
func tells(t *testing.T, s string, i int, name string, mode uint8, want string, to int) {
	t.Helper()
	if got, end := raw.Text(s, i, name, mode); got != want || end != to {
		t.Errorf("Text of %q at %d, of %q, in mode %d: %q, %d, not %q, %d", s, i, name, mode, got, end, want, to)
	}
}

// tellsNames holds the three modes that an end of name ends against what they have to tell of s from 0 on, which is as it stands.
func tellsNames(t *testing.T, s, name string, to int) {
	t.Helper()
	tells(t, s, 0, name, api.ModeRaw, s[:to], to)
	tells(t, s, 0, name, api.ModeScript, s[:to], to)
	tells(t, s, 0, name, api.ModeRefs, ent.Decode(s[:to], false), to)
	tells(t, s, 0, name, api.ModePlain, s, len(s))
}

// sameAsWords holds Text at i, in each mode, against what the chapter says.
func sameAsWords(t *testing.T, s string, i int, name string) {
	t.Helper()
	for _, mode := range modes {
		want, to := textByWords(s, i, name, mode)
		tells(t, s, i, name, mode, want, to)
	}
}

// joined calls do with all that at most so many pieces come to, one behind the other.
func joined(pieces []string, most int, do func(s string)) {
	do("")
	if most == 0 {
		return
	}
	for _, p := range pieces {
		joined(pieces, most-1, func(s string) { do(p + s) })
	}
}

func TestExamples(t *testing.T) {
	tells(t, "a</b></B x>", 0, "b", api.ModeRaw, "a", 1)
	tells(t, "a</b></B x>", 2, "b", api.ModeRaw, "/b>", 5)
	tells(t, "&lt;</titles></title>", 0, "title", api.ModeRefs, "<</titles>", 13)
	tells(t, "&lt;</titles></title>", 0, "title", api.ModeRaw, "&lt;</titles>", 13)
	const script = "<!--<script></script>--></script>"
	tells(t, script, 0, "script", api.ModeScript, script[:24], 24)
	tells(t, script, 0, "script", api.ModeRaw, script[:12], 12)
	tells(t, "</a", 0, "a", api.ModeRaw, "</a", 3)
}

func TestModes(t *testing.T) {
	const s = "x&lt;</a></b>"
	for mode := range 256 {
		want, to := "", 1
		switch uint8(mode) {
		case api.ModePlain:
			want, to = s[1:], len(s)
		case api.ModeRaw, api.ModeScript:
			want, to = "&lt;</a>", 9
		case api.ModeRefs:
			want, to = "<</a>", 9
		}
		tells(t, s, 1, "b", uint8(mode), want, to)
		for _, i := range []int{-1, math.MinInt, len(s) + 1, math.MaxInt, len(s)} {
			tells(t, s, i, "b", uint8(mode), "", i)
		}
		tells(t, "", 0, "b", uint8(mode), "", 0)
		tells(t, "", 0, "", uint8(mode), "", 0)
	}
}

func TestPlaces(t *testing.T) {
	const s = "é&amp;<!--<script></title></SCRIPT></script\n>-->&lt;</Script/>z</script>&gt;</titl</title e>"
	for _, name := range []string{"title", "script", "Title", "SCRIPT", "titl", "x", "", "é"} {
		for i := -3; i < len(s)+3; i++ {
			sameAsWords(t, s, i, name)
		}
	}
	for _, i := range []int{-1, len(s) + 1, math.MaxInt, math.MaxInt - 1, math.MaxInt - len(s), math.MinInt, math.MaxInt32, math.MinInt32, 1<<32 + 1, 1 << 62} {
		for _, mode := range modes {
			tells(t, s, i, "title", mode, "", i)
			tells(t, s, i, "", mode, "", i)
		}
	}
}

// An end has a name whole, and a blank, a slash or a sign of the end behind it.
func TestEachByteBehindAName(t *testing.T) {
	for c := range 256 {
		for _, name := range []string{"a", "title", "script"} {
			for _, size := range []func(string) string{small, great, strings.Clone} {
				s := "x</" + size(name) + one(c)
				to := len(s)
				if strings.Contains("\t\n\f\r />", one(c)) {
					to = 1
				}
				tellsNames(t, s, name, to)
				tellsNames(t, s+"</"+name+">", name, to)
				if to == len(s) {
					tellsNames(t, s+">", name, len(s)+1)
				}
			}
		}
	}
}

// Each byte in place of each of an end's: a letter of the other size is the same, nothing else is.
func TestEachByteOfAnEnd(t *testing.T) {
	for _, name := range []string{"script", "title", "h1", "x-y", "k", "\xe9", "a_[{`@"} {
		s := "</" + name + ">"
		for at := range len(s) - 1 {
			for c := range 256 {
				in := s[:at] + one(c) + s[at+1:]
				to := len(in)
				if small(in) == small(s) {
					to = 0
				}
				tellsNames(t, in, name, to)
				tellsNames(t, in, great(name), to)
			}
		}
	}
}

func TestNames(t *testing.T) {
	for _, x := range []struct {
		s, name string
		to      int
	}{
		{"</title>", "title", 0}, {"</TITLE>", "title", 0}, {"</title>", "TITLE", 0}, {"</tItLe>", "TiTlE", 0}, {"</STYLE/>", "style", 0}, {"</style a='</style>'>", "style", 0}, {"a</b\f>", "b", 1}, {"a</b\t", "b", 1}, {"a</b\r", "b", 1},
		{"</titles>", "title", 9}, {"</titl>", "title", 7}, {"</title", "title", 7}, {"</title-x>", "title", 10}, {"</title\x00>", "title", 9}, {"</title\v>", "title", 9}, {"</title<", "title", 8}, {"</title=>", "title", 9}, {"</title\u00a0>", "title", 10}, {"</title\\>", "title", 9}, {"</title&gt;", "title", 11},
		{"< /title>", "title", 9}, {"</ title>", "title", 9}, {"<//title>", "title", 9}, {"<title>", "title", 7}, {"<title/>", "title", 8}, {"/title>", "title", 7}, {"&lt;/title>", "title", 11}, {"<&#47;title>", "title", 12}, {"</&#116;itle>", "title", 13}, {"<\\/title>", "title", 9},
		{"<</title>", "title", 1}, {"</</title>", "title", 2}, {"</t</title>", "title", 3}, {"</title</title>", "title", 7}, {"</title</titl</title >", "title", 13}, {"<!--</title>-->", "title", 4}, {"'</title>'", "title", 1}, {"<a b='</title>'>", "title", 6}, {"<![CDATA[</title>]]>", "title", 9},
		{"</>", "", 0}, {"x</ >", "", 1}, {"x<//", "", 1}, {"x</a>", "", 5}, {"</", "", 2}, {"x</", "", 3}, {"</>", " ", 3}, {"</ >", " ", 0}, {"</a/b>", "a/b", 0}, {"</a/b>", "a", 0}, {"</a>>", "a>", 0}, {"</a</a>", "</a", 7}, {"</</a>", "</a", 0}, {"</a b>", "a b", 0}, {"</a >", "a b", 5},
		{"</\u212a>", "k", 6}, {"</k>", "\u212a", 4}, {"</\u017fcript>", "script", 10}, {"</é>", "é", 0}, {"</É>", "é", 5}, {"</é>", "É", 5}, {"</\xff>", "\xff", 0}, {"</\x00>", "\x00", 0}, {"</\xc3>", "é", 4}, {"</@>", "`", 4}, {"</[>", "{", 4}, {"</{>", "[", 4},
	} {
		tellsNames(t, x.s, x.name, x.to)
		tells(t, "é<"+x.s, 3, x.name, api.ModeRaw, x.s[:x.to], x.to+3)
		tells(t, "é<"+x.s, 3, x.name, api.ModeScript, x.s[:x.to], x.to+3)
	}
	long := strings.Repeat("aB", 500)
	tellsNames(t, "</"+small(long)+">", great(long), 0)
	tellsNames(t, "</"+long[1:]+">", long, 3+len(long)-1)
}

// References stand for what they stand for elsewhere, in one mode; in the others they stand for nothing.
func TestReferences(t *testing.T) {
	for s, want := range map[string]string{
		"&lt;": "<", "&lt;/t>": "</t>", "&amp;amp;": "&amp;", "&copy=1": "©=1", "&copya": "©a", "&#60/t>": "</t>", "&#x26;lt;": "&lt;", "&": "&", "&;": "&;", "&#": "&#", "&nothing;": "¬hing;", "&nowhere;": "&nowhere;", "&lt": "<", "&#0;": "\ufffd", "&acE;": "\u223e\u0333",
		"a\x00b\xff": "a\x00b\xff", "<b>&amp;</b>": "<b>&</b>", "<!--&lt;-->": "<!--<-->", "a\r\nb": "a\r\nb", "\ufeff": "\ufeff", "": "",
	} {
		for _, end := range []string{"</t>", "</T >", "</t/"} {
			tells(t, s+end, 0, "t", api.ModeRefs, want, len(s))
			tells(t, s+end, 0, "t", api.ModeRaw, s, len(s))
			tells(t, s+end, 0, "t", api.ModeScript, s, len(s))
			tells(t, s+end, 0, "t", api.ModePlain, s+end, len(s+end))
			tells(t, end+s, 0, "t", api.ModeRefs, "", 0)
		}
		tells(t, s, 0, "t", api.ModeRefs, want, len(s))
		tells(t, s, 0, "t", api.ModeRaw, s, len(s))
	}
	tells(t, "&lt;", 1, "t", api.ModeRefs, "lt;", 4)
	tells(t, "&l</t>t;", 0, "t", api.ModeRefs, "&l", 2)
	tells(t, "&lt</t>;", 0, "t", api.ModeRefs, "<", 3)
}

func TestPlain(t *testing.T) {
	for _, s := range []string{"</plaintext>", "a</a>&lt;<!--<script></script>", "\x00\xff", "é", "", "</"} {
		for i := range len(s) + 1 {
			for _, name := range []string{"plaintext", "a", "", "script"} {
				tells(t, s, i, name, api.ModePlain, s[i:], len(s))
			}
		}
	}
}

// Of these the script goes on up to where `|` stands.
func TestScripts(t *testing.T) {
	for _, x := range []string{
		"|</script>", "x|</script>", "x|</SCRIPT >", "x|</script/", "<script>|</script>", "<!-|</script>", "<! --|</script>", "<!-- |</script>", "<!--|</script>-->", "<!--a|</Script\n>", "</scripts>|</script>", "</style>|</script>", "&lt;|</script>",
		"<!--<script></script>-->|</script>", "<!--<script>-->|</script>", "<!--<script>--->|</script>", "<!--<script>--!></script>--!>|</script>", "<!--<script>-></script>|</script>", "<!--<script>- -></script>|</script>", "<!--<script></script>|</script>", "<!--<script></script></x>|</script>",
		"<!--<script></script><script></script>|</script>", "<!--<script><script></script>|</script>", "<!--<script></script>--><!--<script></script>|</script>", "<!--<script></script>--><script>|</script>",
		"<!--><script>|</script></script>", "<!---><script>|</script></script>", "<!----><script>|</script></script>", "<!-- --><script>|</script></script>", "<!--> <!--<script></script>|</script>", "<!--->-><!--<script></script>|</script>",
		"<!--><!--<script></script>|</script>", "<!--<!--><script>|</script></script>", "<!--<!---><script>|</script></script>", "<!--<!-- --><script>|</script></script>", "<!--<!--<script></script>|</script>", "<!--!><script></script>|</script>", "<!-- -><script></script>|</script>", "<!--a>-<script></script>|</script>",
		"<!--->>-<script>|</script>", "<!--- ><script></script>|</script>", "<!----!><script></script>|</script>", "<!-->--><script>|</script>", "<!--a->->--><script>|</script>",
		"<!--<SCRIPT></sCRIPT>|</Script>", "<!--<script/></script/>|</script>", "<!--<script\n></script\f>|</script>", "<!--<script\t</script\r|</script>", "<!--<script </script |</script>", "<!--<script/</script/|</script>", "<!--<script>>>|",
		"<!--<scripts>|</script>", "<!--<script|</script>", "<!--<script-->|</script>", "<!--< script>|</script>", "<!--<<script></script>|</script>", "<!--<script></scripts></script>|</script>", "<!--<script></ script></script>|</script>", "<!--<script></script</script>|</script>", "<!--<scr<script></script>|</script>", "<!--</scr<script></script>|</script>", "<!--<script>< /script></script>|</script>", "<!--<&#115;cript>|</script>", "<!--<\u017fcript>|</script>", "<!--<script></\u017fcript></script>|</script>",
		"<!--<script >-->|</script>", "<!--<script>>|", "<!--<script>-- ></script>|</script>", "<!--<script/-->|</script>", "<!--<script></script-->|</script>", "<!--<script>--</script>>|</script>", "<!--<script></script>>|</script>", "<!-- --<script>></script>|</script>", "<!----<script>></script>|</script>", "<!--<script>--<script>></script>|</script>", "<!--<script>--</script>><script></script>|</script>", "<!--<script>--</script/><script></script>|</script>",
		"<!--<script></style></script>|</script>", "<!--<script></script>a</style>|</script>", "<!--<script>|", "<!--<script></script>|", "<!--|", "<!|", "<|", "</|", "</script|", "<!--<script></script|", "<!--<script|", "|", "-->|</script>", "--><script>|</script>", "<!--é\x00\xff<script>é\x00\xff</script>é|</script>",
	} {
		text, rest, ok := strings.Cut(x, "|")
		if !ok {
			t.Fatal(x)
		}
		for _, behind := range []string{"", "x", "-->", "</script>", "<script>", "\xff"} {
			if rest == "" && behind != "" {
				continue
			}
			tells(t, text+rest+behind, 0, "script", api.ModeScript, text, len(text))
			tells(t, text+rest+behind, 0, "SCRIPT", api.ModeScript, text, len(text))
			tells(t, "<!-"+text+rest+behind, 3, "script", api.ModeScript, text, len(text)+3)
		}
		if got := scriptByBrowsers(text + rest); got != len(text) {
			t.Errorf("a browser ends the script of %q at %d", text+rest, got)
		}
	}
}

// A script by another name: its own end ends it out of comments and in them, but not in a script in one.
func TestScriptsOfOtherNames(t *testing.T) {
	for s, to := range map[string]int{
		"</script></b>": 9, "<!--</script></b>": 13, "<!--<script></b></script></b>": 25, "<!--<script></b>--></b>": 19, "<!--<b></b>": 7, "<!--<script></b>": 16, "<!--<script></b></b>": 20, "<!--<script>--><script></b>": 23, "<!--<script></script><b></b>": 24,
	} {
		tells(t, s, 0, "b", api.ModeScript, s[:to], to)
		tells(t, s, 0, "B", api.ModeScript, s[:to], to)
		if to < len(s) {
			tells(t, s+"</b>", 0, "b", api.ModeScript, s[:to], to)
		}
	}
}

// Within a comment of a script, each byte behind a name that may begin a script, or end it.
func TestEachByteOfAScript(t *testing.T) {
	const s = "--<!--<script>--</script>--></script>"
	for at := range len(s) + 1 {
		for c := range 256 {
			for _, in := range []string{s[:at] + one(c) + s[at:], s[:at] + one(c) + s[min(at+1, len(s)):]} {
				sameAsWords(t, in, 0, "script")
				sameAsWords(t, in, 0, "b")
				if got, want := scriptByBrowsers(in), scriptByWords(in, 0, "script"); got != want {
					t.Errorf("a browser ends the script of %q at %d, not at %d", in, got, want)
				}
			}
		}
	}
}

func TestCutOffAtEachByte(t *testing.T) {
	for _, s := range []string{"a</b></B x>", "&lt;</titles></title>", "<!--<script></script>--></script>", "x<!--a--><!--<script >--</script >-</script/>", "<!--->é</script\n>", "</a"} {
		for n := range len(s) + 1 {
			for i := -1; i <= n+1; i++ {
				for _, name := range []string{"b", "title", "script", "a", ""} {
					sameAsWords(t, s[:n], i, name)
				}
			}
		}
	}
}

func TestAnyPieces(t *testing.T) {
	joined(strings.Split("<|/|b|B|>| |&lt;|-|!|é|\xff", "|"), 4, func(s string) {
		for i := -1; i <= len(s)+1; i++ {
			sameAsWords(t, s, i, "b")
			sameAsWords(t, s, i, "")
		}
	})
	joined(strings.Split("</b|</B>|<b>|</bb>|</script>|<script>|<!--|-->|&amp;|x", "|"), 4, func(s string) {
		sameAsWords(t, s, 0, "b")
		sameAsWords(t, s, 1, "script")
	})
}

// Scripts are read as the chapter says, and as browsers read them.
func TestAnyScripts(t *testing.T) {
	joined(strings.Split("<!--|-|>|<script|</Script|/|x|<", "|"), 6, func(s string) {
		to := scriptByBrowsers(s)
		if want := scriptByWords(s, 0, "script"); to != want {
			t.Errorf("a browser ends the script of %q at %d, not at %d", s, to, want)
		}
		tells(t, s, 0, "script", api.ModeScript, s[:to], to)
	})
	joined(strings.Split("-|>|<script>|</script>|</script |!|</b>", "|"), 6, func(s string) {
		s = "<!--" + s
		to := scriptByBrowsers(s)
		tells(t, s, 0, "script", api.ModeScript, s[:to], to)
		sameAsWords(t, s, 0, "b")
	})
}

// Text is all there is up to an end, and there is an end where it stops: who reads on comes to the end of all.
func TestStopsAtAnEnd(t *testing.T) {
	joined(strings.Split("</a|>|<!--|-->|<script>|</script>|x", "|"), 5, func(s string) {
		for _, mode := range modes {
			for _, name := range []string{"a", "script"} {
				for i, n := 0, 0; i < len(s); n++ {
					text, to := raw.Text(s, i, name, mode)
					if n > len(s) || to < i || to > len(s) || text != s[i:to] || to < len(s) && (mode == api.ModePlain || !stands(s, to, "</"+name)) {
						t.Fatalf("Text of %q at %d, of %q, in mode %d: %q, %d", s, i, name, mode, text, to)
					}
					i = to + 1
				}
			}
		}
	})
}

// Text without an end of the name is read as it is, if one is put behind it.
func TestThereAndBack(t *testing.T) {
	joined(strings.Split("<|</|</t|t>|&|&amp;|-->|é|\x00", "|"), 4, func(text string) {
		if _, to := textByWords(text, 0, "t", api.ModeRaw); to < len(text) {
			return
		}
		for _, behind := range []string{"</t>", "</T x>"} {
			tells(t, text+behind+text, 0, "t", api.ModeRaw, text, len(text))
			tells(t, behind+text+behind, len(behind), "t", api.ModeRaw, text, len(behind)+len(text))
		}
		written := strings.NewReplacer("&", "&amp;", "<", "&lt;").Replace(text)
		tells(t, written+"</t>", 0, "t", api.ModeRefs, text, len(written))
	})
}

// outside says whether a string has no byte of a text's memory.
func outside(part, text string) bool {
	if part == "" || text == "" {
		return true
	}
	from, first := uintptr(unsafe.Pointer(unsafe.StringData(part))), uintptr(unsafe.Pointer(unsafe.StringData(text)))
	return from+uintptr(len(part)) <= first || first+uintptr(len(text)) <= from
}

func TestAnswersAreNew(t *testing.T) {
	const in, inName = "what stands there</Name>", "nAmE"
	for _, mode := range modes {
		s, name := strings.Clone(in), strings.Clone(inName)
		first, to := raw.Text(s, 0, name, mode)
		second, again := raw.Text(s, 0, name, mode)
		if !strings.HasPrefix(first, "what stands there") || first != second || to != again {
			t.Fatalf("mode %d: %q, %d, then %q, %d", mode, first, to, second, again)
		}
		if s != in || name != inName || !outside(first, s) || !outside(second, s) {
			t.Errorf("mode %d: the text is in the memory of what was handed in", mode)
		}
		if !outside(first, second) {
			t.Errorf("mode %d: the text is in the memory that was told before", mode)
		}
	}
}

// No call may take long where all is as bad as it can be.
func TestLongInputs(t *testing.T) {
	const many = 1 << 17
	long := strings.Repeat("a", many)
	for _, piece := range []string{"<", "</", "</script", "</scripts>", "<!--", "<!", "-", "->", "<script", "<script-->", "&", "&#", "<script><!--", "</ ", "é"} {
		in := strings.Repeat(piece, many)
		tellsNames(t, in, "title", len(in))
		tells(t, in+"</title>", 0, "title", api.ModeRaw, in, len(in))
		tells(t, in, 0, "script", api.ModeScript, in, len(in))
		tells(t, "<!--"+in, 0, "script", api.ModeScript, "<!--"+in, len(in)+4)
		tells(t, "<!--<script>"+in, 0, "script", api.ModeScript, "<!--<script>"+in, len(in)+12)
		tells(t, in, 0, long, api.ModeRaw, in, len(in))
		tells(t, in, 0, long, api.ModeScript, in, len(in))
	}
	tellsNames(t, "</"+long+">", long, 0)
	half := strings.Repeat("</"+long[:many/2]+" ", 4)
	tellsNames(t, half, long, len(half))
}

// Of a text with very many of them, each is read without a look at all that follows.
func TestManyInALongText(t *testing.T) {
	const many = 1 << 17
	for _, piece := range []string{"</b>", "x</B >", "<!--</b>", "<!--<script></script></b>", "--></b>"} {
		s := strings.Repeat(piece, many)
		for _, mode := range []uint8{api.ModeRefs, api.ModeRaw, api.ModeScript} {
			n := 0
			for i := 0; i < len(s) && n <= many+1; n++ {
				_, i = raw.Text(s, i, "b", mode)
				i++
			}
			if n < many || n > many+1 {
				t.Errorf("of many %q %d are read in mode %d", piece, n, mode)
			}
		}
	}
}
