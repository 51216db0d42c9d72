package note_test

import (
	"math"
	"strings"
	"testing"
	"unsafe"

	"tympan/api"
	"tympan/note"
	"tympan/tag"
)

const letters = "abcdefghijklmnopqrstuvwxyzABCDEFGHIJKLMNOPQRSTUVWXYZ"

// one is a string of one byte.
func one(c int) string { return string([]byte{byte(c)}) }

// beginsByWords is Begins, by the chapter's words.
func beginsByWords(s string, i int) bool {
	if i < 0 || i >= len(s)-1 || s[i] != '<' {
		return false
	}
	switch s[i+1] {
	case '!', '?':
		return true
	case '/':
		return i+2 < len(s) && !strings.Contains(letters, s[i+2:i+3])
	}
	return false
}

// upTo is what s has from i up to the first place of sign from there on, and the place behind it; without one it is all there is.
func upTo(s string, i int, sign string) (string, int) {
	for to := i; to+len(sign) <= len(s); to++ {
		if s[to:to+len(sign)] == sign {
			return s[i:to], to + len(sign)
		}
	}
	return s[i:], len(s)
}

// readByWords is Read, by the chapter's words.
func readByWords(s string, i int, cdata bool) (api.Token, int) {
	if !beginsByWords(s, i) {
		return api.Token{}, i
	}
	begins := func(sign string) bool { return len(s)-i >= len(sign) && s[i:i+len(sign)] == sign }
	t := api.Token{Kind: api.TokNote}
	to := i
	switch {
	case begins("<!--"):
		t.Text, to = commentByWords(s, i+4)
	case len(s)-i >= 9 && strings.EqualFold(s[i:i+9], "<!doctype"): // none of its letters is the same as one beyond A to Z
		t.Kind = api.TokDoctype
		_, to = upTo(s, i, ">")
	case begins("<![CDATA[") && cdata:
		t.Kind = api.TokText
		t.Text, to = upTo(s, i+9, "]]>")
	case begins("<?"):
		t.Text, to = upTo(s, i+1, ">")
	case begins("</>"):
		t.Kind, to = 0, i+3
	default:
		t.Text, to = upTo(s, i+2, ">")
	}
	return t, to
}

// commentByWords is the text of a comment from i on, and where it ends, by the chapter's words.
func commentByWords(s string, i int) (string, int) {
	if strings.HasPrefix(s[i:], ">") {
		return "", i + 1
	}
	if strings.HasPrefix(s[i:], "->") {
		return "", i + 2
	}
	for at := i; at < len(s); at++ {
		if strings.HasPrefix(s[at:], "-->") {
			return s[i:at], at + 3
		}
		if strings.HasPrefix(s[at:], "--!>") {
			return s[i:at], at + 4
		}
	}
	text := s[i:]
	switch {
	case strings.HasSuffix(text, "--!"):
		text = text[:len(text)-3]
	case strings.HasSuffix(text, "--"):
		text = text[:len(text)-2]
	case strings.HasSuffix(text, "-"):
		text = text[:len(text)-1]
	}
	return text, len(s)
}

// commentByBrowsers is the text of a comment from i on, and where it ends, byte by byte, as browsers go from state to state.
func commentByBrowsers(s string, i int) (string, int) {
	text, state := "", "start"
	for i < len(s) {
		c := s[i]
		switch {
		case c == '>' && state != "comment" && state != "end dash":
			return text, i + 1
		case state == "start" && c == '-':
			state = "start dash"
		case (state == "start dash" || state == "end dash") && c == '-':
			state = "end"
		case state == "comment" && c == '-':
			state = "end dash"
		case state == "end" && c == '-':
			text += "-"
		case state == "end" && c == '!':
			state = "end bang"
		case state == "end bang" && c == '-':
			text, state = text+"--!", "end dash"
		default:
			text += map[string]string{"start dash": "-", "end dash": "-", "end": "--", "end bang": "--!"}[state] + one(int(c))
			state = "comment"
		}
		i++
	}
	return text, i
}

// same says whether two tokens are the same; neither may have what a note has not.
func same(a, b api.Token) bool {
	return a.Kind == b.Kind && a.Text == b.Text && a.Name+b.Name == "" && len(a.Attrs)+len(b.Attrs) == 0 && !a.Closing && !b.Closing
}

// reads holds Read at i against what it has to tell.
func reads(t *testing.T, s string, i int, cdata bool, want api.Token, to int) {
	t.Helper()
	if got, end := note.Read(s, i, cdata); !same(got, want) || end != to {
		t.Errorf("Read of %q at %d, %v: %+v, %d, not %+v, %d", s, i, cdata, got, end, want, to)
	}
}

// readsBoth holds Read against what it has to tell with cdata and without.
func readsBoth(t *testing.T, s string, i int, want api.Token, to int) {
	t.Helper()
	reads(t, s, i, false, want, to)
	reads(t, s, i, true, want, to)
}

// sameAsWords holds both calls at i against what the chapter says.
func sameAsWords(t *testing.T, s string, i int) {
	t.Helper()
	if got, want := note.Begins(s, i), beginsByWords(s, i); got != want {
		t.Errorf("Begins of %q at %d: %v", s, i, got)
	}
	for _, cdata := range []bool{false, true} {
		want, to := readByWords(s, i, cdata)
		reads(t, s, i, cdata, want, to)
	}
}

// joined calls do with all that at most so many pieces come to, one behind the other.
func joined(pieces []string, most int, do func(s string)) {
	do("")
	if most == 0 {
		return
	}
	for _, p := range pieces {
		joined(pieces, most-1, func(s string) { do(p + s) })
	}
}

// comment, text and doctype are tokens, none is no token.
func comment(inner string) api.Token { return api.Token{Kind: api.TokNote, Text: inner} }
func text(inner string) api.Token    { return api.Token{Kind: api.TokText, Text: inner} }

var (
	doctype = api.Token{Kind: api.TokDoctype}
	none    = api.Token{}
)

func TestExamples(t *testing.T) {
	reads(t, "<!--a--!>b", 0, false, comment("a"), 9)
	readsBoth(t, "<!-->", 0, comment(""), 5)
	readsBoth(t, "<!--a--", 0, comment("a"), 7)
	readsBoth(t, "<!DocType x>", 0, doctype, 12)
	reads(t, "<![CDATA[x]]>", 0, true, text("x"), 13)
	reads(t, "<![CDATA[x]]>", 0, false, comment("[CDATA[x]]"), 13)
	readsBoth(t, "<?a>", 0, comment("?a"), 4)
	readsBoth(t, "</>", 0, none, 3)
	readsBoth(t, "</ a>", 0, comment(" a"), 5)
}

func TestBegins(t *testing.T) {
	for _, s := range []string{"<!", "<?", "<!a", "<!-", "<!--", "<!>", "<?>", "<?xml", "<!doctype", "<![CDATA[", "</>", "</ ", "</ a", "</\n", "<//", "</!", "</?", "</<", "</1", "</-", "</_", "</@a", "</[", "</`", "</{a", "</é", "</\uff41", "</\u212a", "</\xff", "</\x00"} {
		for _, ahead := range []string{"", "x", "<", "</", "<!", "é", "\xff"} {
			if !note.Begins(ahead+s, len(ahead)) {
				t.Errorf("nothing begins at %d of %q", len(ahead), ahead+s)
			}
		}
	}
	for _, s := range []string{"", "<", "</", "!", "?", "/", "!--", "</a", "</Z", "</a>", "<a", "<a!", "< !", "<<!", "<\\!", "< /", "<\n!", "<-", "<--", "-->", "<>", "<1", "<&", "&lt;!--", "\\<!--", " <!--", "<é", "<\uff01", "<\x00!", "<\xff!", "\uff1c!"} {
		if note.Begins(s, 0) {
			t.Errorf("something begins %q", s)
		}
		readsBoth(t, s, 0, none, 0)
	}
}

func TestBeginsOfEachByte(t *testing.T) {
	for c := range 256 {
		isLetter := strings.Contains(letters, one(c))
		for s, want := range map[string]bool{
			"<" + one(c): c == '!' || c == '?', "<" + one(c) + "!": c == '!' || c == '?' || c == '/', "<" + one(c) + "a": c == '!' || c == '?',
			"</" + one(c): !isLetter, "</" + one(c) + ">": !isLetter, "<!" + one(c): true, "<?" + one(c): true,
			one(c) + "!": c == '<', one(c) + "?": c == '<', one(c) + "/>": c == '<', "a" + one(c): false,
		} {
			if got := note.Begins(s, 0); got != want {
				t.Errorf("Begins of %q: %v", s, got)
			}
			if want && tag.Begins(s, 0) {
				t.Errorf("%q is a tag too", s)
			}
			sameAsWords(t, s, 0)
			sameAsWords(t, s+">", 0)
		}
	}
}

func TestPlaces(t *testing.T) {
	const s = "x<!--a--><?<!b></>é</1<!"
	for i := -3; i < len(s)+3; i++ {
		want := i == 1 || i == 9 || i == 11 || i == 15 || i == 20 || i == 23
		if got := note.Begins(s, i); got != want {
			t.Errorf("Begins at %d: %v", i, got)
		}
		sameAsWords(t, s, i)
	}
	readsBoth(t, s, 1, comment("a"), 9)
	readsBoth(t, s, 9, comment("?<!b"), 15)
	readsBoth(t, s, 11, comment("b"), 15)
	readsBoth(t, s, 15, none, 18)
	readsBoth(t, s, 20, comment("1<!"), len(s))
	readsBoth(t, s, 23, comment(""), len(s))
	for _, i := range []int{-1, len(s), len(s) + 1, math.MaxInt, math.MaxInt - 1, math.MinInt, math.MaxInt32, math.MinInt32, 1<<32 + 1, 1 << 62} {
		for _, s := range []string{s, "", "<!---->"} {
			if note.Begins(s, i) {
				t.Errorf("Begins of %q at %d", s, i)
			}
			readsBoth(t, s, i, none, i)
		}
	}
}

func TestComments(t *testing.T) {
	for s, want := range map[string]string{
		"<!-->": "", "<!--->": "", "<!---->": "", "<!----->": "-", "<!------>": "--", "<!----!>": "", "<!-----!>": "-", "<!------!>": "--",
		"<!--a-->": "a", "<!--a--!>": "a", "<!--a--->": "a-", "<!--a---->": "a--", "<!--a---!>": "a-", "<!-- a -->": " a ", "<!--\n-->": "\n", "<!--\x00\xff-->": "\x00\xff", "<!--é-->": "é",
		"<!--a>-->": "a>", "<!--a->-->": "a->", "<!--a-!>-->": "a-!>", "<!--a!>-->": "a!>", "<!--a-- >-->": "a-- >", "<!--a-- -->": "a-- ", "<!--a--!-->": "a--!", "<!--a--!--!>": "a--!", "<!--a--!!>-->": "a--!!>", "<!--a--! >-->": "a--! >", "<!--a--!->-->": "a--!->", "<!--a--\n>-->": "a--\n>",
		"<!--!-->": "!", "<!--!>-->": "!>", "<!---!>-->": "-!>", "<!---a>-->": "-a>", "<!-- >-->": " >", "<!-- ->-->": " ->", "<!---a-->": "-a", "<!----a-->": "--a", "<!--!--!>": "!", "<!----!-->": "--!", "<!-----a->-->": "---a->",
		"<!--<!--a-->": "<!--a", "<!--<!-->": "<!", "<!--<!--->": "<!-", "<!--<b>&amp;</b>-->": "<b>&amp;</b>", "<!--a--&gt;-->": "a--&gt;", "<!--[if x]>y<![endif]-->": "[if x]>y<![endif]", "<!--doctype>-->": "doctype>", "<!--a-\x00->-->": "a-\x00->",
	} {
		readsBoth(t, s, 0, comment(want), len(s))
		for _, behind := range []string{"z", ">", "-", "->", "-->", "--!>", "!>", "<", "<!--", " ", "\n", "é", "\xff", "\x00"} {
			readsBoth(t, s+behind, 0, comment(want), len(s))
		}
		for _, ahead := range []string{"x", "<", "-", "<!", "<!-", "<!--", "é", "\xff"} {
			readsBoth(t, ahead+s, len(ahead), comment(want), len(ahead)+len(s))
		}
	}
}

// Nothing but the end of the text ends these.
func TestCommentsWithoutEnd(t *testing.T) {
	for in, want := range map[string]string{
		"": "", "-": "", "--": "", "---": "-", "----": "--", "--!": "", "---!": "-", "-!": "-!", "!": "!", "a": "a", "a-": "a", "a--": "a", "a---": "a-", "a--!": "a", "a---!": "a-", "a-!": "a-!", "a!": "a!", "a--!-": "a--!", "a--!--": "a--!", "a--!--!": "a--!", "a--!!": "a--!!", "a----!": "a--",
		"a-- ": "a-- ", "a--\n": "a--\n", "a--! ": "a--! ", "a- ": "a- ", "a->": "a->", "a>": "a>", " >": " >", " ->": " ->", "a-- >": "a-- >", "a-!>": "a-!>", "!>": "!>", "-!>": "-!>", "a--\x00": "a--\x00", "a--\xff": "a--\xff", "é-": "é", "<!--": "<!", "</a>": "</a>", "a--&gt;": "a--&gt;", "- -": "- ", "-a-": "-a",
	} {
		readsBoth(t, "<!--"+in, 0, comment(want), len(in)+4)
		readsBoth(t, "é<!--"+in, 2, comment(want), len(in)+6)
		if in != "" {
			readsBoth(t, "<!--x>"+in, 0, comment("x>"+want), len(in)+6)
		}
	}
}

// What begins like a comment, and is none: it goes up to the first `>`.
func TestPoorComments(t *testing.T) {
	for s, want := range map[string]string{
		"<!>": "", "<!->": "-", "<!- ->": "- -", "<!a>": "a", "<! >": " ", "<! -->": " --", "<!-a-->": "-a--", "<!!-->": "!--", "<!\n>": "\n", "<!\"a'>": "\"a'", "<!ELEMENT br EMPTY>": "ELEMENT br EMPTY", "<!&gt;>": "&gt;", "<!<!--a-->": "<!--a--", "<!é\x00\xff>": "é\x00\xff",
		"<?>": "?", "<??>": "??", "<?xml version='1'?>": "?xml version='1'?", "<? >": "? ", "<?--a-->": "?--a--", "<?doctype>": "?doctype", "<?!>": "?!", "<?/>": "?/", "<?[CDATA[>": "?[CDATA[", "<?&gt;>": "?&gt;", "<?\x00\xff>": "?\x00\xff", "<?A>": "?A",
		"</ >": " ", "</ a>": " a", "</1>": "1", "<//>": "/", "</!-->": "!--", "</?>": "?", "</</a>": "</a", "</\n>": "\n", "</&gt;>": "&gt;", "</é>": "é", "</\xff\x00>": "\xff\x00", "</-->": "--", "</_a b='c>": "_a b='c", "</\\a>": "\\a",
		"<!doctyp>": "doctyp", "<!doctyp e>": "doctyp e", "<! doctype>": " doctype", "<!\ndoctype>": "\ndoctype", "<!-doctype>": "-doctype", "<!d\u043ectype>": "d\u043ectype", "<!doc\x00type>": "doc\x00type", "</!doctype>": "!doctype", "<!do&#99;type>": "do&#99;type",
		"<![cdata[x]]>": "[cdata[x]]", "<![CDATa[x]]>": "[CDATa[x]]", "<![CDATA x]]>": "[CDATA x]]", "<! [CDATA[x]]>": " [CDATA[x]]", "<!CDATA[x]]>": "CDATA[x]]", "<![CDATA>": "[CDATA", "<![ CDATA[x]]>": "[ CDATA[x]]", "<![[CDATA[x]]>": "[[CDATA[x]]",
	} {
		readsBoth(t, s, 0, comment(want), len(s))
		for _, behind := range []string{"z", ">", "->", "-->", "]]>", "<", "é", "\xff"} {
			readsBoth(t, s+behind, 0, comment(want), len(s))
		}
		readsBoth(t, "<!"+s, 2, comment(want), len(s)+2)
		readsBoth(t, s[:len(s)-1], 0, comment(want), len(s)-1)
	}
}

func TestNoToken(t *testing.T) {
	for _, behind := range []string{"", ">", "a", "</>", "-->", " ", "\xff"} {
		readsBoth(t, "</>"+behind, 0, none, 3)
		readsBoth(t, "é</>"+behind, 2, none, 5)
	}
}

func TestDoctypes(t *testing.T) {
	for _, word := range []string{"doctype", "DOCTYPE", "DocType", "dOCTYPE", "DOCTYPe"} {
		for _, in := range []string{"", " ", " html", "html", " html PUBLIC \"-//W3C\" 'x'", "\n", "-", "--", " \"", "[<", "/", "!", "é", "\x00\xff", "&gt;", " html [<!--", "]]"} {
			s := "<!" + word + in
			readsBoth(t, s, 0, doctype, len(s))
			readsBoth(t, "<!"+s, 2, doctype, len(s)+2)
			for _, behind := range []string{"", "z", ">", "-->", "]]>", "\">", "]>"} {
				readsBoth(t, s+">"+behind, 0, doctype, len(s)+1)
			}
		}
	}
	readsBoth(t, "<!doctype \"a>b\">", 0, doctype, 13)
	readsBoth(t, "<!doctype--a-->", 0, doctype, 15)
}

// Each byte in place of each of the word's: a letter of the other size is the same, nothing else is.
func TestEachByteOfADoctype(t *testing.T) {
	const s = "<!doctype>"
	for at := 2; at < 9; at++ {
		for c := range 256 {
			in := s[:at] + one(c) + s[at+1:]
			want := comment(in[2:9])
			if byte(c) == s[at] || byte(c) == s[at]-0x20 {
				want = doctype
			} else if c == '>' {
				readsBoth(t, in, 0, comment(in[2:at]), at+1)
				continue
			}
			readsBoth(t, in, 0, want, len(in))
		}
	}
}

func TestCdata(t *testing.T) {
	for s, want := range map[string]string{
		"<![CDATA[]]>": "", "<![CDATA[x]]>": "x", "<![CDATA[]]]>": "]", "<![CDATA[]]]]>": "]]", "<![CDATA[]>]]>": "]>", "<![CDATA[>]]>": ">", "<![CDATA[] ]>]]>": "] ]>", "<![CDATA[]] >]]>": "]] >", "<![CDATA[a > b]]>": "a > b", "<![CDATA[<b>&lt;</b>]]>": "<b>&lt;</b>",
		"<![CDATA[<![CDATA[x]]>": "<![CDATA[x", "<![CDATA[<!--]]>": "<!--", "<![CDATA[-->]]>": "-->", "<![CDATA[\n]]>": "\n", "<![CDATA[\x00\xffé]]>": "\x00\xffé", "<![CDATA[]]\x00>]]>": "]]\x00>", "<![CDATA[]]&gt;]]>": "]]&gt;", "<![CDATA[--!>]]>": "--!>",
	} {
		reads(t, s, 0, true, text(want), len(s))
		for _, behind := range []string{"z", ">", "]]>", "]", "<", "é", "\xff"} {
			reads(t, s+behind, 0, true, text(want), len(s))
		}
		reads(t, "é<!"+s, 4, true, text(want), len(s)+4)
		to := strings.Index(s, ">")
		reads(t, s, 0, false, comment(s[2:to]), to+1)
		for n := 9; n < len(s); n++ {
			wanted, _, _ := strings.Cut(s[9:n], "]]>")
			reads(t, s[:n], 0, true, text(wanted), n)
		}
	}
	for n := 2; n < 9; n++ {
		s := "<![CDATA["[:n]
		readsBoth(t, s, 0, comment(s[2:]), n)
		readsBoth(t, s+">x]]>", 0, comment(s[2:]), n+1)
	}
}

func TestCutOffAtEachByte(t *testing.T) {
	for _, s := range []string{"<!--a--!-->b", "<!--a--!>b", "<!---->", "<!DocType html>b", "<![CDATA[a]]]>b", "<?a?>b", "</ a>b", "</>b", "<!->b", "<!--->b", "<!-->b"} {
		for n := range len(s) + 1 {
			for i := -1; i <= n+1; i++ {
				sameAsWords(t, s[:n], i)
			}
		}
	}
}

func TestEachByteAtEachPlace(t *testing.T) {
	for _, s := range []string{"<!--a-->b", "<!--a--!>b", "<!-->b", "<!--->b", "<!--a--!", "<!doctype a>b", "<![CDATA[a]]>b", "<?a>b", "</ a>b", "</>b", "<!a>b"} {
		for at := range len(s) + 1 {
			for c := range 256 {
				sameAsWords(t, s[:at]+one(c)+s[at:], 0)
				if at < len(s) {
					sameAsWords(t, s[:at]+one(c)+s[at+1:], 0)
				}
			}
			for _, c := range "<!?/->]aA \n" {
				for _, d := range "<!?/->]aA \n" {
					sameAsWords(t, s[:at]+string(c)+string(d)+s[at:], 0)
				}
			}
		}
	}
}

func TestAnyPieces(t *testing.T) {
	joined(strings.Split("<|!|?|/|-|--|>|a|Doctype|[CDATA[|]]| |é|\xff", "|"), 4, func(s string) {
		for i := -1; i <= len(s)+1; i++ {
			sameAsWords(t, s, i)
		}
	})
	joined(strings.Split("-|!|>|a|<", "|"), 7, func(s string) { sameAsWords(t, "<!--"+s, 0) })
	joined(strings.Split("]|>|a|<", "|"), 6, func(s string) { sameAsWords(t, "<![CDATA["+s, 0) })
	joined(strings.Split("a|>|-|!", "|"), 4, func(s string) {
		for _, ahead := range []string{"<!", "<?", "</", "<!doctype", "</!", "<!DOCTYPE"} {
			sameAsWords(t, ahead+s, 0)
		}
	})
}

func TestCommentsAsBrowsersReadThem(t *testing.T) {
	joined(strings.Split("-|!|>|a", "|"), 8, func(s string) {
		text, to := commentByBrowsers(s, 0)
		readsBoth(t, "<!--"+s, 0, comment(text), to+4)
	})
}

// Comments that are written well are read as they were, whatever stands behind them.
func TestThereAndBack(t *testing.T) {
	joined(strings.Split("-|!|>|a|<|<!--|--|&gt;|\n|é", "|"), 4, func(text string) {
		if strings.HasPrefix(text, ">") || strings.HasPrefix(text, "->") || strings.Contains(text, "-->") || strings.Contains(text, "--!>") {
			return // there is no way to write it
		}
		s := "<!--" + text + "-->"
		for _, behind := range []string{"", ">", "-->", text, s} {
			readsBoth(t, s+behind, 0, comment(text), len(s))
			readsBoth(t, behind+s, len(behind), comment(text), len(behind)+len(s))
		}
	})
}

// What was read ends behind where it began, and within the text: who reads on comes to an end.
func TestGoesOn(t *testing.T) {
	joined(strings.Split("<!|<?|</|--|>|a|[CDATA[|]]", "|"), 5, func(s string) {
		for i := range len(s) {
			for _, cdata := range []bool{false, true} {
				if got, to := note.Read(s, i, cdata); to > len(s) || note.Begins(s, i) && to < i+2 || !note.Begins(s, i) && (to != i || got.Kind != 0) {
					t.Errorf("Read of %q at %d, %v: %+v, %d", s, i, cdata, got, to)
				}
			}
		}
	})
}

// outside says whether a string has no byte of a text's memory.
func outside(part, text string) bool {
	if part == "" || text == "" {
		return true
	}
	from, first := uintptr(unsafe.Pointer(unsafe.StringData(part))), uintptr(unsafe.Pointer(unsafe.StringData(text)))
	return from+uintptr(len(part)) <= first || first+uintptr(len(text)) <= from
}

func TestAnswersAreNew(t *testing.T) {
	for _, in := range []string{"<!--what stands there-->", "<!--what stands there", "<!--what stands there--!", "<!what stands there>", "<?what stands there", "</ what stands there>", "<![CDATA[what stands there]]>"} {
		s := strings.Clone(in)
		one, _ := note.Read(s, 0, true)
		two, _ := note.Read(s, 0, true)
		if !strings.Contains(one.Text, "what stands there") || !same(one, two) {
			t.Fatalf("%+v, then %+v", one, two)
		}
		if s != in || !outside(one.Text, s) || !outside(two.Text, s) {
			t.Errorf("the text of %q is in the memory of what was handed in", s)
		}
		if !outside(one.Text, two.Text) {
			t.Errorf("the text of %q is in the memory that was told before", s)
		}
	}
}

// No call may take long where all is as bad as it can be.
func TestLongInputs(t *testing.T) {
	const many = 1 << 20
	for _, piece := range []string{"-", "!", ">", "->", "--", "--!", "-!>", "- ->", "--! >", "a", "<!-", "]", "]>", "] ]>", "é"} {
		in := "x" + strings.Repeat(piece, many) + "x"
		readsBoth(t, "<!--"+in, 0, comment(in), len(in)+4)
		readsBoth(t, "<!--"+in+"--!>"+in, 0, comment(in), len(in)+8)
		reads(t, "<![CDATA["+in, 0, true, text(in), len(in)+9)
		upto, _, _ := strings.Cut(in+">", ">")
		readsBoth(t, "<!"+in, 0, comment(upto), min(len(upto)+3, len(in)+2))
		readsBoth(t, "<!doctype"+in, 0, doctype, min(len(upto)+10, len(in)+9))
	}
}

// Of a text with very many of them, each is read without a look at all that follows.
func TestManyInALongText(t *testing.T) {
	const many = 1 << 17
	for _, piece := range []string{"<!--a-->", "<!--a--!>", "<!-->", "<!doctype>", "<![CDATA[]]>", "<?>", "</ >", "</>"} {
		s := strings.Repeat(piece, many)
		n := 0
		for i := 0; i < len(s) && n <= many; n++ {
			_, i = note.Read(s, i, true)
		}
		if n != many {
			t.Errorf("of many %q %d are read", piece, n)
		}
	}
}
