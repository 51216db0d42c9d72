package ent_test

import (
	"html"
	"math"
	"math/big"
	"regexp"
	"strconv"
	"strings"
	"testing"
	"unicode/utf8"
	"unsafe"

	"tympan/ent"
)

// The chapter's own rows.
const names = `| amp + | 26 | AMP + | 26 | lt + | 3c | LT + | 3c |
| gt + | 3e | GT + | 3e | quot + | 22 | QUOT + | 22 |
| nbsp + | a0 | copy + | a9 | COPY + | a9 | reg + | ae |
| not + | ac | para + | b6 | sect + | a7 | cent + | a2 |
| pound + | a3 | yen + | a5 | deg + | b0 | micro + | b5 |
| times + | d7 | divide + | f7 | frac12 + | bd | laquo + | ab |
| raquo + | bb | iexcl + | a1 | iquest + | bf | middot + | b7 |
| plusmn + | b1 | eacute + | e9 | Eacute + | c9 | agrave + | e0 |
| ccedil + | e7 | ouml + | f6 | Ouml + | d6 | auml + | e4 |
| Auml + | c4 | uuml + | fc | Uuml + | dc | szlig + | df |
| ntilde + | f1 | shy + | ad | apos | 27 | hellip | 2026 |
| mdash | 2014 | ndash | 2013 | lsquo | 2018 | rsquo | 2019 |
| ldquo | 201c | rdquo | 201d | bull | 2022 | euro | 20ac |
| trade | 2122 | larr | 2190 | rarr | 2192 | harr | 2194 |
| infin | 221e | ne | 2260 | le | 2264 | ge | 2265 |
| sum | 2211 | prod | 220f | radic | 221a | notin | 2209 |
| alpha | 3b1 | beta | 3b2 | gamma | 3b3 | delta | 3b4 |
| epsilon | 3b5 | lambda | 3bb | mu | 3bc | pi | 3c0 |
| sigma | 3c3 | omega | 3c9 | Omega | 3a9 | Sigma | 3a3 |
| lbrace | 7b | rbrace | 7d | lbrack | 5b | rbrack | 5d |
| lpar | 28 | rpar | 29 | ast | 2a | num | 23 |
| sol | 2f | bsol | 5c | colon | 3a | semi | 3b |
| excl | 21 | equals | 3d | grave | 60 | lowbar | 5f |
| vert | 7c | Tab | 9 | NewLine | a | ngE | 2267 338 |
| nvlt | 3c 20d2 | acE | 223e 333 | | | | |`

// controls says what 80 to 9f stand for, where it isn't themselves.
var controls = map[int]rune{
	0x80: 0x20ac, 0x82: 0x201a, 0x83: 0x192, 0x84: 0x201e, 0x85: 0x2026, 0x86: 0x2020, 0x87: 0x2021, 0x88: 0x2c6, 0x89: 0x2030, 0x8a: 0x160, 0x8b: 0x2039, 0x8c: 0x152,
	0x8e: 0x17d, 0x91: 0x2018, 0x92: 0x2019, 0x93: 0x201c, 0x94: 0x201d, 0x95: 0x2022, 0x96: 0x2013, 0x97: 0x2014, 0x98: 0x2dc, 0x99: 0x2122, 0x9a: 0x161, 0x9b: 0x203a, 0x9c: 0x153,
	0x9e: 0x17e, 0x9f: 0x178,
}

// name is a name of the chapter's, and what it stands for; bare: it has a +.
type name struct {
	name, is string
	bare     bool
}

// known are the chapter's names.
var known = readNames()

func readNames() []name {
	var out []name
	for line := range strings.SplitSeq(names, "\n") {
		cells := strings.Split(strings.Trim(line, "|"), "|")
		for i := 0; i+1 < len(cells); i += 2 {
			words := strings.Fields(cells[i])
			if len(words) == 0 {
				continue
			}
			is := ""
			for number := range strings.FieldsSeq(cells[i+1]) {
				r, err := strconv.ParseUint(number, 16, 32)
				if err != nil {
					panic(err)
				}
				is += string(rune(r))
			}
			out = append(out, name{words[0], is, len(words) == 2})
		}
	}
	return out
}

// namedByRows is Named, by the chapter's rows.
func namedByRows(s string) (string, int) {
	is, many := "", 0
	for _, n := range known {
		if strings.HasPrefix(s, n.name+";") && len(n.name)+1 > many {
			is, many = n.is, len(n.name)+1
		}
		if n.bare && strings.HasPrefix(s, n.name) && len(n.name) > many {
			is, many = n.is, len(n.name)
		}
	}
	return is, many
}

// valid says whether a text may have the character of n.
func valid(n int) bool { return n > 0 && n <= 0x10ffff && !(0xd800 <= n && n <= 0xdfff) }

// numberByRow is Number, by the chapter's row.
func numberByRow(n int) rune {
	if r, ok := controls[n]; ok {
		return r
	}
	if !valid(n) {
		return 0xfffd
	}
	return rune(n)
}

var (
	decimal = regexp.MustCompile(`^&#([0-9]+);?`)
	hex     = regexp.MustCompile(`^&#[xX]([0-9a-fA-F]+);?`)
	inUse   = regexp.MustCompile(`^[=a-zA-Z0-9]`) // what keeps a name without a semicolon from being one in an attribute
)

// valueOf is the number that digits tell; one above all characters, if it is greater.
func valueOf(digits string, base int) int {
	n, ok := new(big.Int).SetString(digits, base)
	if !ok {
		panic("no number: " + digits)
	}
	if n.Cmp(big.NewInt(0x110000)) > 0 {
		return 0x110000
	}
	return int(n.Int64())
}

// decodeByRules is Decode, by the chapter's three rules, byte by byte.
func decodeByRules(s string, attr bool) string {
	out := ""
	for s != "" {
		is, many := s[:1], 1
		if m := decimal.FindStringSubmatch(s); m != nil {
			is, many = string(numberByRow(valueOf(m[1], 10))), len(m[0])
		} else if m := hex.FindStringSubmatch(s); m != nil {
			is, many = string(numberByRow(valueOf(m[1], 16))), len(m[0])
		} else if s[0] == '&' {
			is1, many1 := namedByRows(s[1:])
			if many1 > 0 && !(attr && s[many1] != ';' && inUse.MatchString(s[1+many1:])) {
				is, many = is1, 1+many1
			}
		}
		out, s = out+is, s[many:]
	}
	return out
}

var (
	shortDecimal = regexp.MustCompile(`^&#([0-9]{1,7});`)
	shortHex     = regexp.MustCompile(`^&#[xX]([0-9a-fA-F]{1,6});`)
)

// markByRules is Mark, by the chapter's words.
func markByRules(s string) (string, int) {
	for _, n := range known {
		if strings.HasPrefix(s, "&"+n.name+";") {
			return n.is, len(n.name) + 2
		}
	}
	m, base := shortDecimal.FindStringSubmatch(s), 10
	if m == nil {
		m, base = shortHex.FindStringSubmatch(s), 16
	}
	if m == nil {
		return "", 0
	}
	if n := valueOf(m[1], base); valid(n) {
		return string(rune(n)), len(m[0])
	}
	return "\ufffd", len(m[0])
}

// joined calls do with all that at most so many pieces come to, one behind the other.
func joined(pieces []string, most int, do func(s string)) {
	do("")
	if most == 0 {
		return
	}
	for _, p := range pieces {
		joined(pieces, most-1, func(s string) { do(p + s) })
	}
}

// sameAsRules holds all calls that take a text against what the chapter says of it.
func sameAsRules(t *testing.T, s string) {
	t.Helper()
	for _, attr := range []bool{false, true} {
		if got, want := ent.Decode(s, attr), decodeByRules(s, attr); got != want {
			t.Errorf("Decode of %q, %v: %q, not %q", s, attr, got, want)
		}
	}
	got, many := ent.Mark(s)
	if is, want := markByRules(s); got != is || many != want {
		t.Errorf("Mark of %q: %q, %d, not %q, %d", s, got, many, is, want)
	}
	got, many = ent.Named(s)
	if is, want := namedByRows(s); got != is || many != want {
		t.Errorf("Named of %q: %q, %d, not %q, %d", s, got, many, is, want)
	}
}

func TestRows(t *testing.T) {
	bare := 0
	for _, n := range known {
		if n.bare {
			bare++
		}
		if got := html.UnescapeString("&" + n.name + ";"); got != n.is {
			t.Errorf("%s stands for %q here, for %q in HTML", n.name, n.is, got)
		}
		if got := html.UnescapeString("&" + n.name); (got == n.is) != n.bare {
			t.Errorf("%s without a semicolon stands for %q in HTML", n.name, got)
		}
	}
	if len(known) != 98 || bare != 42 {
		t.Errorf("%d names, %d of them with a +", len(known), bare)
	}
}

func TestNamed(t *testing.T) {
	for _, x := range []struct {
		in, is string
		many   int
	}{
		{"", "", 0}, {"ampx", "&", 3}, {"amp", "&", 3}, {"amp;", "&", 4}, {"amp;;", "&", 4}, {"amp;x", "&", 4}, {"am", "", 0}, {"am;p", "", 0},
		{"not", "¬", 3}, {"not;", "¬", 4}, {"noti", "¬", 3}, {"notin", "¬", 3}, {"notin;", "∉", 6}, {"notinx", "¬", 3}, {"notit;", "¬", 3}, {"notin ;", "¬", 3},
		{"apos", "", 0}, {"apos;", "'", 5}, {"aposs;", "", 0}, {"hellip", "", 0}, {"hellip;", "…", 7},
		{"gt", ">", 2}, {"gtt", ">", 2}, {"ge", "", 0}, {"ge;", "≥", 3}, {"gE;", "", 0}, {"lt;", "<", 3}, {"le;", "≤", 3}, {"l;", "", 0},
		{"ngE;", "\u2267\u0338", 4}, {"ngE", "", 0}, {"nge;", "", 0}, {"nvlt;", "<\u20d2", 5}, {"nvlt", "", 0}, {"acE;", "\u223e\u0333", 4}, {"acE", "", 0},
		{"Tab;", "\t", 4}, {"tab;", "", 0}, {"NewLine;", "\n", 8}, {"NewLine", "", 0}, {"NewLines;", "", 0}, {"newline;", "", 0},
		{"AMP", "&", 3}, {"Amp", "", 0}, {"aMP;", "", 0}, {"Lt;", "", 0}, {"Quot", "", 0}, {"Copy;", "", 0}, {"REG;", "", 0}, {"NOT", "", 0},
		{"Omega;", "Ω", 6}, {"omega;", "ω", 6}, {"OMEGA;", "", 0}, {"Eacute", "É", 6}, {"eacute", "é", 6}, {"frac12", "½", 6}, {"frac1", "", 0}, {"frac123", "½", 6},
		{"epsilon;", "ε", 8}, {"epsilon", "", 0}, {"euml;", "", 0}, {"hearts;", "", 0}, {"zwj;", "", 0}, {"Aacute;", "", 0},
		{" amp;", "", 0}, {"&amp;", "", 0}, {"#38;", "", 0}, {";", "", 0}, {"\x00", "", 0}, {"\xff", "", 0}, {"amp\xff", "&", 3}, {"amp\x00;", "&", 3}, {"äuml;", "", 0},
	} {
		if is, many := ent.Named(x.in); is != x.is || many != x.many {
			t.Errorf("Named of %q: %q, %d, not %q, %d", x.in, is, many, x.is, x.many)
		}
	}
}

// Each name, with what may stand behind it or be wrong of it.
func TestEachName(t *testing.T) {
	for _, n := range known {
		if is, many := ent.Named(n.name + ";"); is != n.is || many != len(n.name)+1 {
			t.Errorf("Named of %s and a semicolon: %q, %d", n.name, is, many)
		}
		is, many := ent.Named(n.name)
		if n.bare && (is != n.is || many != len(n.name)) || !n.bare && is == n.is {
			t.Errorf("Named of %s: %q, %d", n.name, is, many)
		}
		for i := range len(n.name) + 1 {
			sameAsRules(t, n.name[:i])
			sameAsRules(t, "&"+n.name[:i])
			sameAsRules(t, "&"+n.name[:i]+";")
			if i < len(n.name) {
				other := n.name[:i] + string(n.name[i]^0x20) + n.name[i+1:] // in the other size
				sameAsRules(t, "&"+other+";")
				sameAsRules(t, other)
			}
		}
		for c := range 256 {
			behind := string([]byte{byte(c)})
			sameAsRules(t, n.name+behind)
			sameAsRules(t, "&"+n.name+behind)
			sameAsRules(t, "&"+n.name+";"+behind)
			sameAsRules(t, "&"+behind+n.name+";")
			sameAsRules(t, "&"+n.name+behind+";")
		}
		for _, m := range known {
			sameAsRules(t, "&"+n.name+m.name+";")
			sameAsRules(t, "&"+n.name+"&"+m.name+";")
			sameAsRules(t, n.name+m.name)
		}
	}
}

func TestNamesOfFewLetters(t *testing.T) {
	letters := strings.Split("abcdefghijklmnopqrstuvwxyzABCDEFGHIJKLMNOPQRSTUVWXYZ0129;", "")
	joined(letters, 2, func(s string) { sameAsRules(t, "&"+s); sameAsRules(t, s) })
	joined(letters, 3, func(s string) {
		if is, many := ent.Named(s + ";"); many != 0 {
			if want, long := namedByRows(s + ";"); is != want || many != long {
				t.Errorf("Named of %q: %q, %d, not %q, %d", s+";", is, many, want, long)
			}
		}
	})
}

func TestNumber(t *testing.T) {
	for n := -0x300; n <= 0x120000; n++ {
		if got, want := ent.Number(n), numberByRow(n); got != want {
			t.Errorf("Number of %x: %x, not %x", n, got, want)
		}
	}
	for n, want := range map[int]rune{
		0: 0xfffd, -1: 0xfffd, 1: 1, 9: 9, 0x41: 'A', 0x7f: 0x7f, 0x80: '€', 0x81: 0x81, 0x8d: 0x8d, 0x8f: 0x8f, 0x90: 0x90, 0x9d: 0x9d, 0x9f: 'Ÿ', 0xa0: 0xa0,
		0xd7ff: 0xd7ff, 0xd800: 0xfffd, 0xdfff: 0xfffd, 0xe000: 0xe000, 0xfffe: 0xfffe, 0xffff: 0xffff, 0x10ffff: 0x10ffff, 0x110000: 0xfffd,
		math.MaxInt32: 0xfffd, math.MinInt32: 0xfffd, math.MaxInt: 0xfffd, math.MinInt: 0xfffd, math.MinInt + 0x80: 0xfffd, math.MinInt + 'A': 0xfffd,
		1<<32 + 'A': 0xfffd, 1<<32 + 0x80: 0xfffd, 1 << 32: 0xfffd, -'A': 0xfffd, -0x80: 0xfffd,
	} {
		if got := ent.Number(n); got != want {
			t.Errorf("Number of %x: %x, not %x", n, got, want)
		}
	}
}

func TestDecode(t *testing.T) {
	long := strings.Repeat("0", 400)
	for _, x := range []struct{ in, out, attr string }{
		{"", "", ""}, {"a", "a", "a"}, {"&", "&", "&"}, {"&&", "&&", "&&"}, {"&;", "&;", "&;"}, {"& amp;", "& amp;", "& amp;"},
		{"&notit; &notin; &#x41 &#65;&amp", "¬it; ∉ A A&", "&notit; ∉ A A&"}, {"a&copy=1&copy;&lt", "a©=1©<", "a&copy=1©<"},
		{"&amp;amp;", "&amp;", "&amp;"}, {"&amp;#65;", "&#65;", "&#65;"}, {"&ampamp;", "&amp;", "&ampamp;"}, {"&&amp;", "&&", "&&"}, {"&amp&amp", "&&", "&&"}, {"&am&amp;p;", "&am&p;", "&am&p;"},
		{"&#65", "A", "A"}, {"&#65;", "A", "A"}, {"&#65;;", "A;", "A;"}, {"&#65a", "Aa", "Aa"}, {"&#65=", "A=", "A="}, {"&#x41g", "Ag", "Ag"}, {"&#X41;", "A", "A"}, {"&#x4A&#X4a", "JJ", "JJ"},
		{"&#", "&#", "&#"}, {"&#;", "&#;", "&#;"}, {"&#a", "&#a", "&#a"}, {"&#x", "&#x", "&#x"}, {"&#x;", "&#x;", "&#x;"}, {"&#xg;", "&#xg;", "&#xg;"}, {"&#X", "&#X", "&#X"}, {"&#xx41;", "&#xx41;", "&#xx41;"},
		{"&#-1;", "&#-1;", "&#-1;"}, {"&#+1;", "&#+1;", "&#+1;"}, {"&# 65;", "&# 65;", "&# 65;"}, {"&##65;", "&##65;", "&##65;"}, {"&#&#65;", "&#A", "&#A"}, {"& #65;", "& #65;", "& #65;"},
		{"&#0;", "\ufffd", "\ufffd"}, {"&#x0", "\ufffd", "\ufffd"}, {"&#00;", "\ufffd", "\ufffd"}, {"&#xd800;&#xdfff;&#xD7FF;&#xe000;", "\ufffd\ufffd\ud7ff\ue000", "\ufffd\ufffd\ud7ff\ue000"},
		{"&#x10ffff;&#x110000;", "\U0010ffff\ufffd", "\U0010ffff\ufffd"}, {"&#1114111;&#1114112;", "\U0010ffff\ufffd", "\U0010ffff\ufffd"},
		{"&#128;&#x9f;&#x81;&#150;", "€Ÿ\u0081–", "€Ÿ\u0081–"}, {"&#13;&#1;&#x7f;", "\r\x01\x7f", "\r\x01\x7f"}, {"&#٣;", "&#٣;", "&#٣;"},
		{"&#4294967361;&#18446744073709551681;&#x100000041;&#x10000000000000041;", "\ufffd\ufffd\ufffd\ufffd", "\ufffd\ufffd\ufffd\ufffd"},
		{"&#" + long + "65;", "A", "A"}, {"&#x" + long + "41x", "Ax", "Ax"}, {"&#1" + long + ";", "\ufffd", "\ufffd"}, {"&#xf" + long, "\ufffd", "\ufffd"},
		{"&lt", "<", "<"}, {"&lt;", "<", "<"}, {"&lt;=", "<=", "<="}, {"&lt;a", "<a", "<a"}, {"&lt=", "<=", "&lt="}, {"&lta", "<a", "&lta"}, {"&ltZ", "<Z", "&ltZ"}, {"&lt0", "<0", "&lt0"}, {"&lt9", "<9", "&lt9"},
		{"&lt<", "<<", "<<"}, {"&lt-", "<-", "<-"}, {"&lt_", "<_", "<_"}, {"&lt é", "< é", "< é"}, {"&lté", "<é", "<é"}, {"&lt\x00", "<\x00", "<\x00"}, {"&lt&", "<&", "<&"}, {"&lt\"", "<\"", "<\""}, {"&lt==", "<==", "&lt=="},
		{"&notin", "¬in", "&notin"}, {"&notin=", "¬in=", "&notin="}, {"&not;in", "¬in", "¬in"}, {"&notin;=", "∉=", "∉="}, {"&lt=&lt;&lta&lt", "<=<<a<", "&lt=<&lta<"},
		{"&apos", "&apos", "&apos"}, {"&apos;", "'", "'"}, {"&hellip &hellip;", "&hellip …", "&hellip …"}, {"&AMP;&Amp;&QUOT", "&&Amp;\"", "&&Amp;\""}, {"&nosuch;", "&nosuch;", "&nosuch;"},
		{"&ngE;&nvlt;&acE;", "\u2267\u0338<\u20d2\u223e\u0333", "\u2267\u0338<\u20d2\u223e\u0333"}, {"&Tab;&NewLine;", "\t\n", "\t\n"},
		{"\xff&lt;\x00&\xc3", "\xff<\x00&\xc3", "\xff<\x00&\xc3"}, {"é&eacute;€", "éé€", "éé€"}, {"a\r\n&lt;\r", "a\r\n<\r", "a\r\n<\r"},
	} {
		if got := ent.Decode(x.in, false); got != x.out {
			t.Errorf("Decode of %q: %q, not %q", x.in, got, x.out)
		}
		if got := ent.Decode(x.in, true); got != x.attr {
			t.Errorf("Decode of %q in an attribute: %q, not %q", x.in, got, x.attr)
		}
	}
}

func TestMark(t *testing.T) {
	for _, x := range []struct {
		in, is string
		many   int
	}{
		{"", "", 0}, {"&", "", 0}, {"a", "", 0}, {"&;", "", 0}, {"a&lt;", "", 0}, {" &lt;", "", 0}, {"lt;", "", 0},
		{"&copy", "", 0}, {"&copy;x", "©", 6}, {"&copy;", "©", 6}, {"&copy ;", "", 0}, {"&copyx;", "", 0}, {"&copy;;", "©", 6}, {"&Copy;", "", 0}, {"&COPY;", "©", 6},
		{"&notin;", "∉", 7}, {"&not;in;", "¬", 5}, {"&notit;", "", 0}, {"&notin", "", 0}, {"&apos;", "'", 6}, {"&ngE;", "\u2267\u0338", 5}, {"&NewLine;", "\n", 9}, {"&epsilon;", "ε", 9},
		{"&amp;amp;", "&", 5}, {"&&amp;", "", 0}, {"&nosuch;", "", 0}, {"& lt;", "", 0}, {"&lt\x00;", "", 0}, {"&\xff;", "", 0}, {"&lt;\xff", "<", 4},
		{"&#0;", "\ufffd", 4}, {"&#65;", "A", 5}, {"&#65", "", 0}, {"&#65 ;", "", 0}, {"&#65a;", "", 0}, {"&#;", "", 0}, {"&#", "", 0}, {"&#a;", "", 0}, {"&#-1;", "", 0}, {"&#65;;", "A", 5},
		{"&#0000065;", "A", 10}, {"&#00000065;", "", 0}, {"&#9999999;", "\ufffd", 10}, {"&#10000000;", "", 0}, {"&#00000000;", "", 0}, {"&#0000000;", "\ufffd", 10}, {"&#1114111;", "\U0010ffff", 10}, {"&#1114112;", "\ufffd", 10},
		{"&#x41;", "A", 6}, {"&#X41;", "A", 6}, {"&#x4a;&#x4A;", "J", 6}, {"&#x4A;", "J", 6}, {"&#x41", "", 0}, {"&#x;", "", 0}, {"&#x", "", 0}, {"&#xg;", "", 0}, {"&#x4g;", "", 0}, {"&x41;", "", 0},
		{"&#x000041;", "A", 10}, {"&#x0000041;", "", 0}, {"&#xffffff;", "\ufffd", 10}, {"&#x1000000;", "", 0}, {"&#x0;", "\ufffd", 5}, {"&#x10ffff;", "\U0010ffff", 10}, {"&#x110000;", "\ufffd", 10},
		{"&#xd7ff;", "\ud7ff", 8}, {"&#xd800;", "\ufffd", 8}, {"&#xDFFF;", "\ufffd", 8}, {"&#xe000;", "\ue000", 8}, {"&#55296;", "\ufffd", 8}, {"&#57344;", "\ue000", 8},
		{"&#128;", "\u0080", 6}, {"&#x80;", "\u0080", 6}, {"&#x9f;", "\u009f", 6}, {"&#x8d;", "\u008d", 6}, {"&#1;", "\x01", 4}, {"&#4294967361;", "", 0}, {"&#x100000041;", "", 0},
	} {
		if is, many := ent.Mark(x.in); is != x.is || many != x.many {
			t.Errorf("Mark of %q: %q, %d, not %q, %d", x.in, is, many, x.is, x.many)
		}
	}
}

// Each number, as it may be written: HTML and Markdown take it alike but for 80 to 9f.
func TestNumbersWritten(t *testing.T) {
	for n := 0; n <= 0x112000; n++ {
		want, plain := string(numberByRow(n)), "\ufffd"
		if valid(n) {
			plain = string(rune(n))
		}
		for _, s := range []string{"&#" + strconv.Itoa(n), "&#x" + strconv.FormatInt(int64(n), 16)} {
			if ent.Decode(s, false) != want || ent.Decode(s+";", true) != want || ent.Decode(s+"z", true) != want+"z" {
				t.Errorf("Decode of %q: %q, %q, %q", s, ent.Decode(s, false), ent.Decode(s+";", true), ent.Decode(s+"z", true))
			}
			if is, many := ent.Mark(s + ";"); is != plain || many != len(s)+1 {
				t.Errorf("Mark of %q: %q, %d", s+";", is, many)
			}
		}
	}
}

func TestAnyPieces(t *testing.T) {
	joined(strings.Split("&|#|x|X|0|6|f|g|;|=|lt|amp|not|in|notin|apos|Tab|ngE| |é|\xff", "|"), 4, func(s string) { sameAsRules(t, s) })
	joined(strings.Split("#|x|X|0|41|110000|d8|;|a", "|"), 5, func(s string) { sameAsRules(t, "&"+s) })
}

func TestTextWithoutAmpersand(t *testing.T) {
	joined(strings.Split("amp;|#65;|lt|<|=|\"|é|\xff|\x00|\r\n|😀| ", "|"), 3, func(s string) {
		if ent.Decode(s, false) != s || ent.Decode(s, true) != s {
			t.Errorf("Decode of %q: %q, %q", s, ent.Decode(s, false), ent.Decode(s, true))
		}
	})
}

func TestThereAndBack(t *testing.T) {
	joined(strings.Split("&|amp|amp;|#65;|#x41|lt|;|=|é|\xff|<|\x00", "|"), 4, func(s string) {
		written := strings.ReplaceAll(s, "&", "&amp;")
		if ent.Decode(written, false) != s || ent.Decode(written, true) != s {
			t.Errorf("Decode of %q: %q, %q", written, ent.Decode(written, false), ent.Decode(written, true))
		}
	})
}

func TestAnswersAreNew(t *testing.T) {
	const amp = "amp;"
	for what, call := range map[string]func() string{
		"Decode of a text without references": func() string { return ent.Decode("nothing here changes", false) },
		"Decode of a reference":               func() string { return ent.Decode("&amp;", false) },
		"Decode of an &":                      func() string { return ent.Decode("&", true) },
		"Named":                               func() string { is, _ := ent.Named("amp"); return is },
		"Named, of two characters":            func() string { is, _ := ent.Named("ngE;"); return is },
		"Mark of a name":                      func() string { is, _ := ent.Mark("&lt;"); return is },
		"Mark of a number":                    func() string { is, _ := ent.Mark("&#65;"); return is },
		"Mark of no number":                   func() string { is, _ := ent.Mark("&#0;"); return is },
	} {
		one, two := call(), call()
		if one == "" || one != two {
			t.Errorf("%s: %q, then %q", what, one, two)
		}
		if unsafe.StringData(one) == unsafe.StringData(two) {
			t.Errorf("%s tells the memory that it told before", what)
		}
	}
	if got := ent.Decode(amp, false); unsafe.StringData(got) == unsafe.StringData(amp) {
		t.Error("Decode tells the memory that it was given")
	}
}

// No call may take long where all is as bad as it can be.
func TestLongInputs(t *testing.T) {
	const many = 1 << 18
	for piece, want := range map[string]string{
		"&": "&", "&a": "&a", "&#": "&#", "&#x": "&#x", "&lt": "<", "&ngE;": "\u2267\u0338", "&notit;": "¬it;", "&#1;": "\x01", "\xff": "\xff", "&epsilo": "&epsilo", "&#0": "\ufffd",
	} {
		if got := ent.Decode(strings.Repeat(piece, many), false); got != strings.Repeat(want, many) {
			t.Errorf("Decode of many %q", piece)
		}
	}
	digits := strings.Repeat("9", many)
	for _, s := range []string{"&#" + digits, "&#x" + digits + ";"} {
		if got := ent.Decode(s, true); got != "\ufffd" {
			t.Errorf("Decode of a long number: %d bytes", len(got))
		}
		if is, n := ent.Mark(s); is != "" || n != 0 {
			t.Errorf("Mark of a long number: %q, %d", is, n)
		}
	}
	if got := ent.Decode("&#"+strings.Repeat("0", many)+"65", false); got != "A" {
		t.Errorf("Decode of a long 65: %d bytes", len(got))
	}
	if is, n := ent.Named(strings.Repeat("amp", many)); is != "&" || n != 3 {
		t.Errorf("Named of many names: %q, %d", is, n)
	}
}

// What is told of a text is a text.
func TestTextsStayTexts(t *testing.T) {
	joined(strings.Split("&|#|x|d800|0|110000|;|lt|ngE|é|😀", "|"), 4, func(s string) {
		named, _ := ent.Named(s)
		mark, _ := ent.Mark(s)
		for _, got := range []string{ent.Decode(s, false), ent.Decode(s, true), named, mark} {
			if !utf8.ValidString(got) || strings.Contains(got, "\x00") {
				t.Errorf("of %q: %q", s, got)
			}
		}
	})
}
