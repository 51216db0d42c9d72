package rule_test

import (
	"regexp"
	"slices"
	"strconv"
	"strings"
	"testing"

	"tympan/api"
	"tympan/rule"
)

// The chapter's own rows.
const (
	elementRow = "a abbr b blockquote br cite code dd del div dl dt em h1 h2 h3 h4 h5 h6 hr i img ins kbd li ol p pre q s samp small span strong sub sup table tbody td tfoot th thead tr u ul var"
	attrRow    = "align alt cite class colspan dir height href lang rowspan src start title width"
	citingRow  = "blockquote del ins q"
	tableRow   = "table tbody td tfoot th thead tr"
	baseRow    = "a blockquote br code em h1 h2 h3 h4 h5 h6 hr img li ol p pre strong table tbody td tfoot th thead tr ul"
)

var (
	elements = strings.Fields(elementRow)
	attrs    = strings.Fields(attrRow)
	parts    = strings.Fields(tableRow)
)

// strangers are none of the known elements, or attributes; most are of HTML, or nearly known.
var strangers = strings.Split("|script|style|svg|math|iframe|frame|object|embed|base|link|meta|form|input|button|textarea|select|option|template|title|xmp|noscript|plaintext|"+
	"html|head|body|caption|col|colgroup|section|article|nav|main|font|center|tt|big|strike|nobr|ruby|video|audio|source|track|picture|canvas|details|summary|mark|time|wbr|"+
	"h|h0|h7|h10|image|blockquotes|blockquot|A|Table|TD|a |a\x00| a|p/|td.|é|\xff|*|onclick|onerror|style|id|name|srcset|srcdoc|action|formaction|xlink:href|data|HREF|hre|hrefs|href ", "|")

// allPairs are all known attributes of all known elements.
func allPairs() []api.Allowed {
	var out []api.Allowed
	for _, e := range elements {
		for _, a := range attrs {
			out = append(out, api.Allowed{Element: e, Name: a})
		}
	}
	return out
}

// one is a string of one byte.
func one(c int) string { return string([]byte{byte(c)}) }

// count is how often x stands in list.
func count[T comparable](list []T, x T) int {
	n := 0
	for _, y := range list {
		if x == y {
			n++
		}
	}
	return n
}

var schemeForm = regexp.MustCompile(`\A[a-z][a-z0-9+.-]*\z`)

// faults are why p may not be, by the chapter's words.
func faults(p api.Policy) []string {
	var out []string
	some := 0
	for _, e := range p.Elements {
		if !slices.Contains(elements, e) || count(p.Elements, e) > 1 {
			out = append(out, "element "+e)
		}
	}
	for _, e := range parts {
		some += min(1, count(p.Elements, e))
	}
	if some > 0 && some < len(parts) {
		out = append(out, "table")
	}
	for _, a := range p.Attrs {
		if !slices.Contains(p.Elements, a.Element) || !slices.Contains(attrs, a.Name) || count(p.Attrs, a) > 1 {
			out = append(out, "attribute "+a.Element+" "+a.Name)
		}
	}
	for _, s := range p.Schemes {
		if count(p.Schemes, s) > 1 || !schemeForm.MatchString(s) || len(s) > 64 || slices.Contains(strings.Fields("javascript vbscript data"), s) {
			out = append(out, "scheme "+s)
		}
	}
	if max(len(p.Elements), len(p.Attrs), len(p.Schemes)) > 400 {
		out = append(out, "long")
	}
	return out
}

// checked holds Check against the chapter's words, and says whether p may be.
func checked(t *testing.T, p api.Policy) bool {
	t.Helper()
	why, want := faults(p), api.OK
	if len(why) > 0 {
		want = api.ErrRuleForm
	}
	if got := rule.Check(p); got != want {
		t.Errorf("Check of %.300q: %d, but its faults are %.300q", p, got, why)
	}
	return want == api.OK
}

// mayBe says that Check must tell OK, and refused that it must not.
func mayBe(t *testing.T, what string, p api.Policy) {
	t.Helper()
	if got := rule.Check(p); !checked(t, p) || got != api.OK {
		t.Errorf("%s: Check tells %d", what, got)
	}
}

func refused(t *testing.T, what string, p api.Policy) {
	t.Helper()
	if got := rule.Check(p); checked(t, p) || got != 50 {
		t.Errorf("%s: Check tells %d", what, got)
	}
}

var withScheme = regexp.MustCompile(`\A([A-Za-z][A-Za-z0-9+.-]*):`)

// keepsByWords is Keeps, by the chapter's words (and those of chapter 4).
func keepsByWords(p api.Policy, element string, a api.Attr) bool {
	if !slices.Contains(p.Attrs, api.Allowed{Element: element, Name: a.Name}) {
		return false
	}
	if a.Name != "href" && a.Name != "src" && !(a.Name == "cite" && slices.Contains(strings.Fields(citingRow), element)) {
		return true
	}
	value := strings.TrimFunc(a.Value, func(r rune) bool { return r <= 0x20 })
	m := withScheme.FindStringSubmatch(strings.NewReplacer("\t", "", "\n", "", "\r", "").Replace(value))
	return m == nil || slices.Contains(p.Schemes, strings.ToLower(m[1]))
}

// copyOf is p in memory of its own.
func copyOf(p api.Policy) api.Policy {
	return api.Policy{Elements: slices.Clone(p.Elements), Attrs: slices.Clone(p.Attrs), Schemes: slices.Clone(p.Schemes)}
}

func same(p, q api.Policy) bool {
	return slices.Equal(p.Elements, q.Elements) && slices.Equal(p.Attrs, q.Attrs) && slices.Equal(p.Schemes, q.Schemes)
}

func TestKnown(t *testing.T) {
	for _, e := range elements {
		if !rule.Known(e) {
			t.Errorf("%s is not known", e)
		}
	}
	for _, e := range strangers {
		if rule.Known(e) {
			t.Errorf("%q is known", e)
		}
	}
	for _, a := range attrs {
		if got := rule.Known(a); got != (a == "cite") {
			t.Errorf("the attribute %s, as an element: %v", a, got)
		}
	}
}

// All short names, and all that are one byte away from a known one.
func TestKnownAndNearlyKnown(t *testing.T) {
	hold := func(name string) {
		if got := rule.Known(name); got != slices.Contains(elements, name) {
			t.Errorf("Known of %q: %v", name, got)
		}
	}
	const signs = "abcdefghijklmnopqrstuvwxyz0123456789H-"
	hold("")
	for _, a := range signs {
		hold(string(a))
		for _, b := range signs {
			hold(string([]rune{a, b}))
			for _, c := range signs {
				hold(string([]rune{a, b, c}))
			}
		}
	}
	for _, e := range elements {
		hold(strings.ToUpper(e))
		hold(e + e)
		for i := range len(e) + 1 {
			hold(e[:i])
			hold(e[i:])
			for c := range 256 {
				hold(e[:i] + one(c) + e[i:])
				if i < len(e) {
					hold(e[:i] + one(c) + e[i+1:])
				}
			}
		}
	}
}

func TestCheck(t *testing.T) {
	mayBe(t, "nothing", api.Policy{})
	mayBe(t, "empty lists", api.Policy{Elements: []string{}, Attrs: []api.Allowed{}, Schemes: []string{}})
	mayBe(t, "Base", rule.Base())
	mayBe(t, "schemes alone", api.Policy{Schemes: []string{"http", "tel"}})
	mayBe(t, "all", api.Policy{Elements: elements, Attrs: allPairs()[:400], Schemes: []string{"a", "z", "a1+.-"}})
	for _, x := range []struct {
		what string
		edit func(p *api.Policy)
	}{
		{"script", func(p *api.Policy) { p.Elements = append(p.Elements, "script") }},
		{"a stranger in front", func(p *api.Policy) { p.Elements = append([]string{"font"}, p.Elements...) }},
		{"an element in great letters", func(p *api.Policy) { p.Elements[0] = "A"; p.Attrs = nil }},
		{"an element without a name", func(p *api.Policy) { p.Elements = append(p.Elements, "") }},
		{"the first element again", func(p *api.Policy) { p.Elements = append(p.Elements, "a") }},
		{"the last element again", func(p *api.Policy) { p.Elements = append([]string{"ul"}, p.Elements...) }},
		{"an element beside itself", func(p *api.Policy) { p.Elements = slices.Insert(p.Elements, 5, p.Elements[5]) }},
		{"no tr", func(p *api.Policy) {
			p.Elements = slices.DeleteFunc(p.Elements, func(e string) bool { return e == "tr" })
		}},
		{"no table", func(p *api.Policy) {
			p.Elements = slices.DeleteFunc(p.Elements, func(e string) bool { return e == "table" })
		}},
		{"tr alone", func(p *api.Policy) { *p = api.Policy{Elements: []string{"tr"}} }},
		{"table alone", func(p *api.Policy) { *p = api.Policy{Elements: []string{"table"}} }},
		{"tr seven times", func(p *api.Policy) { *p = api.Policy{Elements: slices.Repeat([]string{"tr"}, 7)} }},
		{"an attribute of an element that is not there", func(p *api.Policy) { p.Attrs = append(p.Attrs, api.Allowed{Element: "span", Name: "class"}) }},
		{"an attribute of a stranger", func(p *api.Policy) { p.Attrs = append(p.Attrs, api.Allowed{Element: "script", Name: "src"}) }},
		{"an attribute of no element", func(p *api.Policy) { p.Attrs = append(p.Attrs, api.Allowed{Name: "title"}) }},
		{"an attribute of any element", func(p *api.Policy) { p.Attrs = append(p.Attrs, api.Allowed{Element: "*", Name: "title"}) }},
		{"an attribute without elements", func(p *api.Policy) { p.Elements = nil }},
		{"an attribute without a name", func(p *api.Policy) { p.Attrs = append(p.Attrs, api.Allowed{Element: "a"}) }},
		{"onclick", func(p *api.Policy) { p.Attrs = append(p.Attrs, api.Allowed{Element: "a", Name: "onclick"}) }},
		{"style", func(p *api.Policy) {
			p.Attrs = append([]api.Allowed{{Element: "a", Name: "style"}}, p.Attrs...)
		}},
		{"an attribute in great letters", func(p *api.Policy) { p.Attrs[0].Name = "HREF" }},
		{"an element for an attribute", func(p *api.Policy) { p.Attrs[0].Name = "code" }},
		{"an attribute again", func(p *api.Policy) { p.Attrs = append(p.Attrs, p.Attrs[0]) }},
		{"an attribute beside itself", func(p *api.Policy) { p.Attrs = slices.Insert(p.Attrs, 8, p.Attrs[8]) }},
		{"javascript", func(p *api.Policy) { p.Schemes = append(p.Schemes, "javascript") }},
		{"vbscript", func(p *api.Policy) { p.Schemes = append([]string{"vbscript"}, p.Schemes...) }},
		{"data", func(p *api.Policy) { p.Schemes = []string{"data"} }},
		{"a scheme again", func(p *api.Policy) { p.Schemes = append(p.Schemes, "http") }},
		{"a scheme beside itself", func(p *api.Policy) { p.Schemes = []string{"tel", "tel"} }},
		{"a scheme in great letters", func(p *api.Policy) { p.Schemes[1] = "HTTPS" }},
		{"a scheme with its colon", func(p *api.Policy) { p.Schemes[1] = "https:" }},
		{"a scheme without a name", func(p *api.Policy) { p.Schemes[1] = "" }},
		{"a scheme of 65 bytes", func(p *api.Policy) { p.Schemes[2] = strings.Repeat("a", 65) }},
		{"all faults", func(p *api.Policy) {
			p.Elements, p.Attrs, p.Schemes = append(p.Elements, "x", "x"), append(p.Attrs, api.Allowed{}, api.Allowed{}), append(p.Schemes, "", "")
		}},
	} {
		p := rule.Base()
		x.edit(&p)
		refused(t, x.what, p)
	}
}

func TestCheckOfEachElement(t *testing.T) {
	candidates := append(slices.Clone(elements), strangers...)
	candidates = append(candidates, attrs...)
	for _, e := range candidates {
		single := checked(t, api.Policy{Elements: []string{e}})
		if may := slices.Contains(elements, e) && !slices.Contains(parts, e); single != may {
			t.Errorf("%q alone may be: %v", e, single)
		}
		for _, f := range candidates {
			checked(t, api.Policy{Elements: []string{e, f}})
			checked(t, api.Policy{Elements: []string{e, f, e}})
		}
		for i := range len(elements) + 1 {
			checked(t, api.Policy{Elements: slices.Insert(slices.Clone(elements), i, e)})
		}
	}
	for i := range elements {
		checked(t, api.Policy{Elements: slices.Delete(slices.Clone(elements), i, i+1)})
	}
}

// Some of a table's parts may not be, whichever they are and however they stand.
func TestCheckOfTables(t *testing.T) {
	may := 0
	for some := range 1 << len(parts) {
		var names []string
		for i, part := range parts {
			if some>>i&1 == 1 {
				names = append(names, part)
			}
		}
		backward := slices.Clone(names)
		slices.Reverse(backward)
		for _, p := range []api.Policy{
			{Elements: names},
			{Elements: backward},
			{Elements: append([]string{"p"}, names...)},
			{Elements: append(slices.Clone(backward), "p", "b")},
			{Elements: append(slices.Clone(names), names...)},
			{Elements: append(slices.Clone(names), "TR")},
		} {
			if checked(t, p) {
				may++
			}
		}
	}
	if may != 5+4 { // without any part, and with all
		t.Errorf("%d policies with parts of tables may be", may)
	}
}

func TestCheckOfEachAttribute(t *testing.T) {
	some := []string{"a", "q", "p", "table", "tr", "script", "A", "", "*"}
	names := append(append(slices.Clone(attrs), strangers...), "a", "td")
	with := append([]string{"a", "b"}, parts...)
	for _, e := range append(slices.Clone(some), elements...) {
		for _, name := range names {
			a := api.Allowed{Element: e, Name: name}
			may := checked(t, api.Policy{Elements: with, Attrs: []api.Allowed{a}})
			if want := slices.Contains(with, e) && slices.Contains(attrs, name); may != want {
				t.Errorf("%q of %q may be: %v", name, e, may)
			}
			checked(t, api.Policy{Attrs: []api.Allowed{a}})
			checked(t, api.Policy{Elements: elements, Attrs: []api.Allowed{{Element: "p", Name: "class"}, a, {Element: "a", Name: "href"}}})
			checked(t, api.Policy{Elements: append([]string{e}, with...), Attrs: []api.Allowed{a, {Element: "b", Name: name}, {Element: e, Name: "title"}}})
		}
	}
}

func TestCheckOfSchemes(t *testing.T) {
	for scheme, may := range map[string]bool{
		"a": true, "z": true, "http": true, "a1": true, "a+": true, "a-": true, "a.": true, "svn+ssh": true, "a0123456789": true, "x-y.z+1": true, "abcdefghijklmnopqrstuvwxyz": true, "a--": true,
		"javascripts": true, "xjavascript": true, "java": true, "script": true, "javascrip": true, "data1": true, "dat": true, "datas": true, "metadata": true, "vbscript2": true, "vb": true, "file": true, "blob": true, "jscript": true,
		"javascript": false, "vbscript": false, "data": false, "JavaScript": false, "DATA": false, "data:": false, "javascript:": false, " data": false, "data ": false, "da\nta": false, "\x00data": false,
		"": false, ":": false, " ": false, "1": false, "1a": false, "+": false, "+a": false, "-a": false, ".a": false, "A": false, "aB": false, "Http": false, "http:": false, "http://": false, "a:b": false, "a:a": false, "a/": false, "a b": false, " a": false, "a ": false,
		"a\n": false, "\na": false, "a\nb": false, "a\t": false, "a\r": false, "a\x00": false, "\x00a": false, "\x1fa": false, "a_b": false, "a%b": false, "é": false, "aé": false, "a\xff": false, "\u212a": false, "a\u212a": false, "aſ": false, "*": false,
	} {
		for _, schemes := range [][]string{{scheme}, {"b", scheme}, {scheme, "b"}, {"b", scheme, "c"}} {
			if got := checked(t, api.Policy{Schemes: schemes}); got != may {
				t.Errorf("the schemes %q may be: %v", schemes, got)
			}
		}
		checked(t, api.Policy{Schemes: []string{scheme, "b", scheme}})
	}
}

// Each byte, and each two, at the places where a scheme may have them or not.
func TestCheckOfEachByteOfSchemes(t *testing.T) {
	first, within := 0, 0
	for c := range 256 {
		b := one(c)
		if checked(t, api.Policy{Schemes: []string{b}}) {
			first++
		}
		if checked(t, api.Policy{Schemes: []string{"a" + b}}) {
			within++
		}
		for _, s := range []string{b + "a", "a" + b + "b", "ab" + b, b + b, "a" + b + b, "data" + b, b + "data", "java" + b + "script"} {
			checked(t, api.Policy{Schemes: []string{s}})
		}
		for d := range 256 {
			checked(t, api.Policy{Schemes: []string{b + one(d)}})
			checked(t, api.Policy{Schemes: []string{"x" + b + one(d)}})
		}
	}
	if first != 26 || within != 26+10+3 {
		t.Errorf("%d bytes may begin a scheme, %d go on in it", first, within)
	}
}

func TestCheckHasLimits(t *testing.T) {
	for size, may := range map[int]bool{1: true, 63: true, 64: true, 65: false, 66: false, 1000: false} {
		for _, last := range "a0+-." {
			s := strings.Repeat("x", size)
			if size > 1 {
				s = s[:size-1] + string(last)
			}
			if got := checked(t, api.Policy{Schemes: []string{s}}); got != may {
				t.Errorf("a scheme of %d bytes may be: %v", len(s), got)
			}
		}
	}
	pairs := allPairs()
	var schemes []string
	for i := range 1000 {
		schemes = append(schemes, "s"+strconv.Itoa(i))
	}
	for many, may := range map[int]bool{0: true, 1: true, 399: true, 400: true, 401: false, 402: false, 600: false} {
		if got := checked(t, api.Policy{Elements: elements, Attrs: pairs[:many]}); got != may {
			t.Errorf("%d attributes may be: %v", many, got)
		}
		if got := checked(t, api.Policy{Schemes: schemes[:many]}); got != may {
			t.Errorf("%d schemes may be: %v", many, got)
		}
		if got := checked(t, api.Policy{Elements: elements, Attrs: pairs[:min(many, 400)], Schemes: schemes[:min(many, 400)]}); !got {
			t.Errorf("%d attributes and schemes may not be", min(many, 400))
		}
		checked(t, api.Policy{Elements: slices.Repeat(elements, 20)[:many]})
	}
	for i := range 400 { // one that is there twice, however far away it is
		twice := slices.Clone(schemes[:400])
		twice[i] = schemes[(i+1)%400]
		refused(t, "a scheme that is there twice", api.Policy{Schemes: twice})
		again := slices.Clone(pairs[:400])
		again[i] = pairs[(i*7+3)%400]
		if again[i] != pairs[i] {
			refused(t, "an attribute that is there twice", api.Policy{Elements: elements, Attrs: again})
		}
	}
}

func TestHas(t *testing.T) {
	base := rule.Base()
	for _, e := range append(slices.Clone(elements), strangers...) {
		if got := rule.Has(base, e); got != slices.Contains(strings.Fields(baseRow), e) {
			t.Errorf("Base has %q: %v", e, got)
		}
		if rule.Has(api.Policy{}, e) || rule.Has(api.Policy{Elements: []string{}}, e) {
			t.Errorf("a policy of nothing has %q", e)
		}
		if !rule.Has(api.Policy{Elements: []string{"x", e}}, e) || !rule.Has(api.Policy{Elements: []string{e, e, "x"}}, e) {
			t.Errorf("a policy with %q has it not", e)
		}
		if rule.Has(api.Policy{Elements: []string{e + "x", "x" + e}, Attrs: []api.Allowed{{Element: e, Name: e}}, Schemes: []string{e}}, e) {
			t.Errorf("a policy without the element %q has it", e)
		}
	}
}

func TestKeeps(t *testing.T) {
	p := api.Policy{
		Attrs: []api.Allowed{
			{Element: "a", Name: "href"}, {Element: "a", Name: "title"}, {Element: "q", Name: "cite"}, {Element: "del", Name: "cite"}, {Element: "ins", Name: "cite"}, {Element: "blockquote", Name: "cite"}, {Element: "p", Name: "cite"},
			{Element: "img", Name: "src"}, {Element: "script", Name: "src"}, {Element: "p", Name: "href"}, {Element: "a", Name: "onclick"}, {Element: "a", Name: "HREF"}, {Element: "Q", Name: "cite"}, {Element: "", Name: ""}, {Element: "cite", Name: "cite"},
		},
		Schemes: []string{"http", "tel"},
	}
	for _, x := range []struct {
		element, name, value string
		stays                bool
	}{
		{"a", "href", "http://a", true}, {"a", "href", "HTTP:x", true}, {"a", "href", "tel:1", true}, {"a", "href", "https:x", false}, {"a", "href", "", true}, {"a", "href", "/a:b", true}, {"a", "href", "#", true},
		{"a", "href", "javascript:x", false}, {"a", "href", " JaVa\nScript\t:x", false}, {"a", "href", "\x01data:x", false}, {"a", "href", "java script:x", true}, {"a", "href", "h\nttp:x", true}, {"a", "href", "é:x", true}, {"a", "href", "\xff", true},
		{"a", "title", "javascript:x", true}, {"a", "title", "", true}, {"a", "class", "x", false}, {"a", "src", "x", false}, {"b", "title", "x", false}, {"b", "href", "/x", false}, {"A", "href", "/x", false}, {"a", "Href", "/x", false}, {"a", "href ", "/x", false}, {"", "href", "/x", false}, {"a", "", "x", false},
		{"q", "cite", "javascript:x", false}, {"del", "cite", "a:x", false}, {"ins", "cite", "https://x", false}, {"blockquote", "cite", "data:x", false}, {"q", "cite", "http:x", true}, {"del", "cite", "x", true}, {"ins", "cite", "tel:", true}, {"blockquote", "cite", "//x", true},
		{"p", "cite", "javascript:x", true}, {"cite", "cite", "javascript:x", true}, {"Q", "cite", "javascript:x", true}, {"b", "cite", "x", false},
		{"img", "src", "javascript:x", false}, {"img", "src", "x.png", true}, {"script", "src", "javascript:x", false}, {"script", "src", "x", true}, {"p", "href", "x:", false}, {"p", "href", "x", true},
		{"a", "onclick", "javascript:x", true}, {"a", "HREF", "javascript:x", true}, {"", "", "javascript:x", true},
	} {
		if got := rule.Keeps(p, x.element, api.Attr{Name: x.name, Value: x.value}); got != x.stays {
			t.Errorf("%s=%q of %s stays: %v", x.name, x.value, x.element, got)
		}
	}
}

func TestKeepsAsTheWordsSay(t *testing.T) {
	those := append(slices.Clone(elements), "script", "svg", "A", "Q", "", "BLOCKQUOTE", "é")
	names := append(slices.Clone(attrs), "onclick", "style", "", "HREF", "Cite", "srcset", "xlink:href")
	values := []string{"", "x", "/x:y", "http:x", "HTTPS://x", "mailto:a@b", "javascript:x", "JAVA\tSCRIPT\n:x", " \x00vbscript:x", "data:", "java script:x", ":", "1:x", "a+b.c-d:x", "é:x", "\xff:x", "http\x0c:x", "javascript&colon;x"}
	var all []api.Allowed
	for _, e := range those {
		for _, n := range names {
			all = append(all, api.Allowed{Element: e, Name: n})
		}
	}
	odd := slices.Clone(all)
	for i := range odd {
		if i%2 == 0 {
			odd[i].Name += "s"
		}
	}
	for _, p := range []api.Policy{
		{Attrs: all}, {Attrs: all, Schemes: []string{"http", "mailto"}}, {Elements: elements, Attrs: all, Schemes: []string{"javascript", "data", "a+b.c-d"}}, {Attrs: odd, Schemes: []string{"HTTP", "http:", "", "https"}}, {Elements: those}, rule.Base(),
	} {
		for _, e := range those {
			for _, n := range names {
				for _, v := range values {
					a := api.Attr{Name: n, Value: v}
					if got := rule.Keeps(p, e, a); got != keepsByWords(p, e, a) {
						t.Errorf("%q of %q stays with the schemes %q: %v", a, e, p.Schemes, got)
					}
				}
			}
		}
	}
}

func TestBase(t *testing.T) {
	of := func(element string, names ...string) (out []api.Allowed) {
		for _, n := range names {
			out = append(out, api.Allowed{Element: element, Name: n})
		}
		return out
	}
	want := api.Policy{
		Elements: strings.Fields(baseRow),
		Attrs:    slices.Concat(of("a", "href", "title"), of("img", "src", "alt", "title"), of("ol", "start"), of("code", "class"), of("td", "align"), of("th", "align")),
		Schemes:  []string{"http", "https", "mailto"},
	}
	if got := rule.Base(); !same(got, want) {
		t.Errorf("Base: %q, not %q", got, want)
	}
	if rule.Check(want) != api.OK {
		t.Error("Base may not be")
	}
}

func TestExamples(t *testing.T) {
	base := rule.Base()
	if got := rule.Check(base); got != 0 {
		t.Errorf("Check of Base: %d", got)
	}
	withScript, trAlone := rule.Base(), rule.Base()
	withScript.Elements = append(withScript.Elements, "script")
	trAlone.Elements = slices.DeleteFunc(trAlone.Elements, func(e string) bool { return e != "tr" && slices.Contains(parts, e) })
	trAlone.Attrs = slices.DeleteFunc(trAlone.Attrs, func(a api.Allowed) bool { return a.Name == "align" })
	refused(t, "Base with script", withScript)
	refused(t, "Base with tr alone of a table's parts", trAlone)
	for _, x := range []struct {
		a     api.Attr
		stays bool
	}{{api.Attr{Name: "href", Value: "JavaScript:x"}, false}, {api.Attr{Name: "href", Value: "/x"}, true}, {api.Attr{Name: "onclick"}, false}} {
		if got := rule.Keeps(base, "a", x.a); got != x.stays {
			t.Errorf("%q stays: %v", x.a, got)
		}
	}
}

func TestBaseIsNew(t *testing.T) {
	first, want := rule.Base(), rule.Base()
	clear(first.Elements)
	clear(first.Attrs)
	clear(first.Schemes)
	if second := rule.Base(); !same(second, want) || !same(second, rule.Base()) {
		t.Errorf("what is done to one answer changes another: %q", second)
	}
	for _, list := range [][]string{first.Elements, first.Schemes} {
		for _, s := range list[len(list):cap(list)] {
			if s != "" {
				t.Errorf("%q lies behind a list", s)
			}
		}
	}
	one, two := rule.Base(), rule.Base()
	_ = append(one.Elements[:3], "script")
	_ = append(one.Schemes[:1], "javascript")
	_ = append(one.Attrs[:1], api.Allowed{Element: "a", Name: "onclick"})
	if !same(two, want) || !same(rule.Base(), want) {
		t.Error("what is put to one answer changes another")
	}
}

// What is handed in stays as it is, and what lies behind its lists is not asked for.
func TestWhatIsHandedInStays(t *testing.T) {
	whole := api.Policy{
		Elements: []string{"p", "a", "q", "script", "p"},
		Attrs:    []api.Allowed{{Element: "a", Name: "href"}, {Element: "q", Name: "cite"}, {Element: "a", Name: "onclick"}, {Element: "a", Name: "href"}},
		Schemes:  []string{"tel", "http", "https", "javascript", "tel"},
	}
	before := copyOf(whole)
	p := api.Policy{Elements: whole.Elements[:3], Attrs: whole.Attrs[:2], Schemes: whole.Schemes[:2]}
	mayBe(t, "a policy with faults behind its lists", p)
	refused(t, "a policy with faults in its lists", whole)
	if rule.Has(p, "script") || !rule.Has(p, "q") || rule.Keeps(p, "a", api.Attr{Name: "onclick"}) || !rule.Keeps(p, "q", api.Attr{Name: "cite", Value: "http:x"}) {
		t.Error("what lies behind a list's length is taken, or what lies ahead of it is not")
	}
	for scheme, safe := range map[string]bool{"tel:x": true, "http:x": true, "https:x": false, "javascript:x": false} {
		if got := rule.Keeps(p, "a", api.Attr{Name: "href", Value: scheme}); got != safe {
			t.Errorf("%s stays: %v", scheme, got)
		}
	}
	if !same(whole, before) {
		t.Errorf("the policy is changed: %q", whole)
	}
	whole.Elements[0], whole.Schemes[0] = "b", "ftp" // nothing of an earlier call is kept
	if rule.Has(p, "p") || !rule.Has(p, "b") || rule.Keeps(p, "a", api.Attr{Name: "href", Value: "tel:x"}) || !rule.Keeps(p, "a", api.Attr{Name: "href", Value: "ftp:x"}) {
		t.Error("an earlier policy is kept")
	}
}

// No call may take long where all is as bad as it can be.
func TestLongInputs(t *testing.T) {
	const many = 1 << 19
	long := strings.Repeat("a", many)
	var schemes []string
	for i := range many {
		schemes = append(schemes, "s"+strconv.Itoa(i))
	}
	for what, p := range map[string]api.Policy{
		"schemes":                      {Schemes: schemes},
		"elements":                     {Elements: schemes},
		"a long element":               {Elements: []string{"p", long}},
		"a long scheme":                {Schemes: []string{long}},
		"long schemes":                 {Schemes: slices.Repeat([]string{long}, 400)},
		"a long attribute":             {Elements: []string{"p"}, Attrs: []api.Allowed{{Element: "p", Name: long}}},
		"an attribute of a long one":   {Elements: []string{"p"}, Attrs: []api.Allowed{{Element: long, Name: "title"}}},
		"attributes, all the same":     {Elements: []string{"p"}, Attrs: slices.Repeat([]api.Allowed{{Element: "p", Name: "title"}}, many)},
		"elements, all the same":       {Elements: slices.Repeat([]string{"p"}, many)},
		"attributes of long elements":  {Elements: slices.Repeat([]string{long}, 400), Attrs: slices.Repeat([]api.Allowed{{Element: long + "b", Name: "title"}}, 400)},
		"schemes that are all nothing": {Schemes: make([]string, many)},
	} {
		if got := rule.Check(p); got != api.ErrRuleForm {
			t.Errorf("%s: Check tells %d", what, got)
		}
	}
	if rule.Known(long) || rule.Has(api.Policy{Elements: schemes}, "p") || !rule.Has(api.Policy{Elements: schemes}, schemes[many-1]) {
		t.Error("Known or Has of long ones")
	}
	p := api.Policy{Attrs: []api.Allowed{{Element: "a", Name: "href"}, {Element: long, Name: long}}, Schemes: schemes}
	for _, x := range []struct {
		element, name, value string
		stays                bool
	}{{"a", "href", long, true}, {"a", "href", long + ":", false}, {"a", "href", "S7:" + long, true}, {long, long, long + ":", true}, {long, "href", "", false}, {"a", long, "", false}} {
		if got := rule.Keeps(p, x.element, api.Attr{Name: x.name, Value: x.value}); got != x.stays {
			t.Errorf("%.9s=%.9q of %.9s stays: %v", x.name, x.value, x.element, got)
		}
	}
}
