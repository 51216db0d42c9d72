package open_test

import (
	"fmt"
	"math"
	"slices"
	"strings"
	"testing"
	"unsafe"

	"tympan/api"
	"tympan/open"
)

// The chapter's rows, as they stand there.
const (
	specialRow    = "address applet area article aside base basefont bgsound blockquote body br button caption center col colgroup dd details dialog dir div dl dt embed fieldset figcaption figure footer form frame frameset h1 h2 h3 h4 h5 h6 head header hgroup hr html iframe img input keygen li link listing main marquee menu meta nav noembed noframes noscript object ol p param plaintext pre script search section select source style summary table tbody td template textarea tfoot th thead title tr track ul wbr xmp"
	mathRow       = "annotation-xml mi mn mo ms mtext"
	svgRow        = "desc foreignObject title"
	formattingRow = "a b big code em font i nobr s small strike strong tt u"
	tableRow      = "html table template"
	boundsRow     = "applet caption html marquee object table td template th"
	impliedRow    = "dd dt li optgroup option p rb rp rt rtc"
	otherRow      = "span svg math rtd liä foreignobject annotation body1 lis 0 H1 P LI x-y ruby select1 mglyph malignmark"
)

var spaces = []uint8{api.SpaceHTML, api.SpaceSVG, api.SpaceMath, 3, 4, 127, 128, 255}
var scopes = []uint8{api.ScopeAll, api.ScopeList, api.ScopeButton, api.ScopeTable, 4, 5, 127, 128, 255}

// among says whether a row has a name.
func among(row, name string) bool { return slices.Contains(strings.Fields(row), name) }

// allNames are those of all rows, and others that differ little from them.
func allNames() []string {
	l := strings.Fields(strings.Join([]string{specialRow, mathRow, svgRow, formattingRow, tableRow, boundsRow, impliedRow, otherRow}, " "))
	slices.Sort(l)
	return append(slices.Compact(l), "", " ", "p ", " p")
}

// html are elements of HTML that are open, numbered from 0 on; of is one of another space.
func html(names string) []api.Open {
	var l []api.Open
	for i, name := range strings.Fields(names) {
		l = append(l, api.Open{ID: i, Name: name})
	}
	return l
}
func of(space uint8, name string) api.Open { return api.Open{ID: 7, Space: space, Name: name} }

// brief writes a list in few signs.
func brief(l []api.Open) string {
	var b strings.Builder
	for _, e := range l[max(0, len(l)-12):] {
		fmt.Fprintf(&b, " %d:%s", e.Space, e.Name)
	}
	return fmt.Sprint(len(l), "[", b.String(), " ]")
}

// The calls by the chapter's words.
func wordSpecial(space uint8, name string) bool {
	return space == 0 && among(specialRow, name) || space == 2 && among(mathRow, name) || space == 1 && among(svgRow, name)
}
func wordOne(e api.Open, names []string) bool { return e.Space == 0 && slices.Contains(names, e.Name) }
func wordBounds(e api.Open, scope uint8) bool {
	if scope == 3 {
		return e.Space == 0 && among(tableRow, e.Name)
	}
	return e.Space == 0 && among(boundsRow, e.Name) || e.Space == 2 && among(mathRow, e.Name) || e.Space == 1 && among(svgRow, e.Name) ||
		scope == 1 && e.Space == 0 && (e.Name == "ol" || e.Name == "ul") || scope == 2 && e.Space == 0 && e.Name == "button"
}
func wordIn(l []api.Open, scope uint8, names []string) bool {
	for len(l) > 0 {
		e := l[len(l)-1]
		if wordOne(e, names) {
			return true
		}
		if wordBounds(e, scope) {
			return false
		}
		l = l[:len(l)-1]
	}
	return false
}
func wordImplied(l []api.Open, except string) int {
	n := len(l)
	for n > 0 && l[n-1].Space == 0 && among(impliedRow, l[n-1].Name) && l[n-1].Name != except {
		n--
	}
	return n
}
func wordUntil(l []api.Open, names []string) int {
	at := -1
	for i, e := range l {
		if wordOne(e, names) {
			at = i
		}
	}
	return at
}
func wordClear(l []api.Open, names []string) int {
	n := len(l)
	for n > 0 && !(wordOne(l[n-1], names) || wordOne(l[n-1], []string{"html", "template"})) {
		n--
	}
	return n
}
func wordItem(l []api.Open, names []string) int {
	at := wordUntil(l, names)
	if at == -1 {
		return -1
	}
	for _, e := range l[at+1:] {
		if wordSpecial(e.Space, e.Name) && !(e.Space == 0 && among("address div p", e.Name)) {
			return -1
		}
	}
	return at
}

// check holds all that may be asked of a list against the words.
func check(t *testing.T, l []api.Open, names []string, except string) {
	t.Helper()
	for _, scope := range scopes {
		if got, want := open.In(l, scope, names...), wordIn(l, scope, names); got != want {
			t.Fatalf("In(%s, %d, %q): %v, want %v", brief(l), scope, names, got, want)
		}
	}
	if got, want := open.Implied(l, except), wordImplied(l, except); got != want {
		t.Fatalf("Implied(%s, %q): %d, want %d", brief(l), except, got, want)
	}
	if got, want := open.Until(l, names...), wordUntil(l, names); got != want {
		t.Fatalf("Until(%s, %q): %d, want %d", brief(l), names, got, want)
	}
	if got, want := open.Clear(l, names...), wordClear(l, names); got != want {
		t.Fatalf("Clear(%s, %q): %d, want %d", brief(l), names, got, want)
	}
	if got, want := open.Item(l, names...), wordItem(l, names); got != want {
		t.Fatalf("Item(%s, %q): %d, want %d", brief(l), names, got, want)
	}
}

func TestExamples(t *testing.T) {
	if !open.In(html("html div p b"), api.ScopeButton, "p") {
		t.Error("In(html div p b, ScopeButton, p)")
	}
	if l := html("html p button b"); open.In(l, api.ScopeButton, "p") || !open.In(l, api.ScopeAll, "p") {
		t.Error("In(html p button b, .., p)")
	}
	if l := html("html ul li p"); open.Implied(l, "") != 2 || open.Implied(l, "p") != 4 {
		t.Error("Implied(html ul li p)")
	}
	if got := open.Until(html("html div p b"), "div"); got != 1 {
		t.Error("Until", got)
	}
	if got := open.Item(html("html ul li div b"), "li"); got != 2 {
		t.Error("Item(html ul li div b)", got)
	}
	if got := open.Item(html("html li ul"), "li"); got != -1 {
		t.Error("Item(html li ul)", got)
	}
}

func TestRows(t *testing.T) {
	for _, name := range allNames() {
		for _, space := range spaces {
			if got, want := open.Special(space, name), wordSpecial(space, name); got != want {
				t.Errorf("Special(%d, %q): %v", space, name, got)
			}
		}
		if got, want := open.Formatting(name), among(formattingRow, name); got != want {
			t.Errorf("Formatting(%q): %v", name, got)
		}
	}
	for _, row := range []string{specialRow, mathRow, svgRow, formattingRow} {
		for _, name := range strings.Fields(row) {
			checkNear(t, name)
		}
	}
}

// checkNear asks for names that are a byte away from one that has a row.
func checkNear(t *testing.T, name string) {
	near := []string{strings.ToUpper(name), name + "x", name + "\x00", name + " ", "x" + name, name[1:], name[:len(name)-1], name + name}
	for i := range name {
		near = append(near, name[:i]+string(name[i]^0x20)+name[i+1:], name[:i]+"\xff"+name[i+1:])
	}
	for _, s := range near {
		for _, space := range spaces {
			if got, want := open.Special(space, s), wordSpecial(space, s); got != want {
				t.Errorf("Special(%d, %q): %v", space, s, got)
			}
		}
		if got, want := open.Formatting(s), among(formattingRow, s); got != want {
			t.Errorf("Formatting(%q): %v", s, got)
		}
	}
}

// TestEachName puts each element of each space between an item, and all sorts of what is asked for, and the current one.
func TestEachName(t *testing.T) {
	for _, name := range allNames() {
		for _, space := range spaces {
			e := of(space, name)
			for _, ahead := range []string{"", "html", "html li", "html p li table", "html dd p"} {
				for _, behind := range []string{"", "b", "p", "li"} {
					l := append(append(html(ahead), e), html(behind)...)
					check(t, l, []string{"li"}, "p")
					check(t, l, []string{name}, name)
					check(t, l, []string{"table", name, "p"}, "")
				}
			}
		}
	}
}

// TestShort holds all that short lists of telling elements come to.
func TestShort(t *testing.T) {
	some := append(html("html p li ul button table template div b"), of(api.SpaceSVG, "title"), of(api.SpaceMath, "mi"), of(api.SpaceSVG, "p"), of(api.SpaceMath, "li"), of(9, "html"))
	asked := [][]string{nil, {"p"}, {"li"}, {"title", "mi"}, {"table", "html"}, {"p", "li", "p"}}
	lists := [][]api.Open{nil}
	for from := 0; len(lists) < 1+14+14*14+14*14*14; from++ {
		for _, e := range some {
			lists = append(lists, append(slices.Clone(lists[from]), e))
		}
	}
	for _, l := range lists {
		for i, names := range asked {
			check(t, l, names, []string{"", "p", "li", "b"}[i%4])
		}
	}
}

// TestScopes holds what bounds each scope, and that the one that is asked for counts also if it bounds it.
func TestScopes(t *testing.T) {
	for _, scope := range scopes {
		for _, name := range strings.Fields(boundsRow + " ol ul button template html") {
			if !open.In(html("html x "+name), scope, name) || !open.In(html(name), scope, "x", name) {
				t.Error("bounds itself", scope, name)
			}
			if !open.In(html(name+" x"), scope, "x") || open.In(html("x "+name), scope, "x") != !wordBounds(api.Open{Name: name}, scope) {
				t.Error("bounds", scope, name)
			}
		}
		for _, e := range []api.Open{of(api.SpaceSVG, "desc"), of(api.SpaceMath, "mtext"), of(api.SpaceMath, "annotation-xml"), of(api.SpaceSVG, "foreignObject")} {
			if open.In(append(html("x"), e), scope, "x") != (scope == api.ScopeTable) || open.In([]api.Open{e}, scope, e.Name) {
				t.Error("another space's", scope, e.Name)
			}
		}
		for _, e := range []api.Open{of(api.SpaceMath, "desc"), of(api.SpaceSVG, "mi"), of(api.SpaceSVG, "table"), of(api.SpaceMath, "html"), of(3, "td"), of(2, "ol"), of(1, "button")} {
			if !open.In(append(html("x"), e), scope, "x") {
				t.Error("bounds nothing in its space", scope, e.Space, e.Name)
			}
		}
	}
}

func TestEdges(t *testing.T) {
	check(t, nil, nil, "")
	check(t, nil, []string{"html"}, "html")
	check(t, []api.Open{}, []string{}, "p")
	for _, l := range [][]api.Open{nil, {}} {
		if open.In(l, 0, "p") || open.Implied(l, "") != 0 || open.Until(l, "p") != -1 || open.Clear(l, "p") != 0 || open.Item(l, "p") != -1 {
			t.Error("nothing is open")
		}
	}
	l := html("html p p li option")
	if open.In(l, 0) || open.Until(l) != -1 || open.Clear(l) != 1 || open.Item(l) != -1 {
		t.Error("no names")
	}
	if open.Implied(l, "option") != 5 || open.Implied(l, "li") != 4 || open.Implied(l, "p") != 3 || open.Implied(l, "html") != 1 || open.Implied(html("p p"), "") != 0 {
		t.Error("Implied")
	}
	if open.Implied([]api.Open{of(0, "p"), of(1, "p")}, "") != 2 || open.Implied([]api.Open{of(2, "x"), of(0, "p")}, "") != 1 {
		t.Error("Implied of other spaces")
	}
	if open.Until(l, "p", "html") != 2 || open.Until(l, "html") != 0 || open.Until([]api.Open{of(0, "p"), of(1, "p")}, "p") != 0 {
		t.Error("Until")
	}
	if open.Clear(html("html table tr td"), "table") != 2 || open.Clear(html("a template b"), "table") != 2 || open.Clear(html("a b"), "x") != 0 || open.Clear([]api.Open{of(0, "tr"), of(1, "html"), of(2, "tr")}, "tr") != 1 {
		t.Error("Clear")
	}
	if open.Item(html("html dt p div address span dd x"), "dd", "dt") != 6 || open.Item(html("dt p div address span"), "dd", "dt") != 0 || open.Item(html("dt section"), "dt") != -1 {
		t.Error("Item")
	}
	if open.Item(html("ul li ul"), "ul") != 2 || open.Item(append(html("li"), of(1, "title")), "li") != -1 || open.Item(append(html("li"), of(1, "p"), of(2, "ul")), "li") != 0 {
		t.Error("Item and special ones")
	}
	odd := []api.Open{{ID: math.MinInt, Name: "p", Point: 255}, {ID: math.MaxInt, Space: 255, Name: "\xff", Point: 9}}
	if open.Until(odd, "p") != 0 || open.Item(odd, "p") != 0 || open.Implied(odd, "") != 2 || !open.In(odd, 255, "p") {
		t.Error("odd elements")
	}
}

// TestFields shows that an element's number and point tell nothing.
func TestFields(t *testing.T) {
	a, b := html("html ul li p b"), html("html ul li p b")
	for i := range b {
		b[i].ID, b[i].Point = 99-i, uint8(i)
	}
	for _, name := range []string{"ul", "li", "p", "b", "html", "x"} {
		if open.Until(a, name) != open.Until(b, name) || open.Item(a, name) != open.Item(b, name) || open.Clear(a, name) != open.Clear(b, name) ||
			open.In(a, 0, name) != open.In(b, 0, name) || open.Implied(a, name) != open.Implied(b, name) {
			t.Error(name)
		}
	}
}

// TestRuns holds long pseudo-random lists against the words.
func TestRuns(t *testing.T) {
	names, seed := allNames(), uint64(11)
	next := func(n int) int {
		seed = seed*6364136223846793005 + 1442695040888963407
		return int(seed>>33) % n
	}
	for range 30000 {
		var l []api.Open
		plain := next(3) // a third of the lists have but what neither bounds nor is special
		for range next(14) {
			name, space := names[next(len(names))], uint8(0)
			if plain == 0 {
				name = []string{"b", "p", "li", "rt", "div", "span", "option"}[next(7)]
			}
			if next(4) == 0 {
				space = spaces[next(len(spaces))]
			}
			l = append(l, api.Open{ID: next(9) - 2, Space: space, Name: name, Point: uint8(next(4))})
		}
		asked := []string{"p", "li", "ul", "b", names[next(len(names))], names[next(len(names))], ""}[next(4):]
		check(t, l, asked[:next(len(asked)+1)], names[next(len(names))])
		if len(l) > 0 {
			check(t, l, []string{l[next(len(l))].Name}, l[len(l)-1].Name)
		}
	}
}

func TestLong(t *testing.T) {
	const many = 1 << 20
	l := html("html li")
	for range many {
		l = append(l, api.Open{Name: "span"})
	}
	if !open.In(l, api.ScopeTable, "li") || open.Until(l, "li") != 1 || open.Clear(l, "li") != 2 || open.Item(l, "li") != 1 || open.Implied(l, "") != len(l) {
		t.Error("many open")
	}
	for i := range l[2:] {
		l[2+i].Name = "rt"
	}
	if open.Implied(l, "") != 1 || open.Implied(l, "li") != 2 {
		t.Error("many implied")
	}
	names := slices.Repeat([]string{"x"}, many)
	if open.In(l[:4], 0, names...) || open.Until(l[:4], append(names, "li")...) != 1 || open.Special(0, strings.Repeat("p", many)) {
		t.Error("many names")
	}
}

// TestKeeps shows that nothing that is handed in is changed, nor what lies behind it asked for or written.
func TestKeeps(t *testing.T) {
	l := html("html div li p b ul table html")
	was := slices.Clone(l)
	names := []string{"li", "p", "html", "ul"}
	short, few := l[:4], names[:1]
	if open.In(short, 0, few...) != true || open.Until(short, few...) != 2 || open.Item(short, few...) != 2 || open.Clear(short, few...) != 3 || open.Implied(short, "li") != 3 {
		t.Error("what lies behind the lists tells something")
	}
	if !slices.Equal(l, was) || !slices.Equal(names, []string{"li", "p", "html", "ul"}) {
		t.Error("changed")
	}
	buf := []byte("li")
	name := unsafe.String(&buf[0], len(buf))
	l[2].Name = name
	if open.Until(l, name) != 2 || open.Item(l[:4], name) != 2 {
		t.Error("a name of other memory")
	}
	copy(buf, "xx")
	if open.Until(l, "li") != -1 || open.Until(l, "xx") != 2 || open.Special(0, name) || open.Formatting(name) {
		t.Error("a name is kept")
	}
}
