package place_test

import (
	"fmt"
	"math"
	"slices"
	"strings"
	"testing"

	"tympan/api"
	"tympan/dom"
	"tympan/place"
)

// tableRow are the names of those that are put ahead of a table instead; spaces are those of elements, and some that are none.
const tableRow = "table tbody tfoot thead tr"

var spaces = []uint8{api.SpaceHTML, api.SpaceSVG, api.SpaceMath, 3, 4, 127, 128, 255}

func among(row, name string) bool { return slices.Contains(strings.Fields(row), name) }

// attrs are written name=value; start is a tag with them.
func attrs(l ...string) []api.Attr {
	var out []api.Attr
	for _, s := range l {
		n, v, _ := strings.Cut(s, "=")
		out = append(out, api.Attr{Name: n, Value: v})
	}
	return out
}
func start(name string, l ...string) api.Token {
	return api.Token{Kind: api.TokStart, Name: name, Attrs: attrs(l...)}
}

// text, note and elem are nodes; elem's name may have its space ahead of it.
func text(s string) api.Node { return api.Node{Kind: api.NodeText, Text: s} }
func note(s string) api.Node { return api.Node{Kind: api.NodeNote, Text: s} }
func elem(name string, kids ...api.Node) api.Node {
	n := api.Node{Kind: api.NodeElem, Name: name, Kids: kids}
	if s, cut := strings.CutPrefix(name, "svg "); cut {
		n.Space, n.Name = api.SpaceSVG, s
	}
	if s, cut := strings.CutPrefix(name, "math "); cut {
		n.Space, n.Name = api.SpaceMath, s
	}
	return n
}

// world is one in which these are opened one in another: of svg and math with the space ahead, as svg:a.
func world(names string) *place.World {
	w := place.New()
	for _, name := range strings.Fields(names) {
		n := elem(strings.Replace(name, ":", " ", 1))
		w.Insert(n.Space, start(n.Name))
	}
	return w
}

// equal says whether lists of nodes are alike in all fields; stands holds what stands in a world's tree against what should.
func equal(a, b []api.Node) bool {
	return slices.EqualFunc(a, b, func(x, y api.Node) bool {
		return x.Kind == y.Kind && x.Space == y.Space && x.Name == y.Name && slices.Equal(x.Attrs, y.Attrs) && x.Text == y.Text && equal(x.Kids, y.Kids)
	})
}
func stands(t *testing.T, w *place.World, want ...api.Node) {
	t.Helper()
	if got := w.Tree.Whole(0); !equal(got, want) {
		t.Errorf("the tree is\n%swant\n%s", dom.Print(got), dom.Print(want))
	}
}

// opened writes the names of what is open, with their numbers.
func opened(l []api.Open) string {
	var out []string
	for _, e := range l {
		out = append(out, fmt.Sprint(e.Name, e.ID))
	}
	return strings.Join(out, " ")
}
func isOpen(t *testing.T, w *place.World, want string) {
	t.Helper()
	if got := opened(w.Open); got != want {
		t.Errorf("open: %s, want %s", got, want)
	}
}
func isWhere(t *testing.T, w *place.World, target api.Open, parent, before int) {
	t.Helper()
	if p, b := w.Where(target); p != parent || b != before {
		t.Errorf("Where(%v) with %s open: %d, %d, want %d, %d", target, opened(w.Open), p, b, parent, before)
	}
}

func sameMarks(a, b []api.Mark) bool {
	return slices.EqualFunc(a, b, func(x, y api.Mark) bool {
		return x.ID == y.ID && x.Name == y.Name && slices.Equal(x.Attrs, y.Attrs)
	})
}

// mark lets the current element of a world format.
func mark(w *place.World, l ...string) {
	e := w.Current()
	w.Marks = append(slices.Clone(w.Marks), api.Mark{ID: e.ID, Name: e.Name, Attrs: attrs(l...)})
}

func TestExample(t *testing.T) {
	w := place.New()
	if w.Insert(api.SpaceHTML, start("table")) != 1 || w.Insert(api.SpaceHTML, start("tr")) != 2 {
		t.Error("Insert's numbers")
	}
	w.Foster = true
	w.Write("x")
	stands(t, w, text("x"), elem("table", elem("tr")))
	w.Foster = false
	w.Insert(api.SpaceHTML, start("b"))
	w.Write("y")
	stands(t, w, text("x"), elem("table", elem("tr", elem("b", text("y")))))
	isOpen(t, w, "html0 table1 tr2 b4")
}

func TestNew(t *testing.T) {
	w := place.New()
	if len(w.Open) != 1 || w.Open[0] != (api.Open{ID: 0, Space: api.SpaceHTML, Name: "html", Point: api.PointNone}) || w.Current() != w.Open[0] {
		t.Error("open", w.Open)
	}
	if len(w.Marks) != 0 || w.Foster || w.High != 1 {
		t.Error("fields", w.Marks, w.Foster, w.High)
	}
	if w.Tree == nil || len(w.Tree.Whole(0)) != 0 || w.Tree.Make(text("")) != 1 {
		t.Error("its tree has more than a root")
	}
	other := place.New()
	w.Insert(api.SpaceHTML, start("b"))
	w.Marks, w.Foster = []api.Mark{{ID: 1}}, true
	w.Open[0].Name = "x"
	if other.Tree == w.Tree || len(other.Open) != 1 || other.Open[0].Name != "html" || len(other.Marks) != 0 || other.Foster || other.High != 1 || len(other.Tree.Whole(0)) != 0 {
		t.Error("two share something")
	}
}

func TestCurrent(t *testing.T) {
	w := world("div p svg:a")
	for _, want := range []api.Open{{ID: 3, Space: api.SpaceSVG, Name: "a"}, {ID: 2, Name: "p"}, {ID: 1, Name: "div"}, {ID: 0, Name: "html"}} {
		if got := w.Current(); got != want || got != w.Open[len(w.Open)-1] {
			t.Errorf("%v, want %v", got, want)
		}
		w.Close(len(w.Open) - 1)
	}
	w.Open = append(w.Open, api.Open{ID: 2, Space: 9, Name: "x", Point: 7})
	if w.Current() != (api.Open{ID: 2, Space: 9, Name: "x", Point: 7}) {
		t.Error("one that a layer above has opened", w.Current())
	}
}

// TestTargets asks where something goes of targets of all names and spaces that tell, with a table open and none.
func TestTargets(t *testing.T) {
	names := append(strings.Fields(tableRow+" html body b p td th caption col colgroup select template Table TR tr2 tabl tables thea"), "", " tr", "tr ")
	for _, foster := range []bool{false, true} {
		for _, inside := range []string{"", "div table b", "div svg:table svg:tr", "math:table"} {
			w := world(inside)
			w.Foster = foster
			for _, space := range spaces {
				for _, name := range names {
					for _, id := range []int{0, 1, 3, 44, -1, -7, math.MaxInt, math.MinInt} {
						parent, before := id, -1
						if foster && space == api.SpaceHTML && among(tableRow, name) {
							parent = 0
							if inside == "div table b" {
								parent, before = 1, 2
							}
						}
						isWhere(t, w, api.Open{ID: id, Space: space, Name: name, Point: uint8(id & 3)}, parent, before)
					}
				}
			}
		}
	}
}

// TestTables asks where something goes that may not stand in a table, wherever the table is.
func TestTables(t *testing.T) {
	target := api.Open{ID: 77, Name: "tbody"}
	w := world("table tbody tr td p table tr")
	w.Foster = true
	isWhere(t, w, target, 5, 6)
	w.Tree.Put(2, 3, 6)
	isWhere(t, w, target, 2, 6)
	w.Tree.Cut(6)
	isWhere(t, w, target, 5, -1)
	w.Drop(5)
	isWhere(t, w, target, 4, -1)
	w.Close(6)
	isOpen(t, w, "html0 table1 tbody2 tr3 td4 table6")
	isWhere(t, w, target, 4, -1)
	w.Close(5)
	isWhere(t, w, target, 0, 1)
	w.Tree.Cut(1)
	isWhere(t, w, target, 0, -1)
	w.Tree.Put(6, -1, 1)
	isWhere(t, w, target, 6, 1)
	w.Close(1)
	isWhere(t, w, target, 0, -1)
	isWhere(t, w, w.Current(), 0, -1)

	w = world("div table svg:table math:table Table tr")
	w.Foster = true
	isWhere(t, w, w.Current(), 1, 2)
	w.Drop(2)
	isWhere(t, w, w.Current(), 0, -1)
	isWhere(t, w, w.Open[1], 1, -1)
	isWhere(t, w, w.Open[2], 3, -1)
}

func TestInsert(t *testing.T) {
	w := place.New()
	for i, c := range []struct {
		space uint8
		token api.Token
		point uint8
	}{
		{api.SpaceHTML, start("b", "x=1", "y=2"), api.PointNone},
		{api.SpaceSVG, start("svg"), api.PointNone},
		{api.SpaceSVG, start("title", "a="), api.PointHTML},
		{api.SpaceMath, start("mi", "=b", "a=1", "a=2"), api.PointText},
		{api.SpaceHTML, api.Token{}, api.PointNone},
		{api.SpaceHTML, api.Token{Kind: api.TokEnd, Name: "tr", Closing: true, Text: "no"}, api.PointNone},
		{api.SpaceHTML, api.Token{Kind: 99, Name: "\xff\x00", Attrs: []api.Attr{}, Text: "no"}, api.PointNone},
		{200, start("mi"), api.PointNone},
	} {
		if got := w.Insert(c.space, c.token); got != i+1 {
			t.Errorf("its number is %d, want %d", got, i+1)
		}
		if want := (api.Open{ID: i + 1, Space: c.space, Name: c.token.Name, Point: c.point}); w.Current() != want || len(w.Open) != i+2 || w.High != i+2 {
			t.Errorf("open: %v (%d, %d), want %v", w.Current(), len(w.Open), w.High, want)
		}
		want := api.Node{Kind: api.NodeElem, Space: c.space, Name: c.token.Name, Attrs: c.token.Attrs}
		if got := w.Tree.Whole(i); !equal(got, []api.Node{want}) {
			t.Errorf("%v stands there, want %v", got, want)
		}
	}
	if len(w.Marks) != 0 || w.Foster {
		t.Error("other fields")
	}
}

// TestFoster shows where elements, texts and notes go that a table may not have, and that what goes into them does not.
func TestFoster(t *testing.T) {
	for _, name := range strings.Fields(tableRow) {
		inside, here := "div table", elem("table")
		if name != "table" {
			inside, here = inside+" "+name, elem("table", elem(name))
		}
		w := world(inside)
		w.Foster = true
		w.Write("1")
		w.Write("2")
		w.Note("3")
		w.Insert(api.SpaceSVG, start("desc"))
		w.Write("4")
		w.Note("5")
		w.Insert(api.SpaceHTML, start("tr"))
		w.Write("6")
		stands(t, w, elem("div", text("12"), note("3"), elem("svg desc", text("4"), note("5"), elem("tr")), text("6"), here))
		w.Foster = false
		w.Write("7")
		w.Close(3)
		w.Write("8")
		here.Kids = append(here.Kids, text("8"))
		stands(t, w, elem("div", text("12"), note("3"), elem("svg desc", text("4"), note("5"), elem("tr", text("7"))), text("6"), here))
	}

	w := world("div table tr")
	w.Tree.Cut(2)
	w.Foster = true
	w.Write("x")
	w.Insert(api.SpaceHTML, start("b"))
	stands(t, w, elem("div", text("x"), elem("b")))
	isOpen(t, w, "html0 div1 table2 tr3 b5")

	w = world("div tr")
	w.Foster = true
	w.Note("x")
	w.Insert(api.SpaceHTML, start("b"))
	stands(t, w, elem("div", elem("tr")), note("x"), elem("b"))
}

func TestText(t *testing.T) {
	w := world("p")
	w.Write("")
	stands(t, w, elem("p"))
	w.Write("a")
	w.Write("")
	w.Write("b\n&<\x00\xff")
	stands(t, w, elem("p", text("ab\n&<\x00\xff")))
	w.Note("")
	w.Note("-->")
	w.Note("n")
	w.Write("c")
	stands(t, w, elem("p", text("ab\n&<\x00\xff"), note(""), note("-->"), note("n"), text("c")))
	if len(w.Open) != 2 || w.High != 2 || w.Tree.Make(text("")) != 7 {
		t.Error("more than that is done")
	}
	w.Close(1)
	w.Write("d")
	w.Note("e")
	stands(t, w, elem("p", text("ab\n&<\x00\xff"), note(""), note("-->"), note("n"), text("c")), text("d"), note("e"))
}

func TestClose(t *testing.T) {
	names := "html0 a1 b2 c3 d4"
	for n := -3; n < 9; n++ {
		w := world("a b c d")
		w.Close(n)
		want := names
		if n >= 1 && n <= 4 {
			want = strings.Join(strings.Fields(names)[:n], " ")
		}
		isOpen(t, w, want)
		stands(t, w, elem("a", elem("b", elem("c", elem("d")))))
		if w.High != 5 {
			t.Error("High", w.High)
		}
	}
	for _, n := range []int{math.MinInt, math.MinInt32, math.MaxInt32, math.MaxInt} {
		w := world("a b c d")
		w.Close(n)
		isOpen(t, w, names)
	}
	w := place.New()
	for _, n := range []int{-1, 0, 1, 2} {
		w.Close(n)
		isOpen(t, w, "html0")
	}
}

func TestHigh(t *testing.T) {
	w := place.New()
	for _, c := range []struct {
		do   func()
		high int
	}{
		{func() { w.Write("x") }, 1}, {func() { w.Insert(api.SpaceHTML, start("a")) }, 2}, {func() { w.Insert(api.SpaceHTML, start("b")) }, 3}, {func() { mark(w) }, 3},
		{func() { w.Insert(api.SpaceHTML, start("i")) }, 4}, {func() { mark(w) }, 4}, {func() { w.Close(2) }, 4}, {func() { w.Insert(api.SpaceHTML, start("p")) }, 4},
		{func() { w.Rebuild() }, 5}, {func() { w.Drop(w.Open[1].ID) }, 5}, {func() { w.Insert(api.SpaceHTML, start("p")) }, 5}, {func() { w.Insert(api.SpaceHTML, start("p")) }, 6},
		{func() { w.Close(1) }, 6}, {func() { w.High = 20 }, 20}, {func() { w.Insert(api.SpaceHTML, start("p")) }, 20},
	} {
		c.do()
		if w.High != c.high {
			t.Errorf("%s open: High %d, want %d", opened(w.Open), w.High, c.high)
		}
	}
}

// TestPoints holds all names that tell, and others, in every space, with attributes of many kinds.
func TestPoints(t *testing.T) {
	names := strings.Fields("mi mn mo ms mtext annotation-xml annotation desc foreignObject foreignobject title math svg mglyph malignmark Mi MTEXT Annotation-xml annotation-XML Desc tr p annotation-xml2")
	names = append(names, "", "mi ", " title")
	lists := []struct {
		l    []api.Attr
		html bool
	}{{nil, false}, {[]api.Attr{}, false}}
	for _, name := range []string{"encoding", "Encoding", "ENCODING", "encoding ", "encodin", "encodings", "", "definitionurl"} {
		for _, value := range []string{
			"text/html", "TEXT/HTML", "TeXt/hTmL", "application/xhtml+xml", "APPLICATION/XHTML+XML", "Application/xhtml+XML",
			"", " text/html", "text/html ", "text/htm", "text/html;", "text/htmls", "text\x0fhtml", "application/xhtml", "application/xhtml xml", "application/xhtml\x0bxml", "text/xhtml+xml", "application/html", "appl\u0130cation/xhtml+xml", "APPL\u0131CATION/XHTML+XML", "te\u0445t/html", "text/htm\u017f", "application/xml", "image/svg+xml",
		} {
			low := strings.Map(func(r rune) rune {
				if 'A' <= r && r <= 'Z' {
					r += 'a' - 'A'
				}
				return r
			}, value)
			html := name == "encoding" && (low == "text/html" || low == "application/xhtml+xml")
			one := api.Attr{Name: name, Value: value}
			for _, l := range [][]api.Attr{{one}, {{Name: "a"}, one}, {one, {Name: "b", Value: "text/html"}}, {{Name: "encoding", Value: "x"}, one}, {one, {Name: "encoding"}}} {
				lists = append(lists, struct {
					l    []api.Attr
					html bool
				}{l, html})
			}
		}
	}
	for _, space := range spaces {
		for _, name := range names {
			for _, c := range lists {
				want := api.PointNone
				switch {
				case space == api.SpaceMath && among("mi mn mo ms mtext", name):
					want = api.PointText
				case space == api.SpaceMath && name == "annotation-xml" && c.html, space == api.SpaceSVG && among("desc foreignObject title", name):
					want = api.PointHTML
				}
				w := place.New()
				w.Insert(space, api.Token{Kind: api.TokStart, Name: name, Attrs: c.l})
				if got := w.Current().Point; got != want {
					t.Fatalf("%d %q %v: %d, want %d", space, name, c.l, got, want)
				}
			}
		}
	}
}

func TestRebuild(t *testing.T) {
	w := world("p b")
	mark(w, "x=1")
	w.Insert(api.SpaceHTML, start("i"))
	mark(w, "y=2", "z=3")
	all := slices.Clone(w.Marks)
	w.Rebuild()
	isOpen(t, w, "html0 p1 b2 i3")
	if !sameMarks(w.Marks, all) {
		t.Error("all are open", w.Marks)
	}
	w.Close(3)
	w.Rebuild()
	isOpen(t, w, "html0 p1 b2 i4")
	if w.Marks[0].ID != 2 || w.Marks[1].ID != 4 {
		t.Error("one is lost", w.Marks)
	}
	w.Close(1)
	w.Insert(api.SpaceSVG, start("desc"))
	w.Rebuild()
	isOpen(t, w, "html0 desc5 b6 i7")
	if !sameMarks(w.Marks, []api.Mark{{ID: 6, Name: "b", Attrs: attrs("x=1")}, {ID: 7, Name: "i", Attrs: attrs("y=2", "z=3")}}) {
		t.Error("both are lost", w.Marks)
	}
	if w.Open[2].Space != api.SpaceHTML || w.Open[2].Point != api.PointNone {
		t.Error("of another space", w.Open[2])
	}
	b, i := elem("b"), elem("i")
	i.Attrs = attrs("y=2", "z=3")
	b.Attrs, b.Kids = attrs("x=1"), []api.Node{i}
	if got := w.Tree.Whole(5); !equal(got, []api.Node{b}) {
		t.Error("built again as", got)
	}
}

// TestLost shows from which mark on elements are opened, and that nobody behind a marker, or ahead of an open one, is.
func TestLost(t *testing.T) {
	for _, c := range []struct{ marks, open, want, ids string }{
		{"", "", "html0", ""}, {"", "1", "html0 a1", ""}, {"1", "1", "html0 a1", "1"}, {"1", "", "html0 a5", "5"}, {"-1", "", "html0", "-1"}, {"1 -1", "", "html0", "1 -1"},
		{"1 2 3", "1 2 3", "html0 a1 b2 c3", "1 2 3"}, {"1 2 3", "1 2", "html0 a1 b2 c5", "1 2 5"}, {"1 2 3", "1", "html0 a1 b5 c6", "1 5 6"}, {"1 2 3", "", "html0 a5 b6 c7", "5 6 7"},
		{"1 2 3", "2", "html0 b2 c5", "1 2 5"}, {"1 2 3", "3", "html0 c3", "1 2 3"}, {"1 -1 3 4", "", "html0 c5 d6", "1 -1 5 6"}, {"1 -9 3 4", "1 3", "html0 a1 c3 d5", "1 -9 3 5"}, {"2 1 -1", "1", "html0 a1", "2 1 -1"},
		{"3 1 4 2", "3 4", "html0 c3 d4 b5", "3 1 4 5"}, {"1 0", "", "html0", "1 0"},
	} {
		w := world("a b c d")
		w.Close(1)
		for _, f := range strings.Fields(c.open) {
			w.Open = append(w.Open, api.Open{ID: int(f[0] - '0'), Name: string(f[0] - '1' + 'a')})
		}
		for _, f := range strings.Fields(c.marks) {
			m := api.Mark{ID: -int(f[len(f)-1] - '0')}
			if f[0] != '-' {
				m = api.Mark{ID: -m.ID, Name: string(f[0] - '1' + 'a')}
			}
			w.Marks = append(w.Marks, m)
		}
		w.Rebuild()
		isOpen(t, w, c.want)
		var ids []string
		for _, m := range w.Marks {
			ids = append(ids, fmt.Sprint(m.ID))
		}
		if got := strings.Join(ids, " "); got != c.ids {
			t.Errorf("marks %s with %s open: %s, want %s", c.marks, c.open, got, c.ids)
		}
	}
}

func TestRebuildInTable(t *testing.T) {
	w := world("b")
	mark(w)
	w.Insert(api.SpaceHTML, start("i"))
	mark(w)
	w.Close(1)
	w.Insert(api.SpaceHTML, start("table"))
	w.Foster = true
	w.Rebuild()
	w.Write("x")
	stands(t, w, elem("b", elem("i")), elem("b", elem("i", text("x"))), elem("table"))
	isOpen(t, w, "html0 table3 b4 i5")
}

func TestDrop(t *testing.T) {
	for _, c := range []struct {
		id   int
		want string
	}{
		{1, "html0 b2 c3 d4"}, {2, "html0 a1 c3 d4"}, {4, "html0 a1 b2 c3"}, {0, "html0 a1 b2 c3 d4"}, {5, "html0 a1 b2 c3 d4"}, {-1, "html0 a1 b2 c3 d4"},
		{math.MinInt, "html0 a1 b2 c3 d4"}, {math.MaxInt, "html0 a1 b2 c3 d4"},
	} {
		w := world("a b c d")
		w.Marks = []api.Mark{{ID: c.id, Name: "x"}}
		w.Drop(c.id)
		isOpen(t, w, c.want)
		stands(t, w, elem("a", elem("b", elem("c", elem("d")))))
		if !sameMarks(w.Marks, []api.Mark{{ID: c.id, Name: "x"}}) || w.High != 5 {
			t.Error("marks or High", w.Marks, w.High)
		}
		w.Drop(c.id)
		isOpen(t, w, c.want)
	}
	w := place.New()
	w.Drop(0)
	w.Drop(1)
	isOpen(t, w, "html0")
}

// upper is a layer that stands above.
type upper struct{ *place.World }

func TestEmbedded(t *testing.T) {
	w := place.New()
	u := upper{w}
	u.Insert(api.SpaceHTML, start("p"))
	u.Write("x")
	u.Foster = true
	if !w.Foster || u.Current() != w.Current() || w.Current().Name != "p" || u.High != 2 {
		t.Error("an embedded world is another one")
	}
	stands(t, w, elem("p", text("x")))
}
