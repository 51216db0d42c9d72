package marks_test

import (
	"fmt"
	"math"
	"slices"
	"strings"
	"testing"
	"unsafe"

	"tympan/api"
	"tympan/marks"
)

// mark is one with attributes that are written name=value; marker is a marker.
func mark(id int, name string, attrs ...string) api.Mark {
	m := api.Mark{ID: id, Name: name}
	for _, s := range attrs {
		n, v, _ := strings.Cut(s, "=")
		m.Attrs = append(m.Attrs, api.Attr{Name: n, Value: v})
	}
	return m
}
func marker() api.Mark { return api.Mark{ID: -1} }

// row are marks with the numbers 1, 2, 3 .. and these names; | is a marker.
func row(names string) []api.Mark {
	var l []api.Mark
	for i, name := range strings.Fields(names) {
		if name == "|" {
			l = append(l, marker())
		} else {
			l = append(l, mark(i+1, name))
		}
	}
	return l
}

// opened are elements with these numbers.
func opened(ids ...int) []api.Open {
	var l []api.Open
	for _, id := range ids {
		l = append(l, api.Open{ID: id, Name: "b"})
	}
	return l
}

// brief writes a list in few signs.
func brief(l []api.Mark) string {
	var b strings.Builder
	for _, m := range l[max(0, len(l)-12):] {
		fmt.Fprintf(&b, " %d:%s%v", m.ID, m.Name, m.Attrs)
	}
	return fmt.Sprint(len(l), "[", b.String(), " ]")
}

// same says whether two lists have the same marks.
func same(a, b []api.Mark) bool {
	return slices.EqualFunc(a, b, func(x, y api.Mark) bool {
		return x.ID == y.ID && x.Name == y.Name && slices.Equal(x.Attrs, y.Attrs)
	})
}

// twin is a list with all its memory of its own.
func twin(l []api.Mark) []api.Mark {
	out := make([]api.Mark, len(l))
	for i, m := range l {
		out[i] = api.Mark{ID: m.ID, Name: strings.Clone(m.Name), Attrs: slices.Clone(m.Attrs)}
	}
	return out
}

// The calls by the chapter's words.
func wordBehind(l []api.Mark) int {
	at := 0
	for i, m := range l {
		if m.ID < 0 {
			at = i + 1
		}
	}
	return at
}
func wordAlike(m, other api.Mark) bool {
	if m.Name != other.Name || len(m.Attrs) != len(other.Attrs) {
		return false
	}
	found := 0
	for _, a := range m.Attrs {
		for _, b := range other.Attrs {
			if a.Name == b.Name && a.Value == b.Value {
				found++
				break
			}
		}
	}
	return found == len(m.Attrs)
}
func wordPush(l []api.Mark, m api.Mark) []api.Mark {
	var places []int
	for i := wordBehind(l); i < len(l); i++ {
		if wordAlike(m, l[i]) {
			places = append(places, i)
		}
	}
	var out []api.Mark
	for i, other := range l {
		if !(m.ID >= 0 && len(places) >= 3 && places[0] == i) {
			out = append(out, other)
		}
	}
	return append(out, m)
}
func wordClear(l []api.Mark) []api.Mark {
	var out []api.Mark
	for i := 0; i+1 < wordBehind(l); i++ {
		out = append(out, l[i])
	}
	return out
}
func wordLast(l []api.Mark, name string) int {
	at := -1
	for i := wordBehind(l); i < len(l); i++ {
		if l[i].Name == name {
			at = i
		}
	}
	return at
}
func wordFind(l []api.Mark, id int) int {
	for i := 0; i < len(l) && id >= 0; i++ {
		if l[i].ID == id {
			return i
		}
	}
	return -1
}
func wordLost(l []api.Mark, open []api.Open) int {
	at := 0
	for i, m := range l {
		there := m.ID < 0
		for _, e := range open {
			there = there || e.ID == m.ID
		}
		if there {
			at = i + 1
		}
	}
	return at
}

// check holds all that may be asked of a list against the words.
func check(t *testing.T, l []api.Mark, m api.Mark, open []api.Open) {
	t.Helper()
	if got, want := marks.Push(l, m), wordPush(l, m); !same(got, want) {
		t.Fatalf("Push(%s, %v): %s, want %s", brief(l), m, brief(got), brief(want))
	}
	if got, want := marks.Clear(l), wordClear(l); !same(got, want) {
		t.Fatalf("Clear(%s): %s, want %s", brief(l), brief(got), brief(want))
	}
	for _, name := range []string{m.Name, "b", "i", ""} {
		if got, want := marks.Last(l, name), wordLast(l, name); got != want {
			t.Fatalf("Last(%s, %q): %d, want %d", brief(l), name, got, want)
		}
	}
	for _, id := range []int{m.ID, -2, -1, 0, 1, 2, 3, 99} {
		if got, want := marks.Find(l, id), wordFind(l, id); got != want {
			t.Fatalf("Find(%s, %d): %d, want %d", brief(l), id, got, want)
		}
	}
	if got, want := marks.Lost(l, open), wordLost(l, open); got != want {
		t.Fatalf("Lost(%s, %v): %d, want %d", brief(l), open, got, want)
	}
}

func TestExamples(t *testing.T) {
	if got := marks.Push(row("b b b"), mark(4, "b")); !same(got, []api.Mark{mark(2, "b"), mark(3, "b"), mark(4, "b")}) {
		t.Error("Push", brief(got))
	}
	parted := []api.Mark{mark(1, "b"), mark(2, "b"), marker(), mark(3, "b")}
	if got := marks.Push(parted, mark(4, "b")); !same(got, append(parted, mark(4, "b"))) {
		t.Error("Push behind a marker", brief(got))
	}
	if got := marks.Last(row("b | i"), "b"); got != -1 {
		t.Error("Last", got)
	}
	if got := marks.Lost(row("b b b"), opened(1)); got != 1 {
		t.Error("Lost", got)
	}
}

// TestAlike holds all short lists of attributes against one another, also such as no tag has.
func TestAlike(t *testing.T) {
	some := []api.Attr{{Name: "a", Value: "1"}, {Name: "a", Value: "2"}, {Name: "b", Value: "1"}, {Name: "1", Value: "a"}, {}}
	lists := [][]api.Attr{nil}
	for from := 0; len(lists) < 1+5+25+125; from++ {
		for _, a := range some {
			lists = append(lists, append(slices.Clone(lists[from]), a))
		}
	}
	lists = append(lists, []api.Attr{})
	for _, mine := range lists {
		for _, other := range lists {
			m, o := api.Mark{ID: 9, Name: "b", Attrs: mine}, api.Mark{ID: 1, Name: "b", Attrs: other}
			check(t, []api.Mark{o, o, o}, m, nil)
			check(t, []api.Mark{o, {ID: 2, Name: "b", Attrs: mine}, o, {ID: 3, Name: "b", Attrs: mine}}, m, nil)
		}
	}
	for _, pair := range [][2]string{{"b", "B"}, {"b", ""}, {"b", "bb"}, {"b", "b "}, {"", ""}, {"font", "font"}, {"\xff", "\xfe"}, {"b\x00", "b"}} {
		o, m := mark(1, pair[0], "x=y", "z=w"), mark(9, pair[1], "z=w", "x=y")
		left := len(marks.Push([]api.Mark{o, o, o}, m)) == 3
		if left != (pair[0] == pair[1]) {
			t.Errorf("names %q", pair)
		}
	}
}

// TestAttrs shows which attributes make two marks alike, in any order, and that each of the coming one's is asked for.
func TestAttrs(t *testing.T) {
	for _, c := range []struct {
		mine, others string
		alike        bool
	}{
		{"", "", true}, {"a=1", "a=1", true}, {"a=1", "a=2", false}, {"a=1", "b=1", false}, {"a=1", "", false}, {"", "a=1", false},
		{"a=1 b=2", "b=2 a=1", true}, {"a=1 b=2 c=3", "c=3 a=1 b=2", true}, {"a=1 b=2", "a=2 b=1", false}, {"a=1 b=2", "a=1", false}, {"a=1", "a=1 b=2", false},
		{"a=1", "A=1", false}, {"a=x", "a=X", false}, {"a", "a=", true}, {"a=1 a=1", "a=1 b=2", true}, {"a=1 b=2", "a=1 a=1", false}, {"a=b=c", "a=b=c", true},
	} {
		o, m := mark(1, "b", strings.Fields(c.others)...), mark(4, "b", strings.Fields(c.mine)...)
		if left := len(marks.Push([]api.Mark{o, o, o}, m)) == 3; left != c.alike {
			t.Errorf("%q behind three of %q: %v", c.mine, c.others, left)
		}
	}
}

// TestFirst shows which of more than three is left out, and that others between them stay, as those ahead of a marker do.
func TestFirst(t *testing.T) {
	for _, c := range []struct{ l, want string }{
		{"", "9"}, {"b", "1 9"}, {"b b", "1 2 9"}, {"b b b", "2 3 9"}, {"b b b b", "2 3 4 9"}, {"b b b b b b", "2 3 4 5 6 9"},
		{"i b u b i b", "1 3 4 5 6 9"}, {"b i b", "1 2 3 9"}, {"i i i", "1 2 3 9"}, {"b b b |", "1 2 3 -1 9"}, {"| b b b", "-1 3 4 9"},
		{"b b b | b b", "1 2 3 -1 5 6 9"}, {"b b b | i b b b u", "1 2 3 -1 5 7 8 9 9"}, {"b | b b | b", "1 -1 3 4 -1 6 9"}, {"b b | b b b b | |", "1 2 -1 4 5 6 7 -1 -1 9"},
	} {
		var ids []string
		for _, m := range marks.Push(row(c.l), mark(9, "b")) {
			ids = append(ids, fmt.Sprint(m.ID))
		}
		if got := strings.Join(ids, " "); got != c.want {
			t.Errorf("Push behind %q: %s, want %s", c.l, got, c.want)
		}
	}
	for _, id := range []int{-1, -2, math.MinInt} {
		m := mark(id, "b", "x=1")
		o := mark(1, "b", "x=1")
		if got := marks.Push([]api.Mark{o, o, o, o}, m); !same(got, []api.Mark{o, o, o, o, m}) {
			t.Error("a marker leaves something out", brief(got))
		}
		if got := marks.Push([]api.Mark{m, m, m}, o); !same(got, []api.Mark{m, m, m, o}) {
			t.Error("a marker is left out", brief(got))
		}
	}
	zero := mark(0, "b")
	if got := marks.Push([]api.Mark{zero, zero, zero}, zero); !same(got, []api.Mark{zero, zero, zero}) {
		t.Error("0 is no marker's number", brief(got))
	}
}

// TestShort holds all that short lists of telling marks come to.
func TestShort(t *testing.T) {
	some := []api.Mark{mark(1, "b"), mark(2, "b"), mark(3, "i"), mark(0, "b", "x=1"), marker(), mark(-2, "b")}
	opens := [][]api.Open{nil, opened(1), opened(0, 3), opened(-1, -2), opened(2, 1, 77), opened(0, 1, 2, 3)}
	come := []api.Mark{mark(9, "b"), mark(2, "i"), mark(8, "b", "x=1"), marker(), mark(-7, "b")}
	lists := [][]api.Mark{nil}
	for from := 0; len(lists) < 1+6+36+216+1296+7776; from++ {
		for _, m := range some {
			lists = append(lists, append(slices.Clone(lists[from]), m))
		}
	}
	for i, l := range lists {
		for j, open := range opens {
			check(t, l, come[(i+j)%len(come)], open)
		}
	}
}

func TestEdges(t *testing.T) {
	for _, l := range [][]api.Mark{nil, {}} {
		check(t, l, mark(1, "b"), nil)
		check(t, l, marker(), opened(1))
		if len(marks.Clear(l)) != 0 || marks.Last(l, "b") != -1 || marks.Last(l, "") != -1 || marks.Find(l, 0) != -1 || marks.Find(l, -1) != -1 || marks.Lost(l, nil) != 0 || marks.Lost(l, opened(1)) != 0 {
			t.Error("no marks")
		}
	}
	if got := marks.Clear(row("b i")); len(got) != 0 {
		t.Error("Clear without a marker", brief(got))
	}
	if got := marks.Clear(row("b | i | u b")); !same(got, row("b | i")) {
		t.Error("Clear", brief(got))
	}
	if got := marks.Clear(row("b i |")); !same(got, row("b i")) || len(marks.Clear(row("| b"))) != 0 || !same(marks.Clear(row("| |")), row("|")) {
		t.Error("Clear at its ends", brief(got))
	}
	if l := row("b i b | b u b i"); marks.Last(l, "b") != 6 || marks.Last(l, "i") != 7 || marks.Last(l, "u") != 5 || marks.Last(l, "B") != -1 || marks.Last(l, "") != -1 || marks.Last(l[:4], "b") != -1 {
		t.Error("Last")
	}
	if marks.Last([]api.Mark{mark(1, "b"), mark(-1, "b")}, "b") != -1 || marks.Last([]api.Mark{mark(1, "b"), mark(-5, "b"), mark(2, "")}, "") != 2 {
		t.Error("Last and markers with names")
	}
	l := []api.Mark{mark(4, "b"), marker(), mark(0, "i"), mark(4, "b"), mark(-3, "b"), mark(math.MaxInt, "b"), mark(math.MinInt, "b")}
	if marks.Find(l, 4) != 0 || marks.Find(l, 0) != 2 || marks.Find(l, math.MaxInt) != 5 || marks.Find(l, 1) != -1 || marks.Find(l[1:], 4) != 2 {
		t.Error("Find")
	}
	for _, id := range []int{-1, -2, -3, math.MinInt} {
		if marks.Find(l, id) != -1 {
			t.Error("Find below 0", id)
		}
	}
}

func TestLost(t *testing.T) {
	for _, c := range []struct {
		l    string
		open []int
		want int
	}{
		{"", nil, 0}, {"b", nil, 0}, {"b", []int{1}, 1}, {"b i u", nil, 0}, {"b i u", []int{0, 3}, 3}, {"b i u", []int{3}, 3}, {"b i u", []int{2}, 2}, {"b i u", []int{2, 1, 0}, 2},
		{"b i u", []int{0, 9, -1}, 0}, {"b |", nil, 2}, {"|", nil, 1}, {"| b", nil, 1}, {"b | i u", []int{1}, 2}, {"b | i u", []int{3}, 3}, {"b | i u", []int{1, 4}, 4}, {"b | | u", []int{0}, 3}, {"b | i | u s", []int{1, 3}, 4},
	} {
		if got := marks.Lost(row(c.l), opened(c.open...)); got != c.want {
			t.Errorf("Lost(%s, %v): %d, want %d", c.l, c.open, got, c.want)
		}
	}
	odd := []api.Open{{ID: 2, Space: api.SpaceSVG, Name: "x", Point: 9}, {ID: -1}, {ID: math.MinInt}}
	if marks.Lost(row("b i u"), odd) != 2 || marks.Lost(row("b"), odd) != 0 || marks.Lost([]api.Mark{mark(0, "b"), mark(math.MinInt, "i"), mark(0, "x")}, nil) != 2 {
		t.Error("an element's number alone tells")
	}
}

// TestRuns holds long pseudo-random lists against the words, and lists that grow by Push alone.
func TestRuns(t *testing.T) {
	seed := uint64(12)
	next := func(n int) int {
		seed = seed*6364136223846793005 + 1442695040888963407
		return int(seed>>33) % n
	}
	attrs := []string{"a=1", "a=2", "b=1", "b", "c=3"}
	one := func() api.Mark {
		m := mark(next(12)-1, []string{"b", "b", "i", "font", ""}[next(5)])
		for range next(4) * next(2) {
			m.Attrs = append(m.Attrs, mark(0, "", attrs[next(len(attrs))]).Attrs...)
		}
		return m
	}
	for range 20000 {
		var l []api.Mark
		var open []api.Open
		for range next(16) {
			l = append(l, one())
		}
		for range next(5) {
			open = append(open, api.Open{ID: next(14) - 2, Space: uint8(next(4)), Name: "b", Point: uint8(next(3))})
		}
		check(t, l, one(), open)
	}
	for range 500 {
		var got, want []api.Mark
		for range 40 {
			m := one()
			got, want = marks.Push(got, m), wordPush(want, m)
			if next(20) == 0 {
				got, want = marks.Clear(got), wordClear(want)
			}
			if !same(got, want) {
				t.Fatalf("grown: %s, want %s", brief(got), brief(want))
			}
		}
	}
}

func TestLong(t *testing.T) {
	const many = 1 << 20
	l := append(row("b b |"), slices.Repeat([]api.Mark{mark(7, "i")}, many)...)
	if got := marks.Push(l, mark(8, "b")); len(got) != len(l)+1 || got[0].ID != 1 || got[many+3].ID != 8 {
		t.Error("Push behind many")
	}
	if got := marks.Push(l, mark(8, "i")); len(got) != len(l) || got[2].ID != -1 || got[many+2].ID != 8 {
		t.Error("Push behind many that are alike")
	}
	if !same(marks.Clear(l), row("b b")) || marks.Last(l, "b") != -1 || marks.Find(l, 7) != 3 || marks.Find(l, 9) != -1 || marks.Lost(l, opened(1, 2)) != 3 || marks.Lost(l, opened(7)) != len(l) {
		t.Error("many marks")
	}
	if marks.Lost(row("b b"), slices.Repeat(opened(5), many)) != 0 || marks.Lost(row("b b"), append(opened(2), slices.Repeat(opened(5), many)...)) != 2 {
		t.Error("many open")
	}
	m := mark(1, strings.Repeat("b", many))
	for i := range many {
		m.Attrs = append(m.Attrs, api.Attr{Name: fmt.Sprint(i)})
	}
	if got := marks.Push([]api.Mark{m, m, m}, m); len(got) != 3 || len(got[2].Attrs) != many {
		t.Error("many attributes")
	}
}

// TestKeeps shows that nothing that is handed in is changed, nor what lies behind it asked for or written.
func TestKeeps(t *testing.T) {
	whole := []api.Mark{mark(1, "b", "x=1"), marker(), mark(2, "b", "x=1"), mark(3, "b", "x=1"), mark(4, "b", "x=1"), mark(5, "b", "x=1"), marker(), mark(6, "u")}
	was := twin(whole)
	open := opened(1, 3, 4)
	for n := range len(whole) + 1 {
		l := whole[:n]
		check(t, l, mark(9, "b", "x=1"), open[:1])
		check(t, l, marker(), open[:2])
		for _, out := range [][]api.Mark{marks.Push(l, mark(9, "b", "x=1")), marks.Push(l, mark(9, "i")), marks.Push(l, marker()), marks.Clear(l)} {
			spoil(out)
		}
		if !same(whole, was) || !slices.Equal(open, opened(1, 3, 4)) {
			t.Fatal("changed", n, brief(whole))
		}
	}
	if marks.Last(whole[:2], "b") != -1 || marks.Find(whole[:2], 2) != -1 || marks.Lost(whole[:1], open[1:2]) != 0 || len(marks.Clear(whole[2:6])) != 0 {
		t.Error("what lies behind the lists tells something")
	}
}

// spoil writes into all of a list's memory, and behind its attributes.
func spoil(l []api.Mark) {
	for i := range l {
		_ = append(l[i].Attrs, api.Attr{Name: "spoilt"})
	}
	l = l[:cap(l)]
	for i := range l {
		l[i] = mark(77, "spoilt")
	}
}

// TestMemory shows what an answer shares with what came in: the attributes, and nothing behind them.
func TestMemory(t *testing.T) {
	room := []api.Attr{{Name: "x", Value: "1"}, {Name: "y", Value: "2"}}
	name := []byte("bbi")
	l := []api.Mark{{ID: 1, Name: unsafe.String(&name[0], 1), Attrs: room[:1]}, {ID: 2, Name: unsafe.String(&name[1], 1), Attrs: room[:1]}, {ID: -1}}
	m := api.Mark{ID: 3, Name: unsafe.String(&name[2], 1), Attrs: room[1:]}
	pushed, cleared := marks.Push(l, m), marks.Clear(l)
	for _, out := range [][]api.Mark{pushed, cleared} {
		if &out[0].Attrs[0] != &room[0] || &out[1].Attrs[0] != &room[0] {
			t.Error("other attributes")
		}
		_ = append(out[0].Attrs, api.Attr{Name: "z"})
	}
	if &pushed[3].Attrs[0] != &room[1] || room[1].Name != "y" {
		t.Error("what lies behind attributes is handed out")
	}
	copy(name, "xxx")
	if pushed[0].Name != "b" || pushed[1].Name != "b" || pushed[3].Name != "i" || cleared[0].Name != "b" || cleared[1].Name != "b" {
		t.Error("a name is kept")
	}
	pushed[0].ID, pushed[3].ID = 50, 51
	if l[0].ID != 1 || cleared[0].ID != 1 || marks.Push(l, m)[0].ID != 1 {
		t.Error("memory is shared")
	}
	for _, l := range [][]api.Mark{row("| b"), row("b"), {}} {
		if out := marks.Clear(l); unsafe.SliceData(out) != nil && unsafe.SliceData(out) == unsafe.SliceData(l) {
			t.Error("Clear of nothing hands out a list's memory")
		}
	}
}
