package place_test

import (
	"fmt"
	"slices"
	"strings"
	"testing"

	"tympan/api"
	"tympan/dom"
	"tympan/marks"
	"tympan/place"
)

// words is a world by the chapter's words, with a tree of its own.
type words struct {
	tree   *dom.Tree
	open   []api.Open
	marks  []api.Mark
	foster bool
	high   int
}

func newWords() *words {
	return &words{tree: dom.New(), open: []api.Open{{ID: 0, Name: "html"}}, high: 1}
}

func (w *words) where(target api.Open) (int, int) {
	if !w.foster || target.Space != 0 || !among(tableRow, target.Name) {
		return target.ID, -1
	}
	at := -1
	for i, e := range w.open {
		if e.Space == 0 && e.Name == "table" {
			at = i
		}
	}
	if at == -1 {
		return 0, -1
	}
	table := w.open[at].ID
	if parent := w.tree.Parent(table); parent != -1 {
		return parent, table
	}
	return w.open[at-1].ID, -1
}

func (w *words) insert(space uint8, t api.Token) int {
	id := w.tree.Make(api.Node{Kind: 1, Space: space, Name: t.Name, Attrs: t.Attrs})
	parent, before := w.where(w.open[len(w.open)-1])
	w.tree.Put(parent, before, id)
	var point uint8
	if space == 2 && among("mi mn mo ms mtext", t.Name) {
		point = 1
	}
	if space == 1 && among("desc foreignObject title", t.Name) || space == 2 && t.Name == "annotation-xml" && slices.Contains(t.Attrs, api.Attr{Name: "encoding", Value: "Text/HTML"}) {
		point = 2
	}
	w.open = append(slices.Clone(w.open), api.Open{ID: id, Space: space, Name: t.Name, Point: point})
	if len(w.open) > w.high {
		w.high = len(w.open)
	}
	return id
}

func (w *words) write(s string) {
	parent, before := w.where(w.open[len(w.open)-1])
	w.tree.Write(parent, before, s)
}

func (w *words) note(s string) {
	parent, before := w.where(w.open[len(w.open)-1])
	w.tree.Put(parent, before, w.tree.Make(note(s)))
}

func (w *words) close(n int) {
	if n >= 1 && n < len(w.open) {
		w.open = slices.Clone(w.open[:n])
	}
}

func (w *words) rebuild() {
	from := 0
	for i, m := range w.marks {
		there := m.ID < 0
		for _, e := range w.open {
			there = there || e.ID == m.ID
		}
		if there {
			from = i + 1
		}
	}
	for i := from; i < len(w.marks); i++ {
		w.marks[i].ID = w.insert(0, api.Token{Name: w.marks[i].Name, Attrs: w.marks[i].Attrs})
	}
}

func (w *words) drop(id int) {
	var out []api.Open
	for i, e := range w.open {
		if i == 0 || e.ID != id {
			out = append(out, e)
		}
	}
	w.open = out
}

// twin is a world, and what it should be; next is a number below n that a step takes.
type twin struct {
	world *place.World
	words *words
	next  func(n int) int
	most  int // no node has a greater number
	said  []string
}

func newTwin(next func(int) int) *twin {
	return &twin{world: place.New(), words: newWords(), next: next}
}

// steps are what the tests do to both: first the layer's own calls, then what the layers above do to the fields.
var steps = []struct {
	name string
	do   func(w *twin)
}{
	{"table", func(w *twin) { w.insert(0, start("table")) }},
	{"row", func(w *twin) { w.insert(0, start(strings.Fields(tableRow)[w.next(5)])) }},
	{"elem", func(w *twin) {
		w.insert(0, start([]string{"b", "i", "p", "td", "", "html"}[w.next(6)], []string{"x=1", "y=2", "z"}[:w.next(4)]...))
	}},
	{"alien", func(w *twin) {
		w.insert(uint8(w.next(4)), start([]string{"title", "mi", "annotation-xml", "table", "tr"}[w.next(5)], []string{"encoding=Text/HTML", "x=1"}[:w.next(3)]...))
	}},
	{"write", func(w *twin) {
		s := []string{"x", "", "yz"}[w.next(3)]
		w.world.Write(s)
		w.words.write(s)
	}},
	{"note", func(w *twin) {
		w.world.Note("n")
		w.words.note("n")
	}},
	{"close", func(w *twin) {
		n := len(w.words.open) - 1 - w.next(3)
		w.world.Close(n)
		w.words.close(n)
	}},
	{"rebuild", func(w *twin) {
		w.world.Rebuild()
		w.words.rebuild()
	}},
	{"drop", func(w *twin) {
		id := w.words.open[w.next(len(w.words.open))].ID + w.next(2)
		w.world.Drop(id)
		w.words.drop(id)
	}},
	{"foster", func(w *twin) {
		w.words.foster = !w.words.foster
		w.world.Foster = w.words.foster
	}},
	{"mark", func(w *twin) {
		if e := w.words.open[len(w.words.open)-1]; e.ID != 0 {
			w.setMarks(marks.Push(w.words.marks, api.Mark{ID: e.ID, Name: e.Name, Attrs: attrs([]string{"x=1", "y=2"}[:w.next(3)]...)}))
		}
	}},
	{"marker", func(w *twin) { w.setMarks(marks.Push(w.words.marks, api.Mark{ID: -1 - w.next(3)})) }},
	{"clear", func(w *twin) { w.setMarks(marks.Clear(w.words.marks)) }},
	{"cut", func(w *twin) {
		id := w.words.open[w.next(len(w.words.open))].ID
		w.world.Tree.Cut(id)
		w.words.tree.Cut(id)
	}},
	{"put", func(w *twin) {
		to, id := w.words.open[w.next(len(w.words.open))].ID, w.words.open[w.next(len(w.words.open))].ID
		w.world.Tree.Put(to, -1, id)
		w.words.tree.Put(to, -1, id)
	}},
	{"copy", func(w *twin) {
		at := w.next(len(w.words.open))
		e := w.words.open[at]
		if at > 0 {
			w.world.Tree.Copy(e.ID)
			l := slices.Clone(w.words.open)
			l[at].ID = w.words.tree.Copy(e.ID)
			w.setOpen(l)
		}
	}},
}

func (w *twin) insert(space uint8, t api.Token) {
	if got, want := w.world.Insert(space, t), w.words.insert(space, t); got != want {
		w.said = append(w.said, fmt.Sprintf("Insert: %d, want %d", got, want))
	}
}
func (w *twin) setMarks(l []api.Mark) {
	w.world.Marks, w.words.marks = slices.Clone(l), slices.Clone(l)
}
func (w *twin) setOpen(l []api.Open) { w.world.Open, w.words.open = slices.Clone(l), slices.Clone(l) }

// wrong says in what the two differ; the tree's numbers are all held against one another, whether they stand somewhere or not.
func (w *twin) wrong() string {
	a, b := w.world, w.words
	switch {
	case len(w.said) > 0:
		return w.said[0]
	case !slices.Equal(a.Open, b.open):
		return fmt.Sprintf("open: %v, want %v", a.Open, b.open)
	case !sameMarks(a.Marks, b.marks):
		return fmt.Sprintf("marks: %v, want %v", a.Marks, b.marks)
	case a.Foster != b.foster || a.High != b.high:
		return fmt.Sprintf("Foster %v, High %d, want %v, %d", a.Foster, a.High, b.foster, b.high)
	case a.Current() != b.open[len(b.open)-1]:
		return fmt.Sprintf("Current: %v", a.Current())
	}
	for _, target := range append([]api.Open{{ID: 5, Name: "tr"}}, b.open...) {
		parent, before := a.Where(target)
		if p, f := b.where(target); p != parent || f != before {
			return fmt.Sprintf("Where(%v): %d, %d, want %d, %d", target, parent, before, p, f)
		}
	}
	for id := range w.most + 1 {
		if a.Tree.Parent(id) != b.tree.Parent(id) || !equal(a.Tree.Whole(id), b.tree.Whole(id)) {
			return fmt.Sprintf("node %d in %d:\n%swant in %d:\n%s", id, a.Tree.Parent(id), dom.Print(a.Tree.Whole(id)), b.tree.Parent(id), dom.Print(b.tree.Whole(id)))
		}
	}
	return ""
}

// step does a step to both, and holds them against one another; High must not fall.
func (w *twin) step(t *testing.T, i int, done *[]string) {
	t.Helper()
	high := w.world.High
	w.most += 1 + len(w.words.marks)
	steps[i].do(w)
	*done = append(*done, steps[i].name)
	if s := w.wrong(); s != "" {
		t.Fatalf("%v: %s", *done, s)
	}
	if w.world.High < high || w.world.High < len(w.world.Open) {
		t.Fatalf("%v: High is %d, with %d open", *done, w.world.High, len(w.world.Open))
	}
}

// ends shows that what is open has numbers of the tree.
func (w *twin) ends(t *testing.T, done []string) {
	t.Helper()
	for _, e := range w.world.Open[1:] {
		id := w.world.Tree.Copy(e.ID)
		if w.world.Tree.Put(0, -1, id); id == -1 {
			t.Fatalf("%v: %v is no node", done, e)
		}
		l := w.world.Tree.Whole(0)
		if n := l[len(l)-1]; n.Kind != api.NodeElem || n.Space != e.Space || n.Name != e.Name {
			t.Fatalf("%v: %v is %v", done, e, n)
		}
	}
}

// TestShort does all that a few steps can be, one behind the other.
func TestShort(t *testing.T) {
	for run := range len(steps) * len(steps) * len(steps) * len(steps) {
		w := newTwin(func(n int) int { return run % n })
		var done []string
		for left, many := run, 0; many < 4; left, many = left/len(steps), many+1 {
			w.step(t, left%len(steps), &done)
		}
		w.ends(t, done)
	}
}

// TestRuns does long pseudo-random runs of steps.
func TestRuns(t *testing.T) {
	seed := uint64(13)
	next := func(n int) int {
		seed = seed*6364136223846793005 + 1442695040888963407
		return int(seed>>33) % n
	}
	for range 4000 {
		w := newTwin(next)
		var done []string
		for range 4 + next(40) {
			w.step(t, next(len(steps)), &done)
		}
		w.ends(t, done)
	}
}
