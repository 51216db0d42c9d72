package dom_test

import (
	"fmt"
	"math"
	"slices"
	"strings"
	"testing"
	"unsafe"

	"tympan/api"
	"tympan/dom"
)

// elem, text and note are nodes without kids; of elem, names and values stand one behind the other.
func text(s string) api.Node { return api.Node{Kind: api.NodeText, Text: s} }
func note(s string) api.Node { return api.Node{Kind: api.NodeNote, Text: s} }
func elem(name string, parts ...string) api.Node {
	n := api.Node{Kind: api.NodeElem, Name: name}
	for i := 0; i < len(parts); i += 2 {
		n.Attrs = append(n.Attrs, api.Attr{Name: parts[i], Value: parts[i+1]})
	}
	return n
}

// of is a node like n with kids; in is one of another space.
func of(n api.Node, kids ...api.Node) api.Node {
	n.Kids = kids
	return n
}
func in(space uint8, n api.Node) api.Node {
	n.Space = space
	return n
}

// words are a tree's nodes, and what stands in them, by the chapter's words.
type words struct {
	nodes []api.Node
	kids  [][]int
}

func newWords() *words { return &words{nodes: []api.Node{{}}, kids: [][]int{nil}} }

func (w *words) is(id int) bool { return id >= 0 && id < len(w.nodes) }
func (w *words) mayHaveKids(id int) bool {
	return w.is(id) && (id == 0 || w.nodes[id].Kind == api.NodeElem)
}
func (w *words) parent(id int) int {
	return slices.IndexFunc(w.kids, func(l []int) bool { return slices.Contains(l, id) })
}
func (w *words) isAtOrIn(id, around int) bool {
	for ; id != -1; id = w.parent(id) {
		if id == around {
			return true
		}
	}
	return false
}

func (w *words) make(n api.Node) int {
	made := api.Node{Kind: n.Kind}
	switch n.Kind {
	case 1:
		made.Space, made.Name, made.Attrs = n.Space, n.Name, slices.Clone(n.Attrs)
	case 2, 3:
		made.Text = n.Text
	default:
		return -1
	}
	w.nodes, w.kids = append(w.nodes, made), append(w.kids, nil)
	return len(w.nodes) - 1
}

func (w *words) copy(id int) int {
	if !w.is(id) || id == 0 {
		return -1
	}
	return w.make(w.nodes[id])
}

// insert makes id a kid of parent; before is one, or -1.
func (w *words) insert(parent, before, id int) {
	at := slices.Index(w.kids[parent], before)
	if before == -1 {
		at = len(w.kids[parent])
	}
	w.kids[parent] = slices.Insert(w.kids[parent], at, id)
}

func (w *words) put(parent, before, id int) bool {
	if !w.is(parent) || !w.is(id) || id == 0 || !w.mayHaveKids(parent) || w.isAtOrIn(parent, id) || before == id || before != -1 && !slices.Contains(w.kids[parent], before) {
		return false
	}
	w.cut(id)
	w.insert(parent, before, id)
	return true
}

func (w *words) cut(id int) bool {
	if !w.is(id) || w.parent(id) == -1 {
		return false
	}
	l := &w.kids[w.parent(id)]
	at := slices.Index(*l, id)
	*l = slices.Delete(*l, at, at+1)
	return true
}

func (w *words) move(from, to int) bool {
	if !w.is(from) || !w.is(to) || len(w.kids[from]) == 0 || !w.mayHaveKids(to) || w.isAtOrIn(to, from) {
		return false
	}
	w.kids[to], w.kids[from] = append(w.kids[to], w.kids[from]...), nil
	return true
}

func (w *words) write(parent, before int, s string) bool {
	if !w.mayHaveKids(parent) || before != -1 && !slices.Contains(w.kids[parent], before) {
		return false
	}
	if s == "" {
		return true
	}
	at := slices.Index(w.kids[parent], before)
	if before == -1 {
		at = len(w.kids[parent])
	}
	if at > 0 && w.nodes[w.kids[parent][at-1]].Kind == api.NodeText {
		w.nodes[w.kids[parent][at-1]].Text += s
		return true
	}
	w.insert(parent, before, w.make(text(s)))
	return true
}

func (w *words) whole(id int) []api.Node {
	if !w.is(id) {
		return nil
	}
	var out []api.Node
	for _, k := range w.kids[id] {
		n := w.nodes[k]
		n.Attrs, n.Kids = slices.Clone(n.Attrs), w.whole(k)
		out = append(out, n)
	}
	return out
}

// equal says whether lists of nodes are alike in all fields, those too that their kinds do not have.
func equal(a, b []api.Node) bool {
	return slices.EqualFunc(a, b, func(x, y api.Node) bool {
		return x.Kind == y.Kind && x.Space == y.Space && x.Name == y.Name && slices.Equal(x.Attrs, y.Attrs) && x.Text == y.Text && equal(x.Kids, y.Kids)
	})
}

// brief is what is told of something, not too much of it.
func brief(v any) string {
	s := fmt.Sprintf("%+v", v)
	return s[:min(len(s), 600)]
}

// twin is a tree, and what it should be.
type twin struct {
	tree  *dom.Tree
	words *words
	steps []step
}

// step is a call: its name, and what it is given.
type step struct {
	call    string
	a, b, c int
	text    string
	node    api.Node
}

func newTwin() *twin { return &twin{tree: dom.New(), words: newWords()} }

func number(ok bool) int {
	if ok {
		return 1
	}
	return 0
}

// do asks both for a step; what they tell must be the same, and is told.
func (w *twin) do(t *testing.T, s step) int {
	t.Helper()
	var got, want int
	switch s.call {
	case "Make":
		got, want = w.tree.Make(s.node), w.words.make(s.node)
	case "Copy":
		got, want = w.tree.Copy(s.a), w.words.copy(s.a)
	case "Put":
		got, want = number(w.tree.Put(s.a, s.b, s.c)), number(w.words.put(s.a, s.b, s.c))
	case "Cut":
		got, want = number(w.tree.Cut(s.a)), number(w.words.cut(s.a))
	case "Move":
		got, want = number(w.tree.Move(s.a, s.b)), number(w.words.move(s.a, s.b))
	case "Write":
		got, want = number(w.tree.Write(s.a, s.b, s.text)), number(w.words.write(s.a, s.b, s.text))
	default:
		t.Fatalf("no call %s", s.call)
	}
	if w.steps = append(w.steps, s); got != want {
		t.Fatalf("%d, want %d, of the last of %s", got, want, brief(w.steps))
	}
	return got
}

// hold asks of all nodes, and of some that are none, where they stand, and what stands in them.
func (w *twin) hold(t *testing.T) {
	t.Helper()
	for id := -2; id <= len(w.words.nodes)+1; id++ {
		var kids []int
		parent := -1
		if w.words.is(id) {
			kids, parent = w.words.kids[id], w.words.parent(id)
		}
		if got := w.tree.Parent(id); got != parent {
			t.Fatalf("Parent of %d: %d, want %d, behind %s", id, got, parent, brief(w.steps))
		}
		if got := w.tree.Kids(id); !slices.Equal(got, kids) {
			t.Fatalf("Kids of %d: %v, want %v, behind %s", id, got, kids, brief(w.steps))
		}
		if got, want := w.tree.Whole(id), w.words.whole(id); !equal(got, want) {
			t.Fatalf("Whole of %d: %s, want %s, behind %s", id, brief(got), brief(want), brief(w.steps))
		}
	}
}

// again is a twin to which the steps were done.
func again(t *testing.T, steps []step) *twin {
	w := newTwin()
	for _, s := range steps {
		w.do(t, s)
	}
	return w
}

// stepsAmong are all steps with numbers from -2 on up to, and with, one that is no node's.
func stepsAmong(nodes int) []step {
	var out []step
	for a := -2; a <= nodes; a++ {
		out = append(out, step{call: "Cut", a: a}, step{call: "Copy", a: a})
		for b := -2; b <= nodes; b++ {
			out = append(out, step{call: "Move", a: a, b: b}, step{call: "Write", a: a, b: b}, step{call: "Write", a: a, b: b, text: "x"})
			for c := -2; c <= nodes; c++ {
				out = append(out, step{call: "Put", a: a, b: b, c: c})
			}
		}
	}
	return out
}

// shape tells what stands where.
func (w *words) shape() string { return brief(w.kids) }

// From each tree that some nodes can stand in, each step comes to what the words say.
func TestStepsFromAllTrees(t *testing.T) {
	var start []step
	for _, n := range []api.Node{elem("a"), in(api.SpaceSVG, elem("b", "c", "d")), text("e"), elem("f")} {
		start = append(start, step{call: "Make", node: n})
	}
	seen, all := map[string]bool{}, stepsAmong(len(start)+1)
	for left := [][]step{start}; len(left) > 0; left = left[1:] {
		tree := again(t, left[0])
		if seen[tree.words.shape()] {
			continue
		}
		seen[tree.words.shape()] = true
		for _, s := range all {
			w := again(t, left[0])
			done := w.do(t, s)
			w.hold(t)
			if done == 1 && s.call == "Put" {
				left = append(left, slices.Clone(w.steps))
			}
		}
	}
	if len(seen) < 500 {
		t.Errorf("only %d trees", len(seen))
	}
}

// random draws numbers, the same ones each time.
type random uint64

func (r *random) below(n int) int {
	*r = *r*6364136223846793005 + 1442695040888963407
	return int(uint64(*r>>33) % uint64(n))
}

// Long runs of steps among many nodes come to what the words say.
func TestLongRuns(t *testing.T) {
	kinds := []api.Node{elem("a"), elem("b", "c", "d"), elem("e"), text("f"), note("g"), {}, {Kind: 4}}
	done := map[string]int{}
	for seed := range 100 {
		r, w := random(seed), newTwin()
		for n := range 1000 {
			// One behind the last number, and one ahead of the first, are drawn too.
			id := func() int { return r.below(len(w.words.nodes)+2) - 1 }
			s := step{a: id(), b: id(), c: id()}
			if kids := w.tree.Kids(s.a); len(kids) > 0 && r.below(2) == 0 {
				s.b = kids[r.below(len(kids))]
			} else if r.below(2) == 0 {
				s.b = -1
			}
			switch k := r.below(20); {
			case len(w.words.nodes) < 20 || k < 1 && len(w.words.nodes) < 40:
				s.call, s.node = "Make", kinds[r.below(len(kinds))]
			case k < 2 && len(w.words.nodes) < 40:
				s.call = "Copy"
			case k < 3:
				s.call = "Cut"
			case k < 7:
				s.call, s.b = "Move", id()
			case k < 11:
				s.call, s.text = "Write", strings.Repeat("x", r.below(3))
			default:
				s.call = "Put"
			}
			if w.do(t, s) > 0 {
				done[s.call]++
			}
			if n%25 == 0 {
				w.hold(t)
			}
		}
		w.hold(t)
	}
	for _, call := range []string{"Make", "Copy", "Put", "Cut", "Move", "Write"} {
		if done[call] < 500 {
			t.Errorf("%s: %d", call, done[call])
		}
	}
}

func TestExamples(t *testing.T) {
	tree := dom.New()
	a, b := tree.Make(elem("a")), tree.Make(elem("b"))
	if a != 1 || b != 2 || !tree.Put(0, -1, a) || !tree.Put(a, -1, b) || tree.Put(b, -1, a) {
		t.Errorf("%d, %d, %v", a, b, tree.Whole(0))
	}
	if !tree.Write(a, b, "x") || !slices.Equal(tree.Kids(a), []int{3, 2}) || tree.Parent(3) != a {
		t.Errorf("Write ahead of b: %v", tree.Kids(a))
	}
	if !tree.Write(a, b, "y") || !equal(tree.Whole(0), []api.Node{of(elem("a"), text("xy"), elem("b"))}) {
		t.Errorf("Write behind a text: %+v", tree.Whole(0))
	}
	if !tree.Move(a, 0) || !slices.Equal(tree.Kids(0), []int{1, 3, 2}) || len(tree.Kids(a)) != 0 {
		t.Errorf("Move: %v", tree.Kids(0))
	}
	if got := dom.Print(tree.Whole(0)); got != "<a>\n\"xy\"\n<b>\n" {
		t.Errorf("Print: %q", got)
	}
}

func TestNew(t *testing.T) {
	tree := dom.New()
	if tree.Parent(0) != -1 || tree.Kids(0) != nil || tree.Whole(0) != nil || tree.Cut(0) || tree.Copy(0) != -1 || tree.Put(0, -1, 0) || tree.Move(0, 0) {
		t.Errorf("a tree with its root alone: %v, %v", tree.Kids(0), tree.Whole(0))
	}
	if got := tree.Make(elem("a")); got != 1 {
		t.Errorf("the first node: %d", got)
	}
}

// full is a node that has all fields.
func full(kind uint8) api.Node {
	return api.Node{Kind: kind, Space: api.SpaceMath, Name: "a", Attrs: []api.Attr{{Name: "b", Value: "c"}, {Name: "d"}}, Text: "e", Kids: []api.Node{text("f"), elem("g")}}
}

// Of each kind, Make takes what that kind has, and no kids; of kinds that are none it makes nothing.
func TestMake(t *testing.T) {
	has := map[int]api.Node{
		1: {Kind: api.NodeElem, Space: api.SpaceMath, Name: "a", Attrs: []api.Attr{{Name: "b", Value: "c"}, {Name: "d"}}},
		2: text("e"),
		3: note("e"),
	}
	for kind := range 256 {
		tree := dom.New()
		id := tree.Make(full(uint8(kind)))
		want, ok := has[kind]
		if !ok {
			if id != -1 || tree.Make(elem("a")) != 1 {
				t.Errorf("Make of kind %d: %d", kind, id)
			}
			continue
		}
		if id != 1 || tree.Parent(id) != -1 || tree.Kids(id) != nil || tree.Kids(0) != nil {
			t.Fatalf("Make of kind %d: %d", kind, id)
		}
		if tree.Copy(id) != 2 || tree.Parent(2) != -1 || !tree.Put(0, -1, id) || !tree.Put(0, -1, 2) {
			t.Fatalf("Copy of kind %d", kind)
		}
		if got := tree.Whole(0); !equal(got, []api.Node{want, want}) {
			t.Errorf("of kind %d there are %+v", kind, got)
		}
		if got := tree.Put(id, -1, 2); got != (kind == 1) {
			t.Errorf("kind %d takes kids: %v", kind, got)
		}
	}
}

// What is made is held as it is: any names, values, spaces, texts.
func TestMakesAnything(t *testing.T) {
	tree, want := dom.New(), []api.Node{}
	for space := range 256 {
		want = append(want, in(uint8(space), elem("a")))
	}
	for _, s := range []string{"", "a", "A B", "<>\"&'", "\xff\x00", "é\n", strings.Repeat("long ", 1000)} {
		want = append(want, text(s), note(s), elem(s), elem("a", s, s), elem("a", s, "", "b", s, s, s), text(s))
	}
	for n, made := range want {
		if id := tree.Make(made); id != n+1 || !tree.Put(0, -1, id) {
			t.Fatalf("Make of %s: %d", brief(made), id)
		}
	}
	if got := tree.Whole(0); !equal(got, want) || !dom.Same(got, want) {
		t.Errorf("made: %s", brief(got))
	}
}

// A copy has nothing of what stands in the other, or of where it stands, and goes its own way.
func TestCopy(t *testing.T) {
	tree := dom.New()
	tree.Make(elem("a", "b", "c"))
	tree.Put(0, -1, 1)
	tree.Write(1, -1, "x")
	if got := tree.Copy(1); got != 3 || tree.Kids(3) != nil || tree.Parent(3) != -1 {
		t.Errorf("Copy of an element: %d, kids %v", got, tree.Kids(3))
	}
	if got := tree.Copy(2); got != 4 || tree.Parent(4) != -1 {
		t.Errorf("Copy of a text: %d", got)
	}
	tree.Put(3, -1, 4)
	tree.Put(0, -1, 3)
	for n, s := range []string{"1", "22", "333", "4444", "55555"} {
		tree.Write(1, -1, s)
		tree.Write(3, -1, strings.ToUpper(strings.Repeat("y", n)))
	}
	want := []api.Node{of(elem("a", "b", "c"), text("x122333444455555")), of(elem("a", "b", "c"), text("xYYYYYYYYYY"))}
	if got := tree.Whole(0); !equal(got, want) {
		t.Errorf("%+v", got)
	}
	for _, id := range []int{0, -1, -2, 5, 6, math.MaxInt, math.MinInt} {
		if got := tree.Copy(id); got != -1 {
			t.Errorf("Copy of %d: %d", id, got)
		}
	}
}

// Put lets a node stand where it is put, wherever it stood.
func TestPut(t *testing.T) {
	tree := dom.New()
	for range 4 {
		tree.Make(elem("a"))
	}
	hold := func(want string, parent, before, id int, ok bool) {
		t.Helper()
		got := tree.Put(parent, before, id)
		if shape := fmt.Sprint(tree.Kids(0), tree.Kids(1), tree.Kids(2)); got != ok || shape != want {
			t.Errorf("Put %d, %d, %d: %v, %s, want %s", parent, before, id, got, shape, want)
		}
	}
	hold("[1] [] []", 0, -1, 1, true)
	hold("[1 2] [] []", 0, -1, 2, true)
	hold("[1 3 2] [] []", 0, 2, 3, true)
	hold("[4 1 3 2] [] []", 0, 1, 4, true)
	hold("[1 3 2 4] [] []", 0, -1, 4, true)   // from the beginning to the end
	hold("[1 3 2 4] [] []", 0, -1, 4, true)   // where it stands
	hold("[1 3 2 4] [] []", 0, 2, 3, true)    // likewise
	hold("[4 1 3 2] [] []", 0, 1, 4, true)    // from the end to the beginning
	hold("[4 1 3 2] [] []", 0, 4, 4, false)   // ahead of itself
	hold("[1 3 2] [4] []", 1, -1, 4, true)    // into what stands beside it
	hold("[1 3 2] [4] []", 0, 4, 3, false)    // ahead of another one's kid
	hold("[1 3 2] [4] []", 1, 3, 2, false)    // likewise
	hold("[1 3 2] [4] []", 4, -1, 1, false)   // into what stands in it
	hold("[1 3 2] [4] []", 1, -1, 1, false)   // into itself
	hold("[1 3 2] [4] []", 1, 4, 1, false)    // likewise
	hold("[1 3 2] [4] []", 0, -1, 0, false)   // the root
	hold("[1 3 2] [4] []", 1, -1, 0, false)   // likewise
	hold("[1 3] [2 4] []", 1, 4, 2, true)     // ahead of what stands there
	hold("[1] [2 4] [3]", 2, -1, 3, true)     // deeper
	hold("[1] [2 4] [3]", 3, -1, 1, false)    // into what stands in what stands in it
	hold("[1] [2 4] [3]", 3, -1, 2, false)    // into what stands in it
	hold("[1] [2 4 3] []", 1, -1, 3, true)    // a step out
	hold("[1 2] [4 3] []", 0, -1, 2, true)    // likewise
	hold("[1 2] [4 3] []", 2, 0, 3, false)    // ahead of the root
	hold("[1 2] [4 3] []", 2, -2, 3, false)   // ahead of what is none
	hold("[1 2] [4 3] []", 2, 17, 3, false)   // likewise
	hold("[1 2] [4 3] []", 17, -1, 3, false)  // into what is none
	hold("[1 2] [4 3] []", -1, -1, 3, false)  // likewise
	hold("[1 2] [4 3] []", 0, -1, 17, false)  // what is none
	hold("[1 2] [4 3] []", 0, -1, -1, false)  // likewise
	hold("[1 2] [4 3] []", 17, -1, 17, false) // likewise
	hold("[1 2] [4 3] []", -1, -1, -1, false) // likewise
}

// What is cut off keeps what stands in it, and may be put into what is cut off, too.
func TestCutOff(t *testing.T) {
	tree := dom.New()
	for _, n := range []api.Node{elem("a"), elem("b"), elem("c"), text("d")} {
		tree.Make(n)
	}
	for n := 1; n < 4; n++ {
		tree.Put(n, -1, n+1)
	}
	tree.Put(0, -1, 1)
	if !tree.Cut(2) || tree.Cut(2) || tree.Parent(2) != -1 || tree.Kids(1) != nil {
		t.Errorf("Cut: %d, %v", tree.Parent(2), tree.Kids(1))
	}
	rest := []api.Node{of(elem("c"), text("d"))}
	if !equal(tree.Whole(0), []api.Node{elem("a")}) || !equal(tree.Whole(2), rest) {
		t.Errorf("cut off: %+v, %+v", tree.Whole(0), tree.Whole(2))
	}
	if tree.Put(3, -1, 2) || !tree.Write(3, 4, "e") || !tree.Cut(4) || !tree.Write(3, -1, "f") {
		t.Errorf("what is cut off: %+v", tree.Whole(2))
	}
	if !equal(tree.Whole(2), []api.Node{of(elem("c"), text("ef"))}) {
		t.Errorf("what is cut off: %+v", tree.Whole(2))
	}
	if !tree.Move(2, 0) || !slices.Equal(tree.Kids(0), []int{1, 3}) {
		t.Errorf("Move from what is cut off: %v", tree.Kids(0))
	}
	if tree.Cut(2) || !tree.Put(2, -1, 1) || tree.Parent(1) != 2 || !slices.Equal(tree.Kids(0), []int{3}) {
		t.Errorf("Put into what is cut off: %v", tree.Kids(0))
	}
}

// Move takes kids from wherever they are, to wherever they may be, behind what stands there.
func TestMove(t *testing.T) {
	tree := dom.New()
	for range 6 {
		tree.Make(elem("a"))
	}
	tree.Make(text("b"))
	tree.Put(0, -1, 1)
	tree.Put(0, -1, 7)
	for n := 2; n < 5; n++ {
		tree.Put(1, -1, n)
	}
	tree.Put(2, -1, 5)
	hold := func(want string, from, to int, ok bool) {
		t.Helper()
		got := tree.Move(from, to)
		if shape := fmt.Sprint(tree.Kids(0), tree.Kids(1), tree.Kids(2), tree.Kids(6)); got != ok || shape != want {
			t.Errorf("Move %d, %d: %v, %s, want %s", from, to, got, shape, want)
		}
	}
	hold("[1 7] [2 3 4] [5] []", 1, 1, false)
	hold("[1 7] [2 3 4] [5] []", 1, 2, false)
	hold("[1 7] [2 3 4] [5] []", 1, 5, false)
	hold("[1 7] [2 3 4] [5] []", 0, 1, false)
	hold("[1 7] [2 3 4] [5] []", 0, 0, false)
	hold("[1 7] [2 3 4] [5] []", 3, 1, false)
	hold("[1 7] [2 3 4] [5] []", 3, 6, false)
	hold("[1 7] [2 3 4] [5] []", 7, 0, false)
	hold("[1 7] [2 3 4] [5] []", 1, 7, false)
	for _, id := range []int{-1, -2, 8, 9, math.MaxInt, math.MinInt} {
		hold("[1 7] [2 3 4] [5] []", id, 1, false)
		hold("[1 7] [2 3 4] [5] []", 1, id, false)
		hold("[1 7] [2 3 4] [5] []", id, id, false)
	}
	hold("[1 7] [2 3 4 5] [] []", 2, 1, true)
	hold("[1 7 2 3 4 5] [] [] []", 1, 0, true)
	hold("[] [] [] [1 7 2 3 4 5]", 0, 6, true)
	hold("[] [] [] [1 7 2 3 4 5]", 6, 1, false) // into a kid of it
	hold("[1 7 2 3 4 5] [] [] []", 6, 0, true)
}

// Write puts text behind a text that stands ahead, and else makes one.
func TestWrite(t *testing.T) {
	tree := dom.New()
	tree.Make(elem("a"))
	tree.Make(text("b"))
	tree.Make(note("c"))
	tree.Make(elem("d"))
	for id := 1; id < 4; id++ {
		tree.Put(0, -1, id)
	}
	hold := func(parent, before int, s string, ok bool, want ...api.Node) {
		t.Helper()
		if got := tree.Write(parent, before, s); got != ok || !equal(tree.Whole(0), want) {
			t.Fatalf("Write %d, %d, %q: %v, %+v", parent, before, s, got, tree.Whole(0))
		}
	}
	a, b, c := elem("a"), text("b"), note("c")
	for _, before := range []int{-1, 1, 2, 3} {
		hold(0, before, "", true, a, b, c)
	}
	for _, before := range []int{0, 4, 5, -2, 17, math.MaxInt, math.MinInt} {
		hold(0, before, "x", false, a, b, c)
		hold(0, before, "", false, a, b, c)
		hold(1, before, "x", false, a, b, c)
	}
	for _, parent := range []int{2, 3, 5, -1, -2, 17, math.MaxInt, math.MinInt} {
		hold(parent, -1, "x", false, a, b, c)
		hold(parent, -1, "", false, a, b, c)
		hold(parent, parent, "x", false, a, b, c)
		hold(parent, 1, "x", false, a, b, c)
	}
	hold(1, 1, "x", false, a, b, c)
	hold(1, 2, "x", false, a, b, c)
	hold(0, 3, "1", true, a, text("b1"), c)
	hold(0, 2, "2", true, a, text("2"), text("b1"), c) // behind an element, not ahead of a text
	hold(0, 2, "3", true, a, text("23"), text("b1"), c)
	hold(0, 5, "4", true, a, text("4"), text("23"), text("b1"), c)
	hold(0, 1, "5", true, text("5"), a, text("4"), text("23"), text("b1"), c)
	hold(0, 1, "6", true, text("56"), a, text("4"), text("23"), text("b1"), c)
	hold(0, -1, "7", true, text("56"), a, text("4"), text("23"), text("b1"), c, text("7")) // behind a note
	hold(0, -1, "8", true, text("56"), a, text("4"), text("23"), text("b1"), c, text("78"))
	hold(1, -1, "9", true, text("56"), of(a, text("9")), text("4"), text("23"), text("b1"), c, text("78"))
	if got := fmt.Sprint(tree.Kids(0), tree.Kids(1)); got != "[7 1 6 5 2 3 8] [9]" {
		t.Errorf("the numbers of new texts: %s", got)
	}
	if got := tree.Make(elem("e")); got != 10 {
		t.Errorf("the next number: %d", got)
	}
	// A text that Make made without text is one that takes more.
	tree.Put(4, -1, tree.Make(text("")))
	if !tree.Write(4, -1, "x") || !equal(tree.Whole(4), []api.Node{text("x")}) {
		t.Errorf("Write behind an empty text: %+v", tree.Whole(4))
	}
}

func TestNoSuchNode(t *testing.T) {
	numbers := []int{-1, -2, 4, 5, 1 << 16, 1 << 32, math.MaxInt, math.MaxInt - 1, math.MinInt, math.MinInt + 1}
	w := newTwin()
	w.do(t, step{call: "Make", node: elem("a")})
	w.do(t, step{call: "Make", node: elem("b")})
	w.do(t, step{call: "Make", node: text("c")})
	w.do(t, step{call: "Put", a: 0, b: -1, c: 1})
	w.do(t, step{call: "Put", a: 1, b: -1, c: 3})
	for _, x := range numbers {
		if w.tree.Parent(x) != -1 || w.tree.Kids(x) != nil || w.tree.Whole(x) != nil {
			t.Errorf("of no node %d: %d, %v", x, w.tree.Parent(x), w.tree.Kids(x))
		}
		for y := range 4 {
			if w.tree.Put(x, -1, y) || w.tree.Put(y, -1, x) || x != -1 && w.tree.Put(0, x, y) || w.tree.Put(0, y, x) || w.tree.Put(x, y, y) || w.tree.Cut(x) || w.tree.Copy(x) != -1 || w.tree.Move(x, y) || w.tree.Move(y, x) || w.tree.Write(x, y, "x") || x != -1 && w.tree.Write(y, x, "x") {
				t.Errorf("with %d and %d something is done", x, y)
			}
			for _, z := range numbers {
				if w.tree.Put(x, z, y) || w.tree.Put(y, x, z) || w.tree.Put(z, y, x) || w.tree.Put(x, z, x) || w.tree.Move(x, z) || w.tree.Write(x, z, "x") || w.tree.Write(x, z, "") {
					t.Errorf("with %d, %d and %d something is done", x, y, z)
				}
			}
		}
	}
	w.hold(t)
}

// different are nodes of which no two are the same.
func different() []api.Node {
	x, y := text("x"), text("y")
	l := []api.Node{
		x, y, text(""), text("xy"), note("x"), note("y"), note(""),
		elem("x"), elem("y"), elem(""), elem("X"), in(api.SpaceSVG, elem("x")), in(api.SpaceMath, elem("x")), in(3, elem("x")),
		elem("x", "a", "b"), elem("x", "a", "c"), elem("x", "b", "a"), elem("x", "a", ""), elem("x", "a", "b", "c", "d"), elem("x", "c", "d", "a", "b"), elem("x", "a", "b", "a", "b"), elem("x", "", ""),
		of(elem("x"), x), of(elem("x"), y), of(elem("x"), x, y), of(elem("x"), y, x), of(elem("x"), x, x), of(elem("x"), note("x")), of(elem("x"), elem("x")), of(elem("x"), of(elem("x"), x)), of(elem("x"), of(elem("x"), y)), of(elem("x", "a", "b"), x), of(elem("x"), elem("x", "a", "b")), of(elem("x"), elem("x"), x), of(elem("x"), in(api.SpaceSVG, elem("x"))), of(elem("x"), api.Node{}), of(elem("x"), api.Node{Kind: 9}),
	}
	l = append(l, api.Node{})
	for kind := 4; kind < 256; kind++ {
		l = append(l, api.Node{Kind: uint8(kind)})
	}
	return l
}

// Two lists are the same just if they are so node by node, in their order.
func TestSame(t *testing.T) {
	l := different()
	for i, a := range l {
		for j, b := range l {
			if got := dom.Same([]api.Node{a}, []api.Node{b}); got != (i == j) {
				t.Errorf("Same of %+v and %+v: %v", a, b, got)
			}
		}
	}
	if !dom.Same(l, different()) || !dom.Same(nil, []api.Node{}) || !dom.Same([]api.Node{}, nil) || !dom.Same(nil, nil) {
		t.Errorf("lists that are the same are not")
	}
	for _, n := range l {
		if dom.Same(nil, []api.Node{n}) || dom.Same([]api.Node{n}, []api.Node{}) || dom.Same([]api.Node{n}, []api.Node{n, n}) || dom.Same([]api.Node{n, n}, []api.Node{n}) {
			t.Errorf("lists of more and of less of %+v are the same", n)
		}
		if !dom.Same([]api.Node{of(elem("a"), n)}, []api.Node{of(elem("a"), n)}) || dom.Same([]api.Node{of(elem("a"), n)}, []api.Node{of(elem("a"), n, n)}) || dom.Same([]api.Node{of(elem("a"))}, []api.Node{of(elem("a"), n)}) {
			t.Errorf("Same of elements with %+v", n)
		}
	}
	for i := 1; i < len(l); i++ {
		if dom.Same([]api.Node{l[0], l[i]}, []api.Node{l[i], l[0]}) || dom.Same([]api.Node{l[i-1], l[0]}, []api.Node{l[i], l[0]}) || dom.Same([]api.Node{l[0], l[i-1]}, []api.Node{l[0], l[i]}) {
			t.Errorf("Same of other orders, with %+v", l[i])
		}
	}
	none, empty := elem("a"), elem("a")
	none.Attrs, none.Kids, empty.Attrs, empty.Kids = nil, nil, []api.Attr{}, []api.Node{}
	if !dom.Same([]api.Node{none}, []api.Node{empty}) || !dom.Same([]api.Node{empty}, []api.Node{none}) {
		t.Errorf("a list that is nil and one that is empty are not the same")
	}
}

// What a kind does not have does not count.
func TestSameByKind(t *testing.T) {
	for kind := range 256 {
		a := full(uint8(kind))
		for n, change := range []func(*api.Node){
			func(b *api.Node) { b.Space = api.SpaceSVG },
			func(b *api.Node) { b.Name = "x" },
			func(b *api.Node) { b.Attrs = b.Attrs[:1] },
			func(b *api.Node) { b.Kids = nil },
			func(b *api.Node) { b.Text = "x" },
		} {
			b := full(uint8(kind))
			change(&b)
			want := kind != 1 && n < 4 || kind != 2 && kind != 3 && n == 4
			if dom.Same([]api.Node{a}, []api.Node{b}) != want || dom.Same([]api.Node{b}, []api.Node{a}) != want {
				t.Errorf("Same of kind %d, with change %d, is not %v", kind, n, want)
			}
		}
	}
}

// printed is Print, by the chapter's words.
func printed(l []api.Node, deep int) string {
	ahead, s := strings.Repeat(" ", 2*deep), ""
	for _, n := range l {
		switch n.Kind {
		case 1:
			name := n.Name
			if n.Space == 1 {
				name = "svg " + name
			}
			if n.Space == 2 {
				name = "math " + name
			}
			s += ahead + "<" + name + ">\n"
			for _, a := range n.Attrs {
				s += ahead + "  " + a.Name + `="` + a.Value + "\"\n"
			}
			s += printed(n.Kids, deep+1)
		case 2:
			s += ahead + `"` + n.Text + "\"\n"
		case 3:
			s += ahead + "<!-- " + n.Text + " -->\n"
		}
	}
	return s
}

func TestPrint(t *testing.T) {
	for want, l := range map[string][]api.Node{
		"":                           nil,
		"<a>\n":                      {elem("a")},
		"<svg a>\n":                  {in(api.SpaceSVG, elem("a"))},
		"<math a>\n":                 {in(api.SpaceMath, elem("a"))},
		"<a>\n  b=\"c\"\n  d=\"\"\n": {elem("a", "b", "c", "d", "")},
		"\"a\"\n":                    {text("a")},
		"\"\"\n<!--  -->\n":          {text(""), note("")},
		"<!-- a -->\n":               {note("a")},
		"\"a\n\"b\"\n":               {text("a\n\"b")},
		"<!-- a\n-->b -->\n":         {note("a\n-->b")},
		"<a>\n  b=\"\"c\n\"\n":       {elem("a", "b", "\"c\n")},
		"<>\n  =\"\"\n":              {elem("", "", "")},
		"<a>\n  b=\"c\"\n  <d>\n    \"e\"\n    <svg f>\n      g=\"h\"\n  <!-- i -->\n\"j\"\n": {of(elem("a", "b", "c"), of(elem("d"), text("e"), in(api.SpaceSVG, elem("f", "g", "h"))), note("i")), text("j")},
	} {
		if got := dom.Print(l); got != want {
			t.Errorf("Print: %q, want %q", got, want)
		}
	}
	l := different()
	for kind := range 256 {
		l = append(l, full(uint8(kind)), of(elem("a"), full(uint8(kind))))
	}
	for space := range 256 {
		l = append(l, in(uint8(space), of(elem("a", "b", "c"), in(uint8(space), elem("d")))))
	}
	if got := dom.Print(l); got != printed(l, 0) {
		t.Errorf("Print: %s", brief(got))
	}
	for _, n := range l {
		if got, want := dom.Print([]api.Node{n, n}), printed([]api.Node{n, n}, 0); got != want {
			t.Errorf("Print of %+v twice: %q, want %q", n, got, want)
		}
	}
	if got := dom.Print([]api.Node{{}, full(4), full(255)}); got != "" {
		t.Errorf("Print of kinds that are none: %q", got)
	}
}

// outside says whether a string has no byte of a text's memory.
func outside(part, text string) bool {
	if part == "" || text == "" {
		return true
	}
	from, first := uintptr(unsafe.Pointer(unsafe.StringData(part))), uintptr(unsafe.Pointer(unsafe.StringData(text)))
	return from+uintptr(len(part)) <= first || first+uintptr(len(text)) <= from
}

// parts are all strings of some nodes.
func parts(l []api.Node) []string {
	var out []string
	for _, n := range l {
		out = append(out, n.Name, n.Text)
		for _, a := range n.Attrs {
			out = append(out, a.Name, a.Value)
		}
		out = append(out, parts(n.Kids)...)
	}
	return out
}

// What is handed in is not kept: neither its lists nor its texts.
func TestKeepsNothing(t *testing.T) {
	tree := dom.New()
	name, value, word, more := strings.Clone("name"), strings.Clone("value"), strings.Clone("word"), strings.Clone("more")
	attrs := []api.Attr{{Name: name, Value: value}, {Name: "hidden", Value: "hidden"}}
	n := api.Node{Kind: api.NodeElem, Name: name, Attrs: attrs[:1], Kids: []api.Node{text("x")}}
	tree.Put(0, -1, tree.Make(n))
	tree.Put(0, -1, tree.Make(text(word)))
	tree.Write(0, -1, more)
	tree.Write(0, 1, more)
	attrs[0], attrs[1] = api.Attr{Name: "other", Value: "other"}, api.Attr{Name: "other", Value: "other"}
	n.Kids[0] = text("y")
	want := []api.Node{text("more"), elem("name", "value", "value"), text("wordmore")}
	want[1].Attrs[0].Name = "name"
	got := tree.Whole(0)
	if !equal(got, want) {
		t.Fatalf("%+v", got)
	}
	for _, part := range parts(got) {
		for _, s := range []string{name, value, word, more} {
			if !outside(part, s) {
				t.Errorf("%q is in the memory of what was handed in", part)
			}
		}
	}
	if attrs[1].Name != "other" || len(n.Attrs) != 1 {
		t.Errorf("what was handed in is changed")
	}
}

// Nor is their memory: what is written over it later is not seen.
func TestKeepsNoMemory(t *testing.T) {
	bytes := []byte("name")
	name := unsafe.String(&bytes[0], len(bytes))
	tree := dom.New()
	for _, n := range []api.Node{elem(name, name, name), note(name), text(name)} {
		tree.Put(0, -1, tree.Make(n))
	}
	tree.Write(0, -1, name)
	tree.Write(1, -1, name)
	copy(bytes, "xxxx")
	want := []api.Node{of(elem("name", "name", "name"), text("name")), note("name"), text("namename")}
	if got := tree.Whole(0); name != "xxxx" || !equal(got, want) {
		t.Errorf("%+v", got)
	}
}

// What comes out is nobody's but the one's who asked.
func TestAnswersAreNew(t *testing.T) {
	tree := dom.New()
	for _, n := range []api.Node{elem("first", "name", "value", "other", "thing"), elem("second", "name", "value"), note("third"), text("fourth")} {
		tree.Make(n)
	}
	for n := 1; n < 5; n++ {
		tree.Put(n/3, -1, n)
	}
	first, second := tree.Whole(0), tree.Whole(0)
	want := []api.Node{of(elem("first", "name", "value", "other", "thing"), note("third"), text("fourth")), elem("second", "name", "value")}
	if !equal(first, want) || !equal(second, want) {
		t.Fatalf("%+v, then %+v", first, second)
	}
	for n, part := range parts(first) {
		if other := parts(second)[n]; !outside(part, other) {
			t.Errorf("%q is in the memory that was told before", part)
		}
	}
	// Lists of one answer, and what lies behind them, are each by themselves.
	_ = append(first[0].Attrs, api.Attr{Name: "x"})
	_ = append(first[0].Attrs[:1], api.Attr{Name: "x"})
	_ = append(first[0].Kids[:1], elem("x"))
	_ = append(first[0].Kids, elem("x"))
	if !equal(first[1:], want[1:]) || !equal(second, want) {
		t.Errorf("lists share their memory: %+v", second)
	}
	first[0].Kids[0].Text, first[1].Attrs[0], first[1] = "x", api.Attr{}, api.Node{}
	kids, again := tree.Kids(1), tree.Kids(1)
	_ = append(kids[:1], 17)
	kids[0] = 18
	if !slices.Equal(again, []int{3, 4}) || !slices.Equal(tree.Kids(1), again) || !equal(tree.Whole(0), want) || !equal(second, want) {
		t.Errorf("the tree hangs on what was told: %v, %+v", tree.Kids(1), tree.Whole(0))
	}
	// Nor does what was told hang on the tree.
	for range 10 {
		tree.Write(1, -1, "more")
	}
	tree.Move(1, 2)
	tree.Cut(2)
	if !equal(second, want) || !slices.Equal(again, []int{3, 4}) {
		t.Errorf("what was told hangs on the tree: %+v", second)
	}
}

// Same and Print change nothing, and look at nothing that lies behind a list's length.
func TestListsAreLeftAlone(t *testing.T) {
	l := append(different(), full(1), full(2), full(9))
	if !dom.Same(l, append(different(), full(1), full(2), full(9))) || dom.Print(l) != printed(append(different(), full(1), full(2), full(9)), 0) || !equal(l, append(different(), full(1), full(2), full(9))) {
		t.Errorf("the list is changed")
	}
	a, b := full(1), full(1)
	a.Attrs, a.Kids = append(a.Attrs, api.Attr{Name: "x"})[:2], append(a.Kids, text("x"))[:2]
	b.Attrs, b.Kids = append(b.Attrs, api.Attr{Name: "y"})[:2], append(b.Kids, text("y"))[:2]
	x, y := []api.Node{a, text("x")}[:1], []api.Node{b, text("y")}[:1]
	if !dom.Same(x, y) || dom.Print(x) != printed([]api.Node{full(1)}, 0) || dom.Print(x) != dom.Print(y) {
		t.Errorf("Print: %q, %q", dom.Print(x), dom.Print(y))
	}
	if x[:2][1].Text != "x" || a.Attrs[:3][2].Name != "x" || a.Kids[:3][2].Text != "x" {
		t.Errorf("what lies behind a list is changed")
	}
	name := strings.Clone("name")
	if got := dom.Print([]api.Node{elem(name), text(name)}); !outside(got, name) {
		t.Errorf("%q is in the memory of what was handed in", got)
	}
}

// Trees know nothing of one another.
func TestTreesAreApart(t *testing.T) {
	one, two := newTwin(), newTwin()
	for n, s := range []step{
		{call: "Make", node: elem("a")}, {call: "Make", node: elem("b")}, {call: "Put", b: -1, c: 1}, {call: "Put", a: 1, b: -1, c: 2}, {call: "Write", a: 2, b: -1, text: "x"}, {call: "Copy", a: 2}, {call: "Cut", a: 1}, {call: "Move", a: 2, b: 0}, {call: "Put", a: 4, b: -1, c: 1},
	} {
		one.do(t, s)
		two.hold(t)
		if n%2 == 0 {
			two.do(t, s)
		}
		one.hold(t)
	}
}

// Very many kids stand in their order, and go from wherever they stand, none of them slower than the one ahead.
func TestManyKids(t *testing.T) {
	const many = 1 << 18
	tree, first, want := dom.New(), -1, make([]int, many)
	for n := range many / 2 {
		early, late := tree.Make(elem("a")), tree.Make(note("b"))
		if !tree.Put(0, first, early) || !tree.Put(0, -1, late) {
			t.Fatalf("Put of %d and %d", early, late)
		}
		if n == 0 {
			tree.Put(0, late, early)
		}
		first, want[many/2-1-n], want[many/2+n] = early, early, late
	}
	if got := tree.Kids(0); !slices.Equal(got, want) {
		t.Fatalf("%d kids, %s", len(got), brief(got))
	}
	for n := range many / 4 {
		if !tree.Write(0, 1, "c") || !tree.Put(0, 2, tree.Make(elem("d"))) || !tree.Cut(want[n]) || !tree.Cut(want[many-1-n]) {
			t.Fatalf("in the middle, of many: %d", n)
		}
	}
	got := tree.Kids(0)
	if len(got) != many/2+1+many/4 || got[0] != want[many/4] || got[many/4-1] != many+1 || got[many/4] != 1 || got[len(got)-1] != want[many-1-many/4] {
		t.Errorf("%d kids, %s", len(got), brief(got))
	}
	if whole := tree.Whole(0); len(whole) != len(got) || !dom.Same(whole, tree.Whole(0)) || whole[many/4-1].Text != strings.Repeat("c", many/4) {
		t.Errorf("%d nodes", len(whole))
	}
	to := tree.Make(elem("e"))
	if !tree.Move(0, to) || !slices.Equal(tree.Kids(to), got) || tree.Kids(0) != nil || tree.Move(0, to) || !tree.Move(to, 0) || !slices.Equal(tree.Kids(0), got) {
		t.Errorf("Move of many: %s", brief(tree.Kids(0)))
	}
	for _, id := range got {
		if !tree.Cut(id) {
			t.Fatalf("Cut of %d", id)
		}
	}
	if tree.Kids(0) != nil || tree.Whole(0) != nil {
		t.Errorf("kids are left: %s", brief(tree.Kids(0)))
	}
}

// A text that is written piece by piece takes no longer for what stands in it.
func TestManyPieces(t *testing.T) {
	const many = 1 << 20
	tree := dom.New()
	tree.Put(0, -1, tree.Make(elem("a")))
	for range many {
		if !tree.Write(0, 1, "ab") || !tree.Write(0, -1, "c") || !tree.Write(1, -1, "\xff") {
			t.Fatal("Write")
		}
	}
	want := []api.Node{text(strings.Repeat("ab", many)), of(elem("a"), text(strings.Repeat("\xff", many))), text(strings.Repeat("c", many))}
	if got := tree.Whole(0); !equal(got, want) || tree.Make(elem("b")) != 5 {
		t.Errorf("of many pieces: %s", brief(got))
	}
}

// A tree may be very deep, and is no slower for it.
func TestDeep(t *testing.T) {
	for _, deep := range []int{1 << 12, 1 << 18} {
		tree := dom.New()
		for n := range deep {
			if !tree.Put(n, -1, tree.Make(elem("a"))) {
				t.Fatalf("Put into %d", n)
			}
		}
		for range deep {
			if !tree.Write(deep, -1, "b") || !tree.Put(deep, -1, tree.Make(note("c"))) {
				t.Fatal("what is deepest takes no more")
			}
		}
		if tree.Put(deep, -1, 1) || tree.Move(1, deep) || tree.Move(deep-1, deep) || tree.Put(deep, -1, deep-1) || tree.Parent(deep) != deep-1 {
			t.Errorf("a node stands within itself, %d deep", deep)
		}
		one, two := tree.Whole(0), tree.Whole(0)
		if !dom.Same(one, two) {
			t.Errorf("trees %d deep are not the same", deep)
		}
		tree.Write(deep, -1, "d")
		if dom.Same(one, tree.Whole(0)) || !dom.Same(one, two) {
			t.Errorf("trees that differ %d deep are the same", deep)
		}
	}
	var l []api.Node
	var want strings.Builder
	for n := range 1 << 12 {
		l = []api.Node{of(elem("a"), l...)}
		want.WriteString(strings.Repeat("  ", n) + "<a>\n")
	}
	if got := dom.Print(l); got != want.String() {
		t.Errorf("Print of a deep tree: %s", brief(got))
	}
}
