package place_test

import (
	"fmt"
	"slices"
	"strings"
	"testing"
	"time"
	"unsafe"

	"tympan/api"
	"tympan/place"
)

// TestKeeps shows that nothing that is handed in is changed or kept.
func TestKeeps(t *testing.T) {
	bytes := []byte("name text note")
	name, words, remark := unsafe.String(&bytes[0], 4), unsafe.String(&bytes[5], 4), unsafe.String(&bytes[10], 4)
	room := attrs("x=1", "encoding=text/html", "y=2")
	token := api.Token{Kind: api.TokStart, Name: name, Attrs: room[:1]}
	w := place.New()
	w.Insert(api.SpaceHTML, token)
	w.Write(words)
	w.Note(remark)
	if token.Name != "name" || len(token.Attrs) != 1 || !slices.Equal(room, attrs("x=1", "encoding=text/html", "y=2")) || string(bytes) != "name text note" {
		t.Error("changed", token, room)
	}
	w.Insert(api.SpaceMath, api.Token{Name: "annotation-xml", Attrs: room[:1]})
	if w.Current().Point != api.PointNone {
		t.Error("what lies behind the attributes tells something")
	}
	w.Close(1)
	room[0] = api.Attr{Name: "spoilt"}
	copy(bytes, "spoilt spoilt ")
	n, m := elem("name"), elem("math annotation-xml")
	m.Attrs = attrs("x=1")
	n.Attrs, n.Kids = attrs("x=1"), []api.Node{text("text"), note("note"), m}
	stands(t, w, n)

	w = place.New()
	copy(bytes, "name")
	w.Insert(api.SpaceHTML, api.Token{Name: name})
	copy(bytes, "eman")
	if w.Current().Name != "name" {
		t.Error("a name is kept in Open")
	}
}

// TestBehind shows that what lies behind the lists is neither asked for nor written nor handed out.
func TestBehind(t *testing.T) {
	w := world("b div table p")
	all := slices.Clone(w.Open)
	was := slices.Clone(all)
	formats := []api.Mark{{ID: 1, Name: "b", Attrs: attrs("x=1")}, {ID: 9, Name: "i"}, {ID: -1}, {ID: 8, Name: "u"}}
	for n := 1; n <= len(all); n++ {
		for _, foster := range []bool{false, true} {
			for _, do := range []func(){
				func() { w.Insert(api.SpaceHTML, start("p")) }, func() { w.Write("x") }, func() { w.Note("x") }, func() { w.Rebuild() },
				func() { w.Close(1) }, func() { w.Close(n) }, func() { w.Close(n + 1) }, func() { w.Drop(1) }, func() { w.Drop(4) },
				func() { w.Close(2); w.Insert(api.SpaceHTML, start("p")) }, func() { w.Drop(2); w.Insert(api.SpaceHTML, start("p")) },
			} {
				w.Open, w.Marks, w.Foster = all[:n], formats[:2], foster
				do()
				if !slices.Equal(all, was) {
					t.Fatal("a list that was set is written into", all)
				}
				if formats[0].ID != 1 || formats[1].ID != 9 || formats[2].ID != -1 || formats[3].ID != 8 {
					t.Fatal("marks that were set are written into", formats)
				}
				if len(w.Open) == n && &w.Open[0] == &all[0] {
					continue // nothing was done to it
				}
				for _, e := range w.Open[len(w.Open):cap(w.Open)] {
					if e != (api.Open{}) {
						t.Fatal("handed out", e)
					}
				}
			}
		}
	}
	w = world("div table p")
	w.Foster = true
	w.Open = w.Open[:2]
	isWhere(t, w, api.Open{ID: 9, Name: "tr"}, 0, -1)
	w.Marks = []api.Mark{{ID: 1, Name: "a"}, {ID: 2, Name: "b"}, {ID: 3, Name: "c"}}[:2]
	w.Rebuild()
	isOpen(t, w, "html0 div1 b4")
	if len(w.Marks) != 2 || w.Marks[0].ID != 1 || w.Marks[1].ID != 4 {
		t.Error("marks", w.Marks)
	}
}

// TestHeld shows that a list that was read off a world stays as it was, whatever is done to the world.
func TestHeld(t *testing.T) {
	w := world("b i u table tr")
	w.Marks = []api.Mark{{ID: 1, Name: "b"}, {ID: 2, Name: "i"}, {ID: 3, Name: "u"}}
	type held struct {
		open, wasOpen   []api.Open
		marks, wasMarks []api.Mark
	}
	var all []held
	for i, do := range []func(){
		func() { w.Close(2) }, func() { w.Insert(api.SpaceHTML, start("p")) }, func() { w.Rebuild() }, func() { w.Drop(w.Open[2].ID) }, func() { w.Insert(api.SpaceSVG, start("a")) },
		func() { w.Drop(w.Current().ID) }, func() { w.Insert(api.SpaceHTML, start("q")) }, func() { w.Close(1) }, func() { w.Rebuild() }, func() { w.Close(3) }, func() { w.Insert(api.SpaceHTML, start("s")) },
	} {
		all = append(all, held{w.Open, slices.Clone(w.Open), w.Marks, slices.Clone(w.Marks)})
		_ = append(w.Open, api.Open{ID: 77, Name: "spoilt"})
		do()
		for j, h := range all {
			if !slices.Equal(h.open, h.wasOpen) || !sameMarks(h.marks, h.wasMarks) {
				t.Fatalf("step %d writes into what stood there ahead of step %d", i, j)
			}
		}
		if strings.Contains(opened(w.Open), "spoilt") {
			t.Fatal("what was put behind a list has come into it")
		}
	}
}

// TestApart shows that the attributes of marks and of nodes are not the same memory, and that worlds know nothing of one another.
func TestApart(t *testing.T) {
	w, other := world("b p"), world("b p")
	w.Marks = []api.Mark{{ID: 9, Name: "i", Attrs: attrs("x=1")}, {ID: 8, Name: "u", Attrs: attrs("y=1")}}
	w.Rebuild()
	w.Marks[0].Attrs[0].Value, w.Marks[1].Name, w.Open[3].Name = "spoilt", "spoilt", "spoilt"
	i, u := elem("i"), elem("u")
	u.Attrs = attrs("y=1")
	i.Attrs, i.Kids = attrs("x=1"), []api.Node{u}
	stands(t, w, elem("b", elem("p", i)))
	w.Foster = true
	isOpen(t, other, "html0 b1 p2")
	stands(t, other, elem("b", elem("p")))
	if other.Foster || other.High != 3 || len(other.Marks) != 0 {
		t.Error("another world is changed")
	}
}

// TestMany opens as many elements as may stand in one another, and goes on there.
func TestMany(t *testing.T) {
	const deep = 1 << 12
	began := time.Now()
	w := place.New()
	for i := 1; i <= deep; i++ {
		if w.Insert(api.SpaceHTML, start("b")) != i {
			t.Fatal("its number")
		}
	}
	if len(w.Open) != deep+1 || w.High != deep+1 || w.Tree.Parent(deep) != deep-1 {
		t.Error("open", len(w.Open), w.High)
	}
	for range 2000 {
		w.Insert(api.SpaceHTML, start("i"))
		w.Write("x")
		w.Close(deep + 1)
	}
	if len(w.Open) != deep+1 || w.High != deep+2 || len(w.Tree.Kids(deep)) != 2000 {
		t.Error("in the inmost one")
	}
	for id := range deep / 2 {
		w.Drop(2 * id)
	}
	if len(w.Open) != deep/2+2 || w.Open[0].ID != 0 || w.Open[1].ID != 1 || w.Current().ID != deep {
		t.Error("dropped", len(w.Open))
	}
	w.Close(1)
	for i := range deep {
		w.Marks = append(w.Marks, api.Mark{ID: 1, Name: fmt.Sprint(i)})
	}
	w.Rebuild()
	if len(w.Open) != deep+1 || w.Current().Name != fmt.Sprint(deep-1) || w.Marks[deep-1].ID != w.Current().ID {
		t.Error("built again", len(w.Open))
	}
	long := strings.Repeat("x", 1<<20)
	w.Insert(api.SpaceMath, api.Token{Name: long, Attrs: slices.Repeat(attrs("x="+long), 20)})
	for range 1000 {
		w.Write(long[:1000])
	}
	w.Note(long)
	if len(w.Current().Name) != 1<<20 || len(w.Tree.Kids(w.Current().ID)) != 2 {
		t.Error("long names and texts")
	}
	if took := time.Since(began); took > 30*time.Second {
		t.Error("it took", took)
	}
}
