package dom

import (
	"slices"
	"strings"

	"tympan/api"
)

// Same says whether two lists of nodes are the same.
func Same(a, b []api.Node) bool {
	return slices.EqualFunc(a, b, alike)
}

// alike says whether two nodes are, by what their kind has.
func alike(a, b api.Node) bool {
	if a.Kind != b.Kind {
		return false
	}
	switch a.Kind {
	case api.NodeElem:
		return a.Space == b.Space && a.Name == b.Name && slices.Equal(a.Attrs, b.Attrs) && Same(a.Kids, b.Kids)
	case api.NodeText, api.NodeNote:
		return a.Text == b.Text
	}
	return true
}

// Print is nodes, a line each.
func Print(l []api.Node) string {
	p := printer{spaces: spaces()}
	p.nodes(l, 0)
	return p.out.String()
}

// space is what elements of a space are told by.
type space struct{ sign string }

// spaces are those whose elements have a sign ahead of their names.
func spaces() map[uint8]space {
	return map[uint8]space{api.SpaceSVG: {"svg "}, api.SpaceMath: {"math "}}
}

// printer writes nodes, line by line.
type printer struct {
	out    strings.Builder
	spaces map[uint8]space
}

// nodes writes some that stand so deep, and all that stands in them.
func (p *printer) nodes(l []api.Node, deep int) {
	for _, n := range l {
		switch n.Kind {
		case api.NodeElem:
			p.line(deep, "<", p.spaces[n.Space].sign, n.Name, ">")
			for _, a := range n.Attrs {
				p.line(deep+1, a.Name, `="`, a.Value, `"`)
			}
			p.nodes(n.Kids, deep+1)
		case api.NodeText:
			p.line(deep, `"`, n.Text, `"`)
		case api.NodeNote:
			p.line(deep, "<!-- ", n.Text, " -->")
		}
	}
}

// line writes one, with the blanks ahead of it.
func (p *printer) line(deep int, parts ...string) {
	for range deep {
		p.out.WriteString("  ")
	}
	for _, s := range parts {
		p.out.WriteString(s)
	}
	p.out.WriteByte('\n')
}
