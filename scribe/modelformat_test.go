package scribe

import (
	"slices"

	"arbour/api"
	"arbour/attrs"
	"arbour/names"
)

// push makes n the last entry, of which no more than three are alike behind the last marker.
func (m *model) push(n *node) {
	var alike []int
	for i := len(m.active) - 1; i >= 0 && m.active[i] != nil; i-- {
		if x := m.active[i]; x.name == n.name && attrs.Alike(x.attrs, n.attrs) {
			alike = append(alike, i)
		}
	}
	if len(alike) == 3 {
		m.active = slices.Delete(m.active, alike[2], alike[2]+1)
	}
	m.active = append(m.active, n)
}

func (m *model) clear() {
	for len(m.active) > 0 {
		x := m.active[len(m.active)-1]
		m.active = m.active[:len(m.active)-1]
		if x == nil {
			return
		}
	}
}

// find tells the last entry of that name behind the last marker; nil of none.
func (m *model) find(name string) *node {
	for i := len(m.active) - 1; i >= 0 && m.active[i] != nil; i-- {
		if m.active[i].name == name {
			return m.active[i]
		}
	}
	return nil
}

// forget removes the entry n, and tells its place; the greatest number of none.
func (m *model) forget(n *node) int {
	i := slices.Index(m.active, n)
	if i < 0 {
		return 1 << 30
	}
	m.active = slices.Delete(m.active, i, i+1)
	return i
}

// anew is an element like n.
func anew(n *node) *node {
	return &node{kind: api.Element, ns: n.ns, name: n.name, attrs: slices.Clone(n.attrs)}
}

func (m *model) reconstruct() {
	i := len(m.active)
	for i > 0 && m.active[i-1] != nil && !slices.Contains(m.open, m.active[i-1]) {
		i--
	}
	for ; i < len(m.active); i++ {
		m.active[i] = anew(m.active[i])
		m.insert(m.active[i])
	}
}

func (m *model) adopt(name string) {
	if x := m.current(); x.is(name) && !slices.Contains(m.active, x) {
		m.pop()
		return
	}
	for range 8 {
		f := m.find(name)
		if f == nil {
			m.anyEnd(name)
			return
		}
		at := slices.Index(m.open, f)
		if at < 0 {
			m.forget(f)
			return
		}
		if !m.scopeOf(f) {
			return
		}
		b := at + 1
		for b < len(m.open) && !names.Special(m.open[b].ns, m.open[b].name) {
			b++
		}
		if b == len(m.open) {
			m.open = m.open[:at]
			m.forget(f)
			return
		}
		m.adoptAround(f, at, b)
	}
}

func (m *model) adoptAround(f *node, at, b int) {
	block, below := m.open[b], m.open[at-1]
	last, mark := block, slices.Index(m.active, f)
	for count, i := 1, b-1; m.open[i] != f; count, i = count+1, i-1 {
		n := m.open[i]
		if count > 3 && m.forget(n) < mark {
			mark--
		}
		in := slices.Index(m.active, n)
		if in < 0 {
			m.remove(n)
			continue
		}
		x := anew(n)
		m.open[i], m.active[in] = x, x
		if last == block {
			mark = in + 1
		}
		m.detach(last)
		m.hang(last, x, nil)
		last = x
	}
	m.detach(last)
	up, ahead := m.place(below, true)
	m.hang(last, up, ahead)
	x := anew(f)
	x.kids, block.kids = block.kids, nil
	for _, kid := range x.kids {
		kid.up = x
	}
	m.hang(x, block, nil)
	if m.forget(f) < mark {
		mark--
	}
	m.active = slices.Insert(m.active, mark, x)
	m.remove(f)
	m.open = slices.Insert(m.open, slices.Index(m.open, block)+1, x)
}
