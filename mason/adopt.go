package mason

import (
	"arbour/active"
	"arbour/api"
	"arbour/names"
	"arbour/open"
)

const (
	tries = 8 // how often one End is taken
	near  = 3 // how many elements of formatting above the one that ends are made anew
)

// isOpen tells whether an element is.
func (m *Mason) isOpen(h int) bool { return m.open.Place(h) >= 0 }

// reconstruct opens again the formatting that goes on.
func (m *Mason) reconstruct() {
	for i := m.active.From(m.isOpen); i < m.active.Len(); i++ {
		x, _ := m.active.At(i)
		m.active.Replace(x.H, m.insert(x.Name, x.Attrs).H)
	}
}

// adopt ends formatting of a name, though other elements may have begun within it, and goes on in those.
func (m *Mason) adopt(name string) {
	if x, _ := m.open.Top(); isOf(x, name) && m.active.Place(x.H) < 0 {
		m.open.Pop()
		return
	}
	for range tries {
		if !m.adoptLast(name) {
			return
		}
	}
}

// adoptLast ends the last formatting of a name, and tells whether there may be more to do.
func (m *Mason) adoptLast(name string) bool {
	f, ok := m.active.Find(name)
	if !ok {
		m.endAny(name)
		return false
	}
	at := m.open.Place(f.H)
	if at < 0 {
		m.active.Remove(f.H)
		return false
	}
	if !m.open.hasInScope(f.H) {
		return false
	}
	b := m.firstSpecial(at)
	if b < 0 {
		m.open.cut(at)
		m.active.Remove(f.H)
		return false
	}
	m.adoptAround(f, at, b)
	return true
}

// firstSpecial tells the place of the first Special element above a place; -1 of none.
func (m *Mason) firstSpecial(above int) int {
	for i := above + 1; i < m.open.Len(); i++ {
		if x, _ := m.open.At(i); names.Special(x.NS, x.Name) {
			return i
		}
	}
	return -1
}

// adoptAround takes the Special element at the place b out of the formatting f at the place at, and has f go on within it.
func (m *Mason) adoptAround(f active.Entry[int], at, b int) {
	below, _ := m.open.At(at - 1)
	block, _ := m.open.At(b)
	outer, mark := m.chain(f.H, block, b)
	m.move(outer, m.foster(below))
	anew := m.create(api.HTML, f.Name, f.Attrs)
	m.arena.Move(block.H, anew.H)
	m.arena.Append(block.H, anew.H)
	mark -= m.forget(f.H, mark)
	m.active.Put(mark, anew.H, f.Name, f.Attrs)
	m.open.Remove(f.H)
	m.open.After(block.H, anew)
}

// chain makes anew what formatting stands between f and the block at the place b, each within the one below, and tells the outermost, and the mark.
func (m *Mason) chain(f int, block open.Item[int], b int) (outer, mark int) {
	outer, mark = block.H, m.active.Place(f)
	for i, count := b-1, 1; ; i, count = i-1, count+1 {
		n, _ := m.open.At(i)
		if n.H == f {
			return outer, mark
		}
		if count > near {
			mark -= m.forget(n.H, mark)
		}
		place := m.active.Place(n.H)
		if place < 0 {
			m.open.Remove(n.H)
			continue
		}
		x, _ := m.active.At(place)
		anew := m.create(api.HTML, x.Name, x.Attrs)
		m.open.Replace(n.H, anew)
		m.active.Replace(n.H, anew.H)
		if outer == block.H {
			mark = place + 1
		}
		m.move(outer, spot{parent: anew.H})
		outer = anew.H
	}
}

// forget removes an entry of the active list, if it is there, and tells by how much a mark goes down because of that.
func (m *Mason) forget(h, mark int) int {
	place := m.active.Place(h)
	m.active.Remove(h)
	if place >= 0 && place < mark {
		return 1
	}
	return 0
}
