package scribe

import (
	"arbour/active"
	"arbour/api"
	"arbour/open"
)

const (
	tries = 8 // how often one End is taken
	near  = 3 // how many elements of formatting above the one that ends are made anew
)

// isOpen tells whether an element is.
func (s *Scribe) isOpen(h int) bool { return s.open.Place(h) >= 0 }

// reconstruct opens again the formatting that goes on.
func (s *Scribe) reconstruct() {
	for i := s.active.From(s.isOpen); i < s.active.Len(); i++ {
		x, _ := s.active.At(i)
		s.active.Replace(x.H, s.insert(x.Name, x.Attrs).H)
	}
}

// adopt ends formatting of a name, though other elements may have begun within it, and goes on in those.
func (s *Scribe) adopt(name string) {
	if x, _ := s.open.Top(); isOf(x, name) && s.active.Place(x.H) < 0 {
		s.open.Pop()
		return
	}
	for range tries {
		if !s.adoptLast(name) {
			return
		}
	}
}

// adoptLast ends the last formatting of a name, and tells whether there may be more to do.
func (s *Scribe) adoptLast(name string) bool {
	f, ok := s.active.Find(name)
	if !ok {
		s.anyEnd(name)
		return false
	}
	at := s.open.Place(f.H)
	if at < 0 {
		s.active.Remove(f.H)
		return false
	}
	if !s.open.hasInScope(f.H) {
		return false
	}
	b := s.open.special(at)
	if b < 0 {
		s.open.cut(at)
		s.active.Remove(f.H)
		return false
	}
	s.adoptAround(f, at, b)
	return true
}

// adoptAround takes the Special element at the place b out of the formatting f at the place at, and has f go on within it.
func (s *Scribe) adoptAround(f active.Entry[int], at, b int) {
	below, _ := s.open.At(at - 1)
	block, _ := s.open.At(b)
	outer, mark := s.chain(f.H, block, b)
	s.move(outer, s.under(below, true))
	anew := s.build(api.HTML, f.Name, f.Attrs)
	s.write(api.Op{Kind: api.Move, Ref: block.H, Parent: anew.H})
	s.put(anew.H, spot{parent: block.H})
	mark -= s.forget(f.H, mark)
	s.active.Put(mark, anew.H, f.Name, f.Attrs)
	s.open.Remove(f.H)
	s.open.After(block.H, anew)
}

// chain makes anew what formatting stands between f and the block at the place b, each within the one below, and tells the outermost, and the mark.
func (s *Scribe) chain(f int, block open.Item[int], b int) (outer, mark int) {
	outer, mark = block.H, s.active.Place(f)
	for i, count := b-1, 1; ; i, count = i-1, count+1 {
		n, _ := s.open.At(i)
		if n.H == f {
			return outer, mark
		}
		if count > near {
			mark -= s.forget(n.H, mark)
		}
		place := s.active.Place(n.H)
		if place < 0 {
			s.open.Remove(n.H)
			continue
		}
		x, _ := s.active.At(place)
		anew := s.build(api.HTML, x.Name, x.Attrs)
		s.open.Replace(n.H, anew)
		s.active.Replace(n.H, anew.H)
		if outer == block.H {
			mark = place + 1
		}
		s.move(outer, spot{parent: anew.H})
		outer = anew.H
	}
}

// forget removes an entry of the active list, if it is there, and tells by how much a mark goes down because of that.
func (s *Scribe) forget(h, mark int) int {
	place := s.active.Place(h)
	s.active.Remove(h)
	if place >= 0 && place < mark {
		return 1
	}
	return 0
}
