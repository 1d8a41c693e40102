package context

import (
	"strings"

	"arbour/api"
	"arbour/open"
)

// Reset tells the mode that the open elements ask for, the last of them first; template is the mode of a template, and head tells whether there is a head.
func Reset[H comparable](l *open.List[H], c *api.Context, template int, head bool) int {
	for i := count(l) - 1; i >= 0; i-- {
		ns, name := seen(l, c, i)
		if ns != api.HTML {
			continue
		}
		switch name {
		case "template":
			// Whatever number it is: these modes are kept elsewhere, and the list does not know them.
			return template
		case "html":
			if head {
				return AfterHead
			}
			return BeforeHead
		}
		if mode := within(name, i == 0); mode != 0 {
			return mode
		}
	}
	return InBody
}

// within tells the mode that stands within an element of that name; 0 where those below it say.
func within(name string, first bool) int {
	switch name {
	case "td", "th":
		// A fragment in a cell cannot close that cell, and one in a head not that head: both begin as in a body.
		if !first {
			return InCell
		}
	case "head":
		if !first {
			return InHead
		}
	case "tr":
		return InRow
	case "tbody", "tfoot", "thead":
		return InTableBody
	case "table":
		return InTable
	case "body":
		return InBody
	}
	return 0
}

// Foreign tells whether the current element, or what it stands for, is of SVG.
func Foreign[H comparable](l *open.List[H], c *api.Context) bool {
	ns, _ := current(l, c)
	return ns == api.SVG
}

// Adjusted tells NS and Name of the current element, or of the context that it stands for; nothing of an empty list.
func Adjusted[H comparable](l *open.List[H], c *api.Context) (int, string) {
	ns, name := current(l, c)
	// An answer shares no memory with what was handed in.
	return ns, strings.Clone(name)
}

// current tells the last one; nothing of an empty list.
func current[H comparable](l *open.List[H], c *api.Context) (int, string) {
	n := count(l)
	if n == 0 {
		return 0, ""
	}
	return seen(l, c, n-1)
}

// seen tells NS and Name of the i-th one, which is there. A fragment's first element stands for its context.
func seen[H comparable](l *open.List[H], c *api.Context, i int) (int, string) {
	if i == 0 && c != nil {
		return c.NS, c.Name
	}
	x, _ := l.At(i)
	return x.NS, x.Name
}

// count tells how many are open; of a nil list, on which nothing can be called, none.
func count[H comparable](l *open.List[H]) int {
	if l == nil {
		return 0
	}
	return l.Len()
}
