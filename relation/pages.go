package relation

import (
	"iter"
	"slices"
)

// pageSize bounds what one Add or Remove has to move.
const pageSize = 256

// pages are keys that rise within a page and from page to page; no page is empty.
type pages [][]key

// place is a key's: its page, and where in it.
type place struct {
	page, at int
}

// find tells where the first key that is not below k stands, or the place behind the last page; and whether it is k.
func (p pages) find(k key) (place, bool) {
	i, _ := slices.BinarySearchFunc(p, k, compareLast)
	if i == len(p) {
		return place{page: i}, false
	}
	at, found := slices.BinarySearchFunc(p[i], k, compare)
	return place{page: i, at: at}, found
}

func compareLast(page []key, k key) int {
	return compare(page[len(page)-1], k)
}

// insert lays k at the place that find told for it.
func (p *pages) insert(to place, k key) {
	if to.page == len(*p) {
		p.push(k)
		return
	}
	page := slices.Insert((*p)[to.page], to.at, k)
	(*p)[to.page] = page
	if len(page) > pageSize {
		p.split(to.page)
	}
}

// push lays k behind all others.
func (p *pages) push(k key) {
	last := len(*p) - 1
	if last < 0 || len((*p)[last]) == pageSize {
		*p = append(*p, []key{k})
		return
	}
	(*p)[last] = append((*p)[last], k)
}

// split makes two pages of one; each has memory of its own, for both of them may grow.
func (p *pages) split(i int) {
	page := (*p)[i]
	half := len(page) / 2
	(*p)[i] = page[:half]
	*p = slices.Insert(*p, i+1, slices.Clone(page[half:]))
}

func (p *pages) remove(at place) {
	page := slices.Delete((*p)[at.page], at.at, at.at+1)
	(*p)[at.page] = page
	if len(page) == 0 {
		*p = slices.Delete(*p, at.page, at.page+1)
	}
}

func (p pages) size() int {
	n := 0
	for _, page := range p {
		n += len(page)
	}
	return n
}

// from goes through the keys that are not below low, rising.
func (p pages) from(low key) iter.Seq[key] {
	return func(yield func(key) bool) {
		start, _ := p.find(low)
		for i := start.page; i < len(p); i++ {
			for _, k := range p[i][start.at:] {
				if !yield(k) {
					return
				}
			}
			start.at = 0
		}
	}
}

func (p pages) copied() pages {
	c := make(pages, len(p))
	for i, page := range p {
		c[i] = slices.Clone(page)
	}
	return c
}
