package near

import (
	"cmp"
	"slices"
	"strings"

	"paperchase/api"
	"paperchase/shape"
)

// Catalog keeps documents.
type Catalog struct {
	k    int
	docs []document // by id
}

// document is what a catalog keeps of a Body.
type document struct {
	id       string
	long     int // bytes of its Text
	shingles []string
}

// New returns an empty catalog.
func New(k int) (*Catalog, api.Errno) {
	if !isRun(k) {
		return nil, api.ErrArg
	}
	return &Catalog{k: k}, api.OK
}

// find returns the place that an id has or would have, and whether it is there.
func (c *Catalog) find(id string) (int, bool) {
	return slices.BinarySearchFunc(c.docs, id, func(d document, id string) int { return strings.Compare(d.id, id) })
}

// Add adds a document.
func (c *Catalog) Add(b api.Body) api.Errno {
	at, there := c.find(b.Id)
	switch {
	case !shape.Key(b.Id):
		return api.ErrName
	case len(b.Text) > api.MaxBody:
		return api.ErrLarge
	case there:
		return api.ErrTwice
	case len(c.docs) == api.MaxBodies || c.long()+len(b.Text) > api.MaxBodyBytes:
		return api.ErrFull
	}
	c.docs = slices.Insert(c.docs, at, document{b.Id, len(b.Text), shinglesOf(b.Text, c.k)})
	return api.OK
}

// long returns how many bytes all Texts have.
func (c *Catalog) long() int {
	sum := 0
	for _, d := range c.docs {
		sum += d.long
	}
	return sum
}

// Remove takes a document away.
func (c *Catalog) Remove(id string) api.Errno {
	at, there := c.find(id)
	if !there {
		return api.ErrNone
	}
	c.docs = slices.Delete(c.docs, at, at+1)
	return api.OK
}

// Near returns the documents that are like a string.
func (c *Catalog) Near(text string, least int) ([]api.Match, api.Errno) {
	if len(text) > api.MaxBody {
		return nil, api.ErrLarge
	}
	if !isPercent(least) {
		return nil, api.ErrArg
	}
	own := shinglesOf(text, c.k)
	var l []api.Match
	for _, d := range c.docs {
		if like := resemblance(own, d.shingles); atLeast(like, least) {
			l = append(l, api.Match{Id: d.id, Like: like})
		}
	}
	slices.SortFunc(l, func(x, y api.Match) int {
		return cmp.Or(compare(y.Like, x.Like), strings.Compare(x.Id, y.Id))
	})
	return l, api.OK
}

// Ids returns the Ids of all documents.
func (c *Catalog) Ids() []string {
	var l []string
	for _, d := range c.docs {
		l = append(l, d.id)
	}
	return l
}
