package tree

import (
	"scoria/api"
	"scoria/fault"
	"scoria/leaf"
)

// putter puts a node's bytes into a page.
type putter func(kind, key int, body string) (int, error)

// getter is what a page says.
type getter func(page int) (kind int, body string, err error)

// noPut and noGet stand for a function that is nil.
func noPut(int, int, string) (int, error) {
	return 0, api.ErrArg
}

func noGet(int) (int, string, error) {
	return 0, "", api.ErrArg
}

// write puts the nodes that are fresh, of a node and all below it.
func write(n node, put putter) error {
	if !isFresh(n) {
		return nil
	}
	for _, kid := range n.below() {
		if err := write(kid, put); err != nil {
			return err
		}
	}
	page, err := putOne(n, put)
	if err != nil {
		return fault.Wrap("write", n.first(), err)
	}
	n.stand(page)
	return nil
}

func putOne(n node, put putter) (int, error) {
	kind, body, e := n.bytes()
	// Only a put that answers what is no page, or one twice, brings this about.
	if e != api.OK {
		return 0, e
	}
	return put(kind, n.first(), body)
}

// anyKey is the Key of the top, which no node names.
const anyKey = -1

// sought is what is told of a node ahead of its being read: its page, its height, how many extents or kids it has at the least, and its first sector.
type sought struct {
	page  int
	high  int
	least int
	key   int
}

// fits tells whether a node of so many extents or kids, with this first sector, is the one that is sought.
func (s sought) fits(size, first int) bool {
	return size >= s.least && (s.key == anyKey || s.key == first)
}

func (s sought) wrap(err error) error {
	return fault.Wrap("read", s.page, err)
}

// read is the node, with all below it.
func (s sought) read(get getter) (node, error) {
	kind, body, err := get(s.page)
	if err != nil {
		return nil, s.wrap(err)
	}
	if s.high == 1 {
		return s.leaf(kind, body)
	}
	return s.inner(kind, body, get)
}

func (s sought) leaf(kind int, body string) (node, error) {
	l, e := leaf.ReadLeaf(body)
	if kind != api.PageLeaf || e != api.OK || !s.fits(len(l), l[0].From) {
		return nil, s.wrap(api.ErrForm)
	}
	return &bottom{spot{s.page}, l}, nil
}

func (s sought) inner(kind int, body string, get getter) (node, error) {
	l, e := leaf.ReadInner(body)
	if kind != api.PageInner || e != api.OK || !s.fits(len(l), l[0].Key) {
		return nil, s.wrap(api.ErrForm)
	}
	var kids []node
	for _, k := range l {
		kid, err := sought{page: k.At, high: s.high - 1, least: api.MinLeaf, key: k.Key}.read(get)
		if err != nil {
			return nil, err
		}
		kids = append(kids, kid)
	}
	return &inner{spot{s.page}, kids}, nil
}
