package objs

import (
	"maps"
	"slices"

	"portcullis/api"
)

// counts is the objects that are there, by their ids, each with the counts of what holds it.
type counts struct {
	objects map[int]*object
	made    int // the last id that was given; it never falls, so that no id comes twice
}

// object is one that is there: one of its counts is above 0.
type object struct {
	kind  int
	leads int // fds and paths that lead to it
	holds int // Holds that are open; they stand apart, as no Drop takes off what leads to it
}

// begin makes a new object, to which one fd leads, and answers its id.
func (c *counts) begin(kind int) int {
	if c.objects == nil {
		c.objects = map[int]*object{}
	}
	c.made++
	c.objects[c.made] = &object{kind: kind, leads: 1}
	return c.made
}

// kind answers the kind of an object, which must be there.
func (c *counts) kind(id int) int { return c.objects[id].kind }

// raise counts one more fd or path that leads to an object, which must be there.
func (c *counts) raise(id int) { c.objects[id].leads++ }

// lower counts one less, and answers the ids that die by that.
func (c *counts) lower(id int) []int {
	c.objects[id].leads--
	return c.settle(id)
}

// hold counts one more Hold.
func (c *counts) hold(id int) api.Errno {
	o := c.objects[id]
	if o == nil {
		return api.ErrArg
	}
	o.holds++
	return api.OK
}

// drop counts one less, and answers the ids that die by that.
func (c *counts) drop(id int) ([]int, api.Errno) {
	o := c.objects[id]
	if o == nil || o.holds == 0 {
		return nil, api.ErrArg
	}
	o.holds--
	return c.settle(id), api.OK
}

// settle lets an object that nothing holds any more die, and answers the ids that do.
func (c *counts) settle(id int) []int {
	if o := c.objects[id]; o.leads > 0 || o.holds > 0 {
		return nil
	}
	delete(c.objects, id)
	return []int{id}
}

// live answers the ids of all that are there, rising.
func (c *counts) live() []int { return slices.Sorted(maps.Keys(c.objects)) }
