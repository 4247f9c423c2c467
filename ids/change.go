package ids

import (
	"slices"

	"lockage/api"
)

// change is a table that is changed. Its memory is its own, so that no argument is modified.
type change struct{ slots }

// changeOf returns a change of a copy of t, which need not be valid.
func changeOf(t api.Table) *change {
	return &change{slots{api.Table{
		Gens: slices.Clone(t.Gens),
		Busy: slices.Clone(t.Busy),
		Free: slices.Clone(t.Free),
	}}}
}

// take makes the first free slot busy, of which there is one, and returns its id.
func (c *change) take() int {
	slot := c.Free[0]
	c.Free = c.Free[1:]
	c.Busy[slot] = true
	return c.id(slot)
}

// give frees the busy slot with that id and gives it another id.
func (c *change) give(id int) {
	slot := c.slot(id)
	c.Busy[slot] = false
	c.Gens[slot]++
	c.Free = append(c.Free, slot)
}
