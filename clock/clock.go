// Package clock gives out times.
package clock

// Clock is at 0 at first.
type Clock struct {
	now int
}

// Now tells the clock and takes no time from it.
func (c *Clock) Now() int { return c.now }

// Take takes a time: no other one is the same.
func (c *Clock) Take() int {
	c.now++
	return c.now
}
