package clock

import "testing"

func TestClock(t *testing.T) {
	var c Clock
	if c.Now() != 0 {
		t.Errorf("the clock is %d at first", c.Now())
	}
	for want := 1; want <= 5; want++ {
		if time := c.Take(); time != want {
			t.Errorf("took %d, want %d", time, want)
		}
		if c.Now() != want || c.Now() != want {
			t.Errorf("the clock is %d behind %d", c.Now(), want)
		}
	}
}
