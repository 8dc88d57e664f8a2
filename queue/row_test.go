package queue

import "testing"

// What went is not kept: its place is empty, on whichever side it went.
func TestRowKeepsNothing(t *testing.T) {
	for _, c := range []struct {
		what string
		drop func(r *row[string])
	}{
		{"dropOldest", (*row[string]).dropOldest},
		{"dropNewest", (*row[string]).dropNewest},
	} {
		r := newRow[string](3)
		for range 5 {
			r.add("a")
			r.add("b")
			c.drop(r)
			c.drop(r)
			for place, thing := range r.places {
				if thing != "" {
					t.Errorf("%s: place %d keeps %q", c.what, place, thing)
				}
			}
		}
	}
}
