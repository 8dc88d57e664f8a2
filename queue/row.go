package queue

// row is things in the order of their coming, within a ring of places.
type row[T any] struct {
	places []T // a place where nothing waits has T's zero value
	first  int // the oldest one's place
	count  int
}

// newRow answers a row that has room for most things.
func newRow[T any](most int) *row[T] { return &row[T]{places: make([]T, most)} }

// full tells whether there is no room.
func (r *row[T]) full() bool { return r.count == len(r.places) }

// place answers the place of the thing that came behind n others.
func (r *row[T]) place(n int) int { return (r.first + n) % len(r.places) }

// add makes thing the newest one; there must be room.
func (r *row[T]) add(thing T) {
	r.places[r.place(r.count)] = thing
	r.count++
}

// oldest answers the oldest one; there must be one.
func (r *row[T]) oldest() T { return r.places[r.first] }

// newest answers the newest one; there must be one.
func (r *row[T]) newest() T { return r.places[r.place(r.count-1)] }

// dropOldest takes the oldest one off; there must be one.
func (r *row[T]) dropOldest() {
	r.empty(r.first)
	r.first = r.place(1)
	r.count--
}

// dropNewest takes the newest one off; there must be one.
func (r *row[T]) dropNewest() {
	r.empty(r.place(r.count - 1))
	r.count--
}

// empty makes a place hold nothing, so that what went isn't kept.
func (r *row[T]) empty(place int) {
	var nothing T
	r.places[place] = nothing
}
