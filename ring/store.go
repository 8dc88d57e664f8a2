package ring

// step is what records begin at multiples of, and how many bytes a head has. A ring's bytes are a multiple of it, too, so that no head is parted by their end.
const step = 8

// A record's states.
const (
	held = iota
	submitted
	discarded
)

// head is what stands ahead of a record's bytes.
type head struct{ size, state int }

// uses answers how many bytes a record of size bytes takes.
func uses(size int) int { return step + (size+step-1)/step*step }

// store is a ring's bytes; behind the last one comes the first one.
type store []byte

// behind answers the place that lies n bytes behind place.
func (s store) behind(place, n int) int { return (place + n) % len(s) }

// pieces answers the n bytes at place themselves: those up to the store's end, and those of them that lie at its beginning. Nothing that is appended to a piece can come over another record's bytes.
func (s store) pieces(place, n int) (front, back []byte) {
	end := min(place+n, len(s))
	rest := place + n - end
	return s[place:end:end], s[:rest:rest]
}

// head answers the head of the record that begins at place.
func (s store) head(place int) head {
	b, _ := s.pieces(place, step)
	h := head{state: int(b[step-1])}
	for i, x := range b[:step-1] {
		h.size |= int(x) << (8 * i)
	}
	return h
}

// setHead makes h the head of the record that begins at place.
func (s store) setHead(place int, h head) {
	b, _ := s.pieces(place, step)
	for i := range b[:step-1] {
		b[i] = byte(h.size >> (8 * i))
	}
	b[step-1] = byte(h.state)
}

// text answers the bytes of the record that begins at place.
func (s store) text(place int) string {
	b := make([]byte, s.head(place).size)
	front, back := s.pieces(s.behind(place, step), len(b))
	n := copy(b, front)
	copy(b[n:], back)
	return string(b)
}

// setText makes text, which must have as many bytes, those of the record that begins at place.
func (s store) setText(place int, text string) {
	front, back := s.pieces(s.behind(place, step), len(text))
	n := copy(front, text)
	copy(back, text[n:])
}
