package ring

import (
	"bytes"
	"testing"
)

// 12: a piece ends where its bytes end: what is appended to it comes over no byte behind it.
func TestPiecesEnd(t *testing.T) {
	for place := 0; place < 64; place += step {
		for n := 0; n <= 64; n++ {
			s := make(store, 64)
			front, back := s.pieces(place, n)
			if len(front)+len(back) != n || len(front) > 64-place || cap(front) != len(front) || cap(back) != len(back) {
				t.Errorf("pieces(%d, %d): %d bytes of %d, and %d of %d", place, n, len(front), cap(front), len(back), cap(back))
			}
			_ = append(front, "over"...)
			_ = append(back, "over"...)
			if !bytes.Equal(s, make(store, 64)) {
				t.Errorf("pieces(%d, %d): the store is %x", place, n, []byte(s))
			}
		}
	}
}

// 12: a record's head and bytes are read as they were written, at each place, and no byte beside them is touched.
func TestRecordBack(t *testing.T) {
	for place := 0; place < 64; place += step {
		for size := 1; size <= 56; size++ {
			for state := held; state <= discarded; state++ {
				s := store(bytes.Repeat([]byte{0xee}, 64))
				text := string(bytes.Repeat([]byte{0x77}, size))
				s.setHead(place, head{size, state})
				s.setText(place, text)
				if got := s.head(place); got != (head{size, state}) {
					t.Errorf("head at %d: %v; want %d, %d", place, got, size, state)
				}
				if got := s.text(place); got != text {
					t.Errorf("text at %d: %x; want %d bytes", place, got, size)
				}
				if n := bytes.Count(s, []byte{0xee}); n != 64-step-size {
					t.Errorf("a record of %d bytes at %d: %x", size, place, []byte(s))
				}
			}
		}
	}
}

// 12: a head has room for the greatest record.
func TestHeadOfMost(t *testing.T) {
	s := make(store, mostBytes)
	for _, h := range []head{{255, submitted}, {256, discarded}, {mostBytes/2 - 1, held}, {mostBytes / 2, submitted}, {1, held}} {
		s.setHead(mostBytes-step, h)
		if got := s.head(mostBytes - step); got != h {
			t.Errorf("head: %v; want %v", got, h)
		}
	}
}
