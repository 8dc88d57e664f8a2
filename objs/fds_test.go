package objs_test

import (
	"math"
	"slices"
	"testing"

	"portcullis/api"
	"portcullis/objs"
)

// The chapter's example.
func TestExample(t *testing.T) {
	x := objs.New()
	wantAdd(t, x, 5, 0, 1, api.OK)
	wantPin(t, x, "/a", 0, api.OK)
	wantClose(t, x, 0, api.OK)
	wantOpen(t, x, "/a", 0, api.OK)
	wantUnpin(t, x, "/a", api.OK)
	wantClose(t, x, 0, api.OK, 1)
	wantLive(t, x)
}

// 14.1: a new table has nothing.
func TestNew(t *testing.T) {
	x := objs.New()
	wantLive(t, x)
	for fd := range api.MaxFds {
		wantNoFd(t, x, fd)
	}
	for id := -2; id <= 70; id++ {
		wantNoId(t, x, id)
	}
	wantLive(t, x)
	wantAdd(t, x, 1, 0, 1, api.OK)
}

// 14.1: one table plays no part for another.
func TestNewApart(t *testing.T) {
	x, y := objs.New(), objs.New()
	wantAdd(t, x, 7, 0, 1, api.OK)
	wantPin(t, x, "/a", 0, api.OK)
	wantNoFd(t, y, 0)
	wantNoId(t, y, 1)
	wantOpen(t, y, "/a", 0, api.ErrNone)
	wantAdd(t, y, 8, 0, 1, api.OK)
	wantGet(t, x, 0, 7, 1, api.OK)
	wantClose(t, y, 0, api.OK, 1)
	wantLive(t, x, 1)
	wantLive(t, y)
}

// 14.1: a kind is any number, and Get tells it, of each fd of its object.
func TestAddKinds(t *testing.T) {
	kinds := []int{0, 1, 2, 3, 5, -1, -5, 63, 64, 255, 256, 1 << 32, -1 << 32, math.MaxInt, math.MinInt, 0, 1}
	x := objs.New()
	for i, kind := range kinds {
		wantAdd(t, x, kind, i, i+1, api.OK)
	}
	for i, kind := range kinds {
		wantGet(t, x, i, kind, i+1, api.OK)
		wantDup(t, x, i, len(kinds)+i, api.OK)
		wantGet(t, x, len(kinds)+i, kind, i+1, api.OK)
	}
	wantLive(t, x, upTo(len(kinds))...)
}

// 14.1: ids rise in the order of making, and none comes anew, whichever objects have died.
func TestAddNeverAnew(t *testing.T) {
	x := objs.New()
	for id := 1; id <= 3000; id++ { // the only one dies each time
		wantAdd(t, x, id, 0, id, api.OK)
		wantClose(t, x, 0, api.OK, id)
	}
	wantAdd(t, x, 0, 0, 3001, api.OK)
	wantAdd(t, x, 0, 1, 3002, api.OK)
	wantAdd(t, x, 0, 2, 3003, api.OK)
	wantClose(t, x, 2, api.OK, 3003) // the newest
	wantAdd(t, x, 0, 2, 3004, api.OK)
	wantClose(t, x, 0, api.OK, 3001) // the oldest
	wantAdd(t, x, 0, 0, 3005, api.OK)
	wantClose(t, x, 1, api.OK, 3002) // one in the midst
	wantAdd(t, x, 0, 1, 3006, api.OK)
	wantLive(t, x, 3004, 3005, 3006)
	wantPin(t, x, "/a", 1, api.OK)
	wantClose(t, x, 1, api.OK)
	wantUnpin(t, x, "/a", api.OK, 3006) // the newest, by its path
	wantAdd(t, x, 0, 1, 3007, api.OK)
	wantHold(t, x, 3007, api.OK)
	wantClose(t, x, 1, api.OK)
	wantDrop(t, x, 3007, api.OK, 3007) // the newest, by a Drop
	wantAdd(t, x, 0, 1, 3008, api.OK)
}

// 14.1: fds are given from the least one on, and where one in the midst was closed, that one, by each call that gives one.
func TestLeastFd(t *testing.T) {
	for fd := range api.MaxFds {
		x := with(t, api.MaxFds)
		wantPin(t, x, "/a", 9, api.OK)
		wantClose(t, x, fd, api.OK, dies(fd)...)
		wantAdd(t, x, 1, fd, 65, api.OK)
		wantGet(t, x, fd, 1, 65, api.OK)
		wantClose(t, x, fd, api.OK, 65)
		other := (fd + 1) % api.MaxFds
		wantDup(t, x, other, fd, api.OK)
		wantGet(t, x, fd, 101+other, other+1, api.OK)
		wantClose(t, x, fd, api.OK)
		wantOpen(t, x, "/a", fd, api.OK)
		wantGet(t, x, fd, 110, 10, api.OK)
	}
}

// dies is the ids that die when the fd of a table of TestLeastFd is closed: that of the object with a path lives.
func dies(fd int) []int {
	if fd == 9 {
		return nil
	}
	return []int{fd + 1}
}

// 14.1: of several free fds the least one is given, in whatever order they were closed.
func TestLeastFdOfSeveral(t *testing.T) {
	for _, closed := range [][]int{{3, 5, 9}, {9, 5, 3}, {5, 9, 3}, {0, 63, 31}, {63, 0}, {62, 63}, {1, 0}} {
		x := with(t, api.MaxFds)
		for _, fd := range closed {
			wantClose(t, x, fd, api.OK, fd+1)
		}
		for i, fd := range slices.Sorted(slices.Values(closed)) {
			if i%2 == 0 {
				wantAdd(t, x, 0, fd, 65+i/2, api.OK)
			} else {
				wantDup(t, x, 20, fd, api.OK)
			}
		}
		wantAdd(t, x, 0, 0, 0, api.ErrFd)
	}
}

// 14.1: there are 64 fds; an Add past them is ErrFd, and uses up no id.
func TestAddFull(t *testing.T) {
	x := with(t, api.MaxFds)
	for _, kind := range []int{0, 5, -1} {
		wantAdd(t, x, kind, 0, 0, api.ErrFd)
		wantLive(t, x, upTo(api.MaxFds)...)
		wantNoId(t, x, 65)
	}
	wantGet(t, x, 0, 101, 1, api.OK)
	wantGet(t, x, 63, 164, 64, api.OK)
	wantClose(t, x, 17, api.OK, 18)
	wantAdd(t, x, 6, 17, 65, api.OK)
	wantAdd(t, x, 6, 0, 0, api.ErrFd)
	wantClose(t, x, 17, api.OK, 65)
	wantAdd(t, x, 6, 17, 66, api.OK)
}

// 14.1: fds are what there are 64 of, not objects: without a fd there may be as many as one likes.
func TestManyObjects(t *testing.T) {
	const most = 1000
	x := objs.New()
	for id := 1; id <= most; id++ {
		wantAdd(t, x, -id, 0, id, api.OK)
		wantHold(t, x, id, api.OK)
		wantClose(t, x, 0, api.OK)
	}
	wantLive(t, x, upTo(most)...)
	for id := 1; id <= most; id++ {
		wantDrop(t, x, id, api.OK, id)
	}
	wantLive(t, x)
}

// 14.1: a fd that never was and numbers that none ever has are refused by each call, and nothing changes.
func TestNoFd(t *testing.T) {
	for _, n := range []int{0, 1, 2, 62, 63, 64} {
		x := with(t, n)
		for fd := n; fd < api.MaxFds; fd++ {
			wantNoFd(t, x, fd)
		}
		for _, fd := range noFds {
			wantNoFd(t, x, fd)
		}
		wantLive(t, x, upTo(n)...)
		for fd := range n {
			wantGet(t, x, fd, 101+fd, fd+1, api.OK)
		}
		for fd := range n {
			wantClose(t, x, fd, api.OK, fd+1)
		}
	}
}

// 14.1: a fd that was closed is none, also where its object lives; then it may lead to another one.
func TestClosedFd(t *testing.T) {
	x := with(t, 3)
	wantHold(t, x, 2, api.OK)
	wantClose(t, x, 1, api.OK)
	wantNoFd(t, x, 1)
	wantClose(t, x, 2, api.OK, 3)
	wantNoFd(t, x, 2)
	wantLive(t, x, 1, 2)
	wantDup(t, x, 0, 1, api.OK)
	wantGet(t, x, 1, 101, 1, api.OK)
	wantNoFd(t, x, 2)
	wantDrop(t, x, 2, api.OK, 2)
	wantGet(t, x, 1, 101, 1, api.OK)
}

// 14.1: the greatest fd is as the others.
func TestLastFd(t *testing.T) {
	x := with(t, 63)
	wantNoFd(t, x, 63)
	wantDup(t, x, 5, 63, api.OK)
	wantGet(t, x, 63, 106, 6, api.OK)
	wantPin(t, x, "/last", 63, api.OK)
	wantClose(t, x, 5, api.OK)
	wantDup(t, x, 63, 5, api.OK)
	wantClose(t, x, 63, api.OK)
	wantNoFd(t, x, 63)
	wantClose(t, x, 5, api.OK)
	wantOpen(t, x, "/last", 5, api.OK)
	wantGet(t, x, 5, 106, 6, api.OK)
}

// 14.1: a Dup's fd is as good as the first one: the object lives till the last one is closed, whichever that is.
func TestDup(t *testing.T) {
	for _, order := range [][]int{{0, 1, 2}, {0, 2, 1}, {1, 0, 2}, {1, 2, 0}, {2, 0, 1}, {2, 1, 0}} {
		x := with(t, 1)
		wantDup(t, x, 0, 1, api.OK)
		wantDup(t, x, 1, 2, api.OK) // of one that a Dup gave
		for _, fd := range []int{0, 1, 2} {
			wantGet(t, x, fd, 101, 1, api.OK)
		}
		wantClose(t, x, order[0], api.OK)
		wantNoFd(t, x, order[0])
		wantLive(t, x, 1)
		wantClose(t, x, order[1], api.OK)
		wantGet(t, x, order[2], 101, 1, api.OK)
		wantLive(t, x, 1)
		wantClose(t, x, order[2], api.OK, 1)
		wantLive(t, x)
	}
}

// 14.1: one object may have all fds; with none free Dup is ErrFd, of a fd that is used and of one that is none.
func TestDupFull(t *testing.T) {
	x := with(t, 1)
	for fd := 1; fd < api.MaxFds; fd++ {
		wantDup(t, x, fd-1, fd, api.OK)
	}
	for _, fd := range []int{0, 1, 31, 62, 63, -1, 64, math.MinInt, math.MaxInt} {
		wantDup(t, x, fd, 0, api.ErrFd)
	}
	for fd := range 63 {
		wantClose(t, x, fd, api.OK)
		wantDup(t, x, fd, 0, api.ErrFd) // it is none, though one is free
	}
	wantClose(t, x, 63, api.OK, 1) // 64 fds in all, no more and no less
}

// 14.1: what closing the last fd of an object does, by what else holds it; and what the object dies by then.
func TestCloseLast(t *testing.T) {
	for _, c := range []struct {
		fd, pin, hold bool
	}{
		{}, {fd: true}, {pin: true}, {hold: true},
		{fd: true, pin: true}, {fd: true, hold: true}, {pin: true, hold: true}, {fd: true, pin: true, hold: true},
	} {
		x := with(t, 3)
		left := 1 // what holds the object
		if c.fd {
			wantDup(t, x, 1, 3, api.OK)
			left++
		}
		if c.pin {
			wantPin(t, x, "/a", 1, api.OK)
			left++
		}
		if c.hold {
			wantHold(t, x, 2, api.OK)
			left++
		}
		// less is what an end of a holder must tell.
		less := func() []int {
			if left--; left == 0 {
				return []int{2}
			}
			return nil
		}
		wantClose(t, x, 1, api.OK, less()...)
		if c.fd {
			wantClose(t, x, 3, api.OK, less()...)
		}
		if c.pin {
			wantUnpin(t, x, "/a", api.OK, less()...)
		}
		if c.hold {
			wantDrop(t, x, 2, api.OK, less()...)
		}
		wantLive(t, x, 1, 3)
		wantNoId(t, x, 2)
		wantNoFd(t, x, 1)
		wantNoFd(t, x, 3)
		wantUnpin(t, x, "/a", api.ErrNone)
	}
}
