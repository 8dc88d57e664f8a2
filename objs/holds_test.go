package objs_test

import (
	"math"
	"testing"

	"portcullis/api"
	"portcullis/objs"
)

// 14.1: Hold and Drop are ErrArg of an id that no object ever had, and change nothing.
func TestNoId(t *testing.T) {
	x := with(t, 3)
	for _, id := range []int{math.MinInt, -1 << 32, -3, -1, 0, 4, 5, 64, 65, 1 << 32, 1<<32 + 1, math.MaxInt} {
		wantNoId(t, x, id)
	}
	wantLive(t, x, 1, 2, 3)
	wantAdd(t, x, 0, 3, 4, api.OK) // the id that was refused ahead of its making
	wantDrop(t, x, 4, api.ErrArg)  // and of which no Hold was kept
	wantClose(t, x, 3, api.OK, 4)
}

// 14.1: Hold and Drop are ErrArg of an id that died, by whatever it did, also where a Hold was open once.
func TestDiedId(t *testing.T) {
	x := with(t, 4)
	wantClose(t, x, 0, api.OK, 1)
	wantPin(t, x, "/b", 1, api.OK)
	wantClose(t, x, 1, api.OK)
	wantUnpin(t, x, "/b", api.OK, 2)
	wantHold(t, x, 3, api.OK)
	wantClose(t, x, 2, api.OK)
	wantDrop(t, x, 3, api.OK, 3)
	for range 3 {
		for id := 1; id <= 3; id++ {
			wantNoId(t, x, id)
		}
	}
	wantLive(t, x, 4)
	wantAdd(t, x, 0, 0, 5, api.OK)
	for id := 1; id <= 3; id++ {
		wantNoId(t, x, id)
	}
	wantHold(t, x, 4, api.OK)
	wantHold(t, x, 5, api.OK)
}

// 14.1: where no Hold is open Drop is ErrArg, though fds and paths hold the object; they all hold it still.
func TestDropNoHold(t *testing.T) {
	x := with(t, 1)
	wantDup(t, x, 0, 1, api.OK)
	wantPin(t, x, "/a", 0, api.OK)
	wantPin(t, x, "/b", 0, api.OK)
	for range 10 {
		wantDrop(t, x, 1, api.ErrArg)
	}
	wantLive(t, x, 1)
	wantClose(t, x, 0, api.OK)
	wantDrop(t, x, 1, api.ErrArg)
	wantClose(t, x, 1, api.OK)
	wantDrop(t, x, 1, api.ErrArg) // paths alone
	wantUnpin(t, x, "/a", api.OK)
	wantDrop(t, x, 1, api.ErrArg)
	wantLive(t, x, 1)
	wantOpen(t, x, "/b", 0, api.OK)
	wantUnpin(t, x, "/b", api.OK)
	wantDrop(t, x, 1, api.ErrArg) // a fd alone
	wantGet(t, x, 0, 101, 1, api.OK)
	wantClose(t, x, 0, api.OK, 1)
}

// 14.1: there may be as many Drops as Holds, and no more; a fd that is left is not dropped.
func TestAsManyDrops(t *testing.T) {
	for _, n := range []int{0, 1, 2, 3, 63, 64, 65, 255, 256, 257, 70000} {
		x := with(t, 2)
		for range n {
			wantHold(t, x, 1, api.OK)
		}
		for range n {
			wantDrop(t, x, 1, api.OK)
		}
		wantDrop(t, x, 1, api.ErrArg)
		wantDrop(t, x, 2, api.ErrArg)
		wantLive(t, x, 1, 2)
		wantHold(t, x, 1, api.OK)
		wantClose(t, x, 0, api.OK)
		wantDrop(t, x, 1, api.OK, 1)
		wantLive(t, x, 2)
	}
}

// 14.1: the object dies by the last Drop, where nothing else is left, and by none ahead of it.
func TestLastDrop(t *testing.T) {
	for _, n := range []int{1, 2, 3, 65, 257} {
		x := objs.New()
		wantAdd(t, x, 3, 0, 1, api.OK)
		wantHold(t, x, 1, api.OK)
		wantClose(t, x, 0, api.OK)
		for range n - 1 {
			wantHold(t, x, 1, api.OK) // of one that a Hold alone holds
		}
		for range n - 1 {
			wantDrop(t, x, 1, api.OK)
			wantLive(t, x, 1)
		}
		wantDrop(t, x, 1, api.OK, 1)
		wantLive(t, x)
		wantNoId(t, x, 1)
	}
}

// 14.1: a Hold is its object's alone.
func TestHoldApart(t *testing.T) {
	x := with(t, 3)
	wantHold(t, x, 1, api.OK)
	wantHold(t, x, 3, api.OK)
	wantHold(t, x, 3, api.OK)
	wantDrop(t, x, 2, api.ErrArg)
	wantClose(t, x, 0, api.OK)
	wantClose(t, x, 1, api.OK, 2)
	wantClose(t, x, 2, api.OK)
	wantLive(t, x, 1, 3)
	wantDrop(t, x, 3, api.OK)
	wantDrop(t, x, 1, api.OK, 1)
	wantDrop(t, x, 1, api.ErrArg)
	wantLive(t, x, 3)
	wantDrop(t, x, 3, api.OK, 3)
	wantLive(t, x)
}

// 14.1: Hold and Drop take an object's id, not its fd and not its kind.
func TestHoldById(t *testing.T) {
	x := objs.New()
	wantAdd(t, x, 7, 0, 1, api.OK)
	wantClose(t, x, 0, api.OK, 1)
	wantAdd(t, x, 9, 0, 2, api.OK)
	for _, id := range []int{0, 1, 7, 9} {
		wantNoId(t, x, id)
	}
	wantHold(t, x, 2, api.OK)
	wantClose(t, x, 0, api.OK)
	wantDrop(t, x, 2, api.OK, 2)
}
