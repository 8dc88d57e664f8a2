package objs_test

import (
	"math"
	"slices"
	"strconv"
	"strings"
	"testing"

	"portcullis/api"
	"portcullis/objs"
)

// noFds is numbers that no fd ever has.
var noFds = []int{math.MinInt, -1 << 32, -64, -2, -1, api.MaxFds, api.MaxFds + 1, 1 << 32, 1<<32 + 1, math.MaxInt}

// noPaths is texts that are no path: by their length, by their first byte, by a byte 0.
var noPaths = []string{
	"", "/", "a", "\x00", "a/", "ab", " /a", "\x00/a", "\\a", "./a",
	"/\x00", "/a\x00", "/\x00a", "/a\x00b", "/\x00\x00",
	"/" + row(256), "/" + row(257), "/" + row(65536), "a" + row(255), "/" + row(254) + "\x00", "/\x00" + row(254),
}

// row is n bytes.
func row(n int) string { return strings.Repeat("x", n) }

// with makes a table of n objects, of the kinds 101, 102, .., each with one fd: 0 leads to 1, 1 to 2, and so on.
func with(t *testing.T, n int) *objs.Table {
	t.Helper()
	x := objs.New()
	for i := range n {
		wantAdd(t, x, 101+i, i, i+1, api.OK)
	}
	return x
}

// wantErr holds a call's error against the one that is due.
func wantErr(t *testing.T, what string, got, want api.Errno) {
	t.Helper()
	if got != want {
		t.Errorf("%s: error %d; want %d", what, got, want)
	}
}

// wantAdd looks at what Add tells.
func wantAdd(t *testing.T, x *objs.Table, kind, fd, id int, err api.Errno) {
	t.Helper()
	if f, i, e := x.Add(kind); f != fd || i != id || e != err {
		t.Errorf("Add(%d): fd %d, id %d, error %d; want %d, %d, error %d", kind, f, i, e, fd, id, err)
	}
}

// wantGet looks at what Get tells.
func wantGet(t *testing.T, x *objs.Table, fd, kind, id int, err api.Errno) {
	t.Helper()
	if k, i, e := x.Get(fd); k != kind || i != id || e != err {
		t.Errorf("Get(%d): kind %d, id %d, error %d; want %d, %d, error %d", fd, k, i, e, kind, id, err)
	}
}

// wantDup looks at what Dup tells.
func wantDup(t *testing.T, x *objs.Table, fd, want int, err api.Errno) {
	t.Helper()
	if got, e := x.Dup(fd); got != want || e != err {
		t.Errorf("Dup(%d): %d, error %d; want %d, error %d", fd, got, e, want, err)
	}
}

// wantClose looks at what Close tells, and which ids die.
func wantClose(t *testing.T, x *objs.Table, fd int, err api.Errno, dead ...int) {
	t.Helper()
	if got, e := x.Close(fd); !slices.Equal(got, dead) || e != err {
		t.Errorf("Close(%d): %v, error %d; want %v, error %d", fd, got, e, dead, err)
	}
}

// wantHold looks at what Hold tells.
func wantHold(t *testing.T, x *objs.Table, id int, err api.Errno) {
	t.Helper()
	if e := x.Hold(id); e != err {
		t.Errorf("Hold(%d): error %d; want %d", id, e, err)
	}
}

// wantDrop looks at what Drop tells, and which ids die.
func wantDrop(t *testing.T, x *objs.Table, id int, err api.Errno, dead ...int) {
	t.Helper()
	if got, e := x.Drop(id); !slices.Equal(got, dead) || e != err {
		t.Errorf("Drop(%d): %v, error %d; want %v, error %d", id, got, e, dead, err)
	}
}

// wantPin looks at what Pin tells.
func wantPin(t *testing.T, x *objs.Table, path string, fd int, err api.Errno) {
	t.Helper()
	if e := x.Pin(path, fd); e != err {
		t.Errorf("Pin(%s, %d): error %d; want %d", short(path), fd, e, err)
	}
}

// wantUnpin looks at what Unpin tells, and which ids die.
func wantUnpin(t *testing.T, x *objs.Table, path string, err api.Errno, dead ...int) {
	t.Helper()
	if got, e := x.Unpin(path); !slices.Equal(got, dead) || e != err {
		t.Errorf("Unpin(%s): %v, error %d; want %v, error %d", short(path), got, e, dead, err)
	}
}

// wantOpen looks at what Open tells.
func wantOpen(t *testing.T, x *objs.Table, path string, want int, err api.Errno) {
	t.Helper()
	if got, e := x.Open(path); got != want || e != err {
		t.Errorf("Open(%s): %d, error %d; want %d, error %d", short(path), got, e, want, err)
	}
}

// wantLive looks at what Live tells.
func wantLive(t *testing.T, x *objs.Table, want ...int) {
	t.Helper()
	if got := x.Live(); !slices.Equal(got, want) {
		t.Errorf("Live: %v; want %v", got, want)
	}
}

// wantNoFd looks whether every call that takes a fd refuses this one.
func wantNoFd(t *testing.T, x *objs.Table, fd int) {
	t.Helper()
	wantGet(t, x, fd, 0, 0, api.ErrFd)
	wantDup(t, x, fd, 0, api.ErrFd)
	wantClose(t, x, fd, api.ErrFd)
	wantPin(t, x, "/of/no/fd", fd, api.ErrFd)
	wantOpen(t, x, "/of/no/fd", 0, api.ErrNone)
}

// wantNoId looks whether Hold and Drop refuse an id.
func wantNoId(t *testing.T, x *objs.Table, id int) {
	t.Helper()
	wantHold(t, x, id, api.ErrArg)
	wantDrop(t, x, id, api.ErrArg)
}

// short is a path as a fault's text shows it.
func short(path string) string {
	if len(path) > 24 {
		return strconv.Quote(path[:12]) + " and " + strconv.Itoa(len(path)-12) + " bytes"
	}
	return strconv.Quote(path)
}

// upTo is the ids 1 to n.
func upTo(n int) []int {
	var l []int
	for id := 1; id <= n; id++ {
		l = append(l, id)
	}
	return l
}

// draws answers a row of numbers that hangs on nothing.
func draws() func(below int) int {
	state := uint64(14)
	return func(below int) int {
		state = state*6364136223846793005 + 1442695040888963407
		return int(state >> 33 % uint64(below))
	}
}
