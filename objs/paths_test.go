package objs_test

import (
	"math"
	"strings"
	"testing"

	"portcullis/api"
	"portcullis/objs"
)

// paths is texts that are paths, no two of them the same: by their length, and of bytes that are no text.
var paths = []string{
	"/a", "/b", "/A", "//", "///", "/a/", "//a", "/ ", "/a ", "/.", "/..", "/a/../b", "/\n", "/\x01", "/\x7f", "/a/b/c",
	"/\x80", "/\xff", "/\xff\xfe", "/\xc3\x28", "/\xed\xa0\x80", "/\xc3\xa9", "/\xe9", "/\ufffd",
	"/" + row(253), "/" + row(254), "/" + row(255), "/" + strings.Repeat("\xff", 255), strings.Repeat("/", 256),
}

// 14.2: each text that is a path leads to the object that it was pinned to, and no other one does.
func TestPaths(t *testing.T) {
	x := objs.New()
	for i, path := range paths {
		wantAdd(t, x, 0, 0, i+1, api.OK)
		wantOpen(t, x, path, 0, api.ErrNone)
		wantUnpin(t, x, path, api.ErrNone)
		wantPin(t, x, path, 0, api.OK)
		wantPin(t, x, path, 0, api.ErrExists)
		wantClose(t, x, 0, api.OK)
	}
	wantLive(t, x, upTo(len(paths))...)
	for i, path := range paths {
		wantOpen(t, x, path, 0, api.OK)
		wantGet(t, x, 0, 0, i+1, api.OK)
		wantClose(t, x, 0, api.OK)
	}
	for i, path := range paths {
		wantUnpin(t, x, path, api.OK, i+1)
		wantUnpin(t, x, path, api.ErrNone)
		wantOpen(t, x, path, 0, api.ErrNone)
		wantLive(t, x, upTo(len(paths))[i+1:]...)
	}
}

// 14.2: no other text is a path, whether there are fds or not; nothing changes.
func TestNoPaths(t *testing.T) {
	for _, n := range []int{0, 1, 63, 64} {
		x := with(t, n)
		for _, path := range noPaths {
			for _, fd := range []int{0, 1, 63, 64, -1, math.MinInt, math.MaxInt} {
				wantPin(t, x, path, fd, api.ErrArg)
			}
			wantOpen(t, x, path, 0, api.ErrArg)
			wantUnpin(t, x, path, api.ErrArg)
		}
		wantLive(t, x, upTo(n)...)
		for fd := range n {
			wantClose(t, x, fd, api.OK, fd+1) // no path holds any
		}
	}
}

// 14.2: a path has 2 to 256 bytes.
func TestPathLengths(t *testing.T) {
	x := with(t, 1)
	for n := range 600 {
		path := ("/" + row(n))[:n]
		if n >= 2 && n <= 256 {
			wantPin(t, x, path, 0, api.OK)
			wantOpen(t, x, path, 1, api.OK)
			wantClose(t, x, 1, api.OK)
			wantUnpin(t, x, path, api.OK)
			continue
		}
		wantPin(t, x, path, 0, api.ErrArg)
		wantOpen(t, x, path, 0, api.ErrArg)
		wantUnpin(t, x, path, api.ErrArg)
	}
}

// 14.2: a path's first byte is / alone, its others are all but 0, at each place.
func TestPathBytes(t *testing.T) {
	x := with(t, 1)
	for b := range 256 {
		for at := range 5 {
			path := []byte("/xxxx")
			path[at] = byte(b)
			err := api.OK
			if at == 0 && b != '/' || b == 0 {
				err = api.ErrArg
			}
			wantPin(t, x, string(path), 0, err)
			wantUnpin(t, x, string(path), err)
		}
	}
	for at := range 256 {
		path := []byte("/" + row(255))
		path[at] = 0
		wantPin(t, x, string(path), 0, api.ErrArg)
	}
	wantClose(t, x, 0, api.OK, 1)
}

// 14.2: paths are told apart byte by byte: by their ends, by their case, whatever they would mean to a reader.
func TestPathsApart(t *testing.T) {
	x := with(t, 1)
	wantPin(t, x, "/a/b", 0, api.OK)
	for _, path := range []string{"/a", "/a/", "/a/b/", "//a/b", "/a//b", "/a/./b", "/A/b", "/a/b ", "/a/bb", "/a/\xc3\xa2", "/a/B"} {
		wantOpen(t, x, path, 0, api.ErrNone)
		wantUnpin(t, x, path, api.ErrNone)
	}
	wantUnpin(t, x, "/a/b", api.OK)
}

// 14.2: Pin of a fd that is none is ErrFd, and the path is free still.
func TestPinNoFd(t *testing.T) {
	x := with(t, 3)
	wantClose(t, x, 1, api.OK, 2)
	for _, fd := range append([]int{1, 3, 62, 63}, noFds...) {
		wantPin(t, x, "/a", fd, api.ErrFd)
		wantOpen(t, x, "/a", 0, api.ErrNone)
		wantUnpin(t, x, "/a", api.ErrNone)
	}
	wantPin(t, x, "/a", 2, api.OK)
	wantLive(t, x, 1, 3)
}

// 14.2: a path that is used is ErrExists, for its own object and for another one, and leads where it led.
func TestPinExists(t *testing.T) {
	x := with(t, 2)
	wantPin(t, x, "/a", 0, api.OK)
	for range 3 {
		wantPin(t, x, "/a", 0, api.ErrExists)
		wantPin(t, x, "/a", 1, api.ErrExists)
	}
	wantOpen(t, x, "/a", 2, api.OK)
	wantGet(t, x, 2, 101, 1, api.OK)
	wantClose(t, x, 2, api.OK)
	wantClose(t, x, 1, api.OK, 2) // no path holds it
	wantClose(t, x, 0, api.OK)
	wantUnpin(t, x, "/a", api.OK, 1) // one path holds it, once
	wantUnpin(t, x, "/a", api.ErrNone)
}

// 14.2, R2: which of Pin's errors is told, whatever else is wrong; nothing changes.
func TestPinOrder(t *testing.T) {
	x := with(t, 1)
	wantPin(t, x, "/used", 0, api.OK)
	for _, c := range []struct {
		path string
		fd   int
		err  api.Errno
	}{
		{"used", 0, api.ErrArg},
		{"used", 1, api.ErrArg},
		{"/used\x00", 0, api.ErrArg},
		{"/used\x00", -1, api.ErrArg},
		{"", 64, api.ErrArg},
		{"/used", 1, api.ErrFd},
		{"/used", -1, api.ErrFd},
		{"/used", 64, api.ErrFd},
		{"/free", 1, api.ErrFd},
		{"/used", 0, api.ErrExists},
		{"/free", 0, api.OK},
	} {
		wantPin(t, x, c.path, c.fd, c.err)
		wantLive(t, x, 1)
	}
	wantClose(t, x, 0, api.OK)
	wantPin(t, x, "/used", 0, api.ErrFd) // the fd that it was pinned by
	wantUnpin(t, x, "/free", api.OK)
	wantUnpin(t, x, "/used", api.OK, 1)
}

// 14.2: a path leads to its object when that has no fd any more.
func TestOpenWithoutFds(t *testing.T) {
	x := with(t, 3)
	wantPin(t, x, "/b", 1, api.OK)
	wantClose(t, x, 1, api.OK)
	wantClose(t, x, 0, api.OK, 1)
	wantLive(t, x, 2, 3)
	wantOpen(t, x, "/b", 0, api.OK)
	wantOpen(t, x, "/b", 1, api.OK)
	wantOpen(t, x, "/b", 3, api.OK)
	for _, fd := range []int{0, 1, 3} {
		wantGet(t, x, fd, 102, 2, api.OK)
		wantClose(t, x, fd, api.OK)
	}
	wantLive(t, x, 2, 3)
	wantUnpin(t, x, "/b", api.OK, 2)
}

// 14.2: where no fd is free Open is ErrFd; of a path that leads nowhere ErrNone, of what is no path ErrArg.
func TestOpenFull(t *testing.T) {
	x := with(t, api.MaxFds)
	wantPin(t, x, "/a", 7, api.OK)
	for range 3 {
		wantOpen(t, x, "/a", 0, api.ErrFd)
		wantOpen(t, x, "/b", 0, api.ErrNone)
		for _, path := range noPaths {
			wantOpen(t, x, path, 0, api.ErrArg)
		}
	}
	wantClose(t, x, 7, api.OK) // no Open that was refused holds it: the path alone does
	wantOpen(t, x, "/a", 7, api.OK)
	wantOpen(t, x, "/a", 0, api.ErrFd)
	wantClose(t, x, 7, api.OK)
	wantUnpin(t, x, "/a", api.OK, 8)
}

// 14.2: by Unpin the object dies just where nothing else holds it.
func TestUnpin(t *testing.T) {
	x := with(t, 4)
	for fd, path := range []string{"/fd", "/path", "/hold", "/none"} {
		wantPin(t, x, path, fd, api.OK)
	}
	wantPin(t, x, "/path/2", 1, api.OK)
	wantHold(t, x, 3, api.OK)
	for fd := 1; fd < 4; fd++ {
		wantClose(t, x, fd, api.OK)
	}
	wantUnpin(t, x, "/fd", api.OK)
	wantUnpin(t, x, "/path", api.OK)
	wantUnpin(t, x, "/hold", api.OK)
	wantLive(t, x, 1, 2, 3, 4)
	wantUnpin(t, x, "/none", api.OK, 4)
	wantLive(t, x, 1, 2, 3)
	wantGet(t, x, 0, 101, 1, api.OK)
	wantUnpin(t, x, "/path/2", api.OK, 2)
	wantDrop(t, x, 3, api.OK, 3)
	wantClose(t, x, 0, api.OK, 1)
	wantLive(t, x)
}

// 14.2: several paths may lead to one object, each of which holds it.
func TestTwoPaths(t *testing.T) {
	for _, order := range [][]string{{"/a", "/b"}, {"/b", "/a"}} {
		x := with(t, 2)
		wantPin(t, x, "/a", 0, api.OK)
		wantPin(t, x, "/b", 0, api.OK)
		wantOpen(t, x, "/a", 2, api.OK)
		wantOpen(t, x, "/b", 3, api.OK)
		for _, fd := range []int{0, 2, 3} {
			wantGet(t, x, fd, 101, 1, api.OK)
			wantClose(t, x, fd, api.OK)
		}
		wantUnpin(t, x, order[0], api.OK)
		wantOpen(t, x, order[0], 0, api.ErrNone)
		wantOpen(t, x, order[1], 0, api.OK)
		wantGet(t, x, 0, 101, 1, api.OK)
		wantClose(t, x, 0, api.OK)
		wantLive(t, x, 1, 2)
		wantUnpin(t, x, order[1], api.OK, 1)
		wantLive(t, x, 2)
	}
}

// 14.2: of paths there are as many as one likes, to one object and to several.
func TestManyPaths(t *testing.T) {
	const most = 3000
	x := with(t, 3)
	path := func(n int) string {
		return "/" + strings.Repeat("p", n%200) + string([]byte{byte(1 + n%255), byte(1 + n/255)})
	}
	for n := range most {
		wantPin(t, x, path(n), n%3, api.OK)
	}
	for fd := range 3 {
		wantClose(t, x, fd, api.OK)
	}
	for n := range most {
		wantOpen(t, x, path(n), 0, api.OK)
		wantGet(t, x, 0, 101+n%3, 1+n%3, api.OK)
		wantClose(t, x, 0, api.OK)
	}
	for n := range most - 3 {
		wantUnpin(t, x, path(n), api.OK)
	}
	for n := most - 3; n < most; n++ {
		wantUnpin(t, x, path(n), api.OK, 1+n%3)
	}
}

// 14.2: behind Unpin a path is free, for its own object and for another one, whether the object died or not.
func TestPathAnew(t *testing.T) {
	x := with(t, 2)
	wantPin(t, x, "/a", 0, api.OK)
	wantUnpin(t, x, "/a", api.OK)
	wantPin(t, x, "/a", 0, api.OK) // the same object
	wantUnpin(t, x, "/a", api.OK)
	wantPin(t, x, "/a", 1, api.OK) // another one
	wantClose(t, x, 1, api.OK)
	wantOpen(t, x, "/a", 1, api.OK)
	wantGet(t, x, 1, 102, 2, api.OK)
	wantClose(t, x, 1, api.OK)
	wantUnpin(t, x, "/a", api.OK, 2)
	wantPin(t, x, "/a", 0, api.OK) // another one, of one that died
	wantClose(t, x, 0, api.OK)
	wantLive(t, x, 1)
	wantUnpin(t, x, "/a", api.OK, 1)
	wantOpen(t, x, "/a", 0, api.ErrNone)
}

// 14.2: Live tells all that are there by rising ids, behind each call by which one comes or dies.
func TestLive(t *testing.T) {
	x := objs.New()
	wantLive(t, x)
	for id := 1; id <= 6; id++ {
		wantAdd(t, x, -id, id-1, id, api.OK)
		wantLive(t, x, upTo(id)...)
	}
	wantClose(t, x, 2, api.OK, 3) // in the midst
	wantLive(t, x, 1, 2, 4, 5, 6)
	wantPin(t, x, "/e", 4, api.OK)
	wantLive(t, x, 1, 2, 4, 5, 6)
	wantClose(t, x, 4, api.OK)
	wantLive(t, x, 1, 2, 4, 5, 6)
	wantOpen(t, x, "/e", 2, api.OK)
	wantClose(t, x, 2, api.OK)
	wantUnpin(t, x, "/e", api.OK, 5) // in the midst
	wantLive(t, x, 1, 2, 4, 6)
	wantHold(t, x, 4, api.OK)
	wantClose(t, x, 3, api.OK)
	wantLive(t, x, 1, 2, 4, 6)
	wantDrop(t, x, 4, api.OK, 4) // in the midst
	wantLive(t, x, 1, 2, 6)
	wantAdd(t, x, 0, 2, 7, api.OK)
	wantLive(t, x, 1, 2, 6, 7)
	wantClose(t, x, 0, api.OK, 1) // the least
	wantLive(t, x, 2, 6, 7)
	wantClose(t, x, 2, api.OK, 7) // the greatest
	wantLive(t, x, 2, 6)
	wantAdd(t, x, 0, 0, 8, api.OK)
	wantLive(t, x, 2, 6, 8)
}
