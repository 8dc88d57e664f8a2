package objs_test

import (
	"math"
	"slices"
	"testing"

	"portcullis/api"
	"portcullis/objs"
)

// The kinds of what holds an object.
const (
	byFd = iota
	byPath
	byHold
)

// holder is one thing that holds an object.
type holder struct {
	by, fd int
	path   string
	id     int
}

// plain is a table as the chapter says it: the kind of each object that ever was, and a list of what holds them.
type plain struct {
	kinds   []int
	holders []holder
}

// held tells whether something holds that object.
func (p *plain) held(id int) bool {
	return slices.ContainsFunc(p.holders, func(h holder) bool { return h.id == id })
}

func (p *plain) live() []int {
	return slices.DeleteFunc(upTo(len(p.kinds)), func(id int) bool { return !p.held(id) })
}

// fd answers where in the list a fd stands; below 0, if it is none.
func (p *plain) fd(fd int) int {
	return slices.IndexFunc(p.holders, func(h holder) bool { return h.by == byFd && h.fd == fd })
}

// path answers where in the list a path stands.
func (p *plain) path(path string) int {
	return slices.IndexFunc(p.holders, func(h holder) bool { return h.by == byPath && h.path == path })
}

// hold answers where in the list a Hold of that object stands.
func (p *plain) hold(id int) int {
	return slices.IndexFunc(p.holders, func(h holder) bool { return h.by == byHold && h.id == id })
}

// open makes the least free fd hold that object; below 0, if none is free.
func (p *plain) open(id int) int {
	for fd := range api.MaxFds {
		if p.fd(fd) < 0 {
			p.holders = append(p.holders, holder{by: byFd, fd: fd, id: id})
			return fd
		}
	}
	return -1
}

// end takes what stands at i off the list, and answers the ids that die.
func (p *plain) end(i int) []int {
	id := p.holders[i].id
	p.holders = slices.Delete(p.holders, i, i+1)
	if p.held(id) {
		return nil
	}
	return []int{id}
}

// wrong tells whether a text is no path.
func wrong(path string) bool {
	if len(path) < 2 || len(path) > 256 || path[0] != '/' {
		return true
	}
	return slices.Contains([]byte(path), 0)
}

// twins is a table, and the plain one that it is held against.
type twins struct {
	t    *testing.T
	x    *objs.Table
	p    *plain
	seen map[told]int
}

// told is what a call told: its error, and how many ids died.
type told struct {
	call string
	err  api.Errno
	dead int
}

// pairUp makes a table and a plain one.
func pairUp(t *testing.T, seen map[told]int) twins { return twins{t, objs.New(), &plain{}, seen} }

func (w twins) add(kind int) {
	w.t.Helper()
	id := len(w.p.kinds) + 1
	fd := w.p.open(id)
	if fd < 0 {
		w.seen[told{"add", api.ErrFd, 0}]++
		wantAdd(w.t, w.x, kind, 0, 0, api.ErrFd)
		return
	}
	w.p.kinds = append(w.p.kinds, kind)
	w.seen[told{"add", api.OK, 0}]++
	wantAdd(w.t, w.x, kind, fd, id, api.OK)
}

func (w twins) get(fd int) {
	w.t.Helper()
	i := w.p.fd(fd)
	if i < 0 {
		wantGet(w.t, w.x, fd, 0, 0, api.ErrFd)
		return
	}
	id := w.p.holders[i].id
	wantGet(w.t, w.x, fd, w.p.kinds[id-1], id, api.OK)
}

// lead makes one more fd of what stands at i of the list; err, if that is below 0.
func (w twins) lead(call string, i int, err api.Errno) (int, api.Errno) {
	fd := 0
	if i >= 0 {
		fd, err = w.p.open(w.p.holders[i].id), api.OK
		if fd < 0 {
			fd, err = 0, api.ErrFd
		}
	}
	w.seen[told{call, err, 0}]++
	return fd, err
}

func (w twins) dup(fd int) {
	w.t.Helper()
	got, err := w.lead("dup", w.p.fd(fd), api.ErrFd)
	wantDup(w.t, w.x, fd, got, err)
}

func (w twins) open(path string) {
	w.t.Helper()
	err := api.ErrNone
	if wrong(path) {
		err = api.ErrArg
	}
	got, err := w.lead("open", w.p.path(path), err)
	wantOpen(w.t, w.x, path, got, err)
}

// less ends what stands at i of the list; err, if that is below 0.
func (w twins) less(call string, i int, err api.Errno) ([]int, api.Errno) {
	var dead []int
	if i >= 0 {
		dead, err = w.p.end(i), api.OK
	}
	w.seen[told{call, err, len(dead)}]++
	return dead, err
}

func (w twins) close(fd int) {
	w.t.Helper()
	dead, err := w.less("close", w.p.fd(fd), api.ErrFd)
	wantClose(w.t, w.x, fd, err, dead...)
}

func (w twins) drop(id int) {
	w.t.Helper()
	dead, err := w.less("drop", w.p.hold(id), api.ErrArg)
	wantDrop(w.t, w.x, id, err, dead...)
}

func (w twins) unpin(path string) {
	w.t.Helper()
	err := api.ErrNone
	if wrong(path) {
		err = api.ErrArg
	}
	dead, err := w.less("unpin", w.p.path(path), err)
	wantUnpin(w.t, w.x, path, err, dead...)
}

func (w twins) hold(id int) {
	w.t.Helper()
	err := api.ErrArg
	if w.p.held(id) {
		w.p.holders = append(w.p.holders, holder{by: byHold, id: id})
		err = api.OK
	}
	w.seen[told{"hold", err, 0}]++
	wantHold(w.t, w.x, id, err)
}

func (w twins) pin(path string, fd int) {
	w.t.Helper()
	err := api.OK
	switch i := w.p.fd(fd); {
	case wrong(path):
		err = api.ErrArg
	case i < 0:
		err = api.ErrFd
	case w.p.path(path) >= 0:
		err = api.ErrExists
	default:
		w.p.holders = append(w.p.holders, holder{by: byPath, path: path, id: w.p.holders[i].id})
	}
	w.seen[told{"pin", err, 0}]++
	wantPin(w.t, w.x, path, fd, err)
}

// look holds all that is told without a change against the plain one, of the fds below that one.
func (w twins) look(fds int) {
	w.t.Helper()
	wantLive(w.t, w.x, w.p.live()...)
	for fd := range fds {
		w.get(fd)
	}
}

// empty ends all that holds anything, the newest thing first, and looks at each.
func (w twins) empty() {
	w.t.Helper()
	for len(w.p.holders) > 0 {
		switch h := w.p.holders[len(w.p.holders)-1]; h.by {
		case byFd:
			w.close(h.fd)
		case byPath:
			w.unpin(h.path)
		default:
			w.drop(h.id)
		}
		wantLive(w.t, w.x, w.p.live()...)
	}
	for id := range w.p.kinds {
		wantNoId(w.t, w.x, id+1)
	}
}

// refuse does what no table takes; the fds from that one on must be free, and the ids behind those that were made are none.
func (w twins) refuse(free int) {
	w.t.Helper()
	for _, path := range noPaths {
		w.pin(path, 0)
		w.open(path)
		w.unpin(path)
	}
	for _, fd := range append([]int{free, api.MaxFds - 1}, noFds...) {
		w.get(fd)
		w.dup(fd)
		w.close(fd)
		w.pin("/a", fd)
		w.pin("/z", fd)
	}
	for _, id := range []int{math.MinInt, -1, 0, len(w.p.kinds) + 1, len(w.p.kinds) + 2, math.MaxInt} {
		w.hold(id)
		w.drop(id)
	}
	w.open("/z")
	w.unpin("/z")
	for i := range w.p.holders {
		if h := w.p.holders[i]; h.by == byPath {
			w.pin(h.path, w.anyFd())
		}
	}
}

// anyFd answers the newest fd that is used; -1, if none is.
func (w twins) anyFd() int {
	for i := len(w.p.holders) - 1; i >= 0; i-- {
		if w.p.holders[i].by == byFd {
			return w.p.holders[i].fd
		}
	}
	return -1
}
