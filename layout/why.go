package layout

import (
	"errors"
	"strconv"

	"portcullis/api"
)

// Why types are not well.
var (
	errMany  = errors.New("there are more types than there may be")
	errAlone = errors.New("it is not well by itself")
	errHolds = errors.New("it holds itself")
	errLarge = errors.New("it is too large")
	errOut   = errors.New("a member does not lie within it")
)

// Why a call has no answer, though all types are well.
var (
	errVoid   = errors.New("nothing has no size")
	errNumber = errors.New("no type has the number")
	errField  = errors.New("there is no such field")
	errOther  = errors.New("the map has another size")
)

// fault is why types are not well, and the number of the first one that is not.
type fault struct {
	at  int
	why error
}

func (f *fault) Error() string { return "type " + strconv.Itoa(f.at) + ": " + f.why.Error() }

// Unwrap answers why.
func (f *fault) Unwrap() error { return f.why }

// place answers the number of the type of which err tells; 0, if it tells of none.
func place(err error) int {
	var f *fault
	if errors.As(err, &f) {
		return f.at
	}
	return 0
}

// errno answers err's number.
func errno(err error) api.Errno {
	switch {
	case err == nil:
		return api.OK
	case errors.Is(err, errNumber):
		return api.ErrArg
	case errors.Is(err, errField):
		return api.ErrNone
	}
	return api.ErrType
}
