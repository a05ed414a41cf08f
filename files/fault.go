package files

import (
	"errors"

	"docket/api"
)

// fault is what is wrong, with the place where it came up. It wraps the fault of a smaller place, and at the end of all the error's number.
type fault struct {
	place string
	cause error
}

func (f fault) Error() string { return f.place + ": " + f.cause.Error() }

func (f fault) Unwrap() error { return f.cause }

// number is the error's number that err wraps, however many places are around it.
func number(err error) api.Errno {
	var e api.Errno
	if errors.As(err, &e) {
		return e
	}
	return api.OK
}
