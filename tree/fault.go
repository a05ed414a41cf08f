package tree

import (
	"errors"

	"docket/api"
)

// fault is what is wrong, with the place where it came up. It wraps the fault of a smaller place, and at the end of all the error's number.
type fault struct {
	place string
	cause error
}

func (f fault) Error() string { return f.place + ": " + f.cause.Error() }

func (f fault) Unwrap() error { return f.cause }

// noTree is why a disk is no tree. It wraps ErrTree, and the cause beside it, which may have come up in a layer below with a number of its own.
type noTree struct{ cause error }

func (n noTree) Error() string { return "no tree: " + n.cause.Error() }

func (n noTree) Unwrap() []error { return []error{api.ErrTree, n.cause} }

// numberOf is the error's number that err wraps. ErrTree is the greatest of those of this layer and of all below: asked first, it goes ahead of the cause beside it.
func numberOf(err error) api.Errno {
	for e := api.ErrTree; e > api.OK; e-- {
		if errors.Is(err, e) {
			return e
		}
	}
	return api.OK
}
