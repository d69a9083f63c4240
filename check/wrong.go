package check

import (
	"errors"

	"handloom/api"
)

// wrong is an error that has its place.
type wrong struct {
	err api.Errno
	at  api.Pos
}

func (w wrong) Error() string { return w.err.Error() }

func (w wrong) Unwrap() error { return w.err }

// placed gives an error its place, unless it has one already: what was met further in is told where it was met.
func placed(err error, at api.Pos) error {
	if bare, ok := err.(api.Errno); ok {
		return wrong{bare, at}
	}
	return err
}

// faultOf is an error's number, and its place; of none both are zero.
func faultOf(err error) api.Fault {
	var bare api.Errno
	var w wrong
	errors.As(err, &bare)
	errors.As(err, &w)
	return api.Fault{Err: bare, At: w.at}
}
