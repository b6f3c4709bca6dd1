// Package fail lets a call give up at a step of the disk that fails, however deep in its work that is.
package fail

import (
	"errors"
	"strconv"

	"lysimeter/api"
)

// failure is the disk's error, at which a call gives up.
type failure struct{ errno api.Errno }

// Error tells the number of the disk's error.
func (f failure) Error() string {
	return "error " + strconv.Itoa(int(f.errno)) + " of the disk"
}

// At gives up at the disk's error; OK is none.
func At(errno api.Errno) {
	if errno != api.OK {
		panic(failure{errno})
	}
}

// In does the work, and tells the error at which it gave up; OK, if it did not. Anything else that was thrown goes on.
func In(work func()) (errno api.Errno) {
	defer func() {
		if thrown := recover(); thrown != nil {
			errno = told(thrown)
		}
	}()
	work()
	return api.OK
}

// told is the disk's error by which work gave up.
func told(thrown any) api.Errno {
	var f failure
	if err, ok := thrown.(error); ok && errors.As(err, &f) {
		return f.errno
	}
	panic(thrown)
}
