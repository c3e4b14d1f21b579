package desk

import (
	"strconv"

	"stevedore/api"
)

// wrong is what is thrown, so that it is told apart from all else that could be: the number of an error.
type wrong api.Errno

// throw lets the line be answered by an error, if there is one.
func throw(err error) {
	if err != nil {
		panic(wrong(api.Tell(err)))
	}
}

// got is a result, unless there is an error with it.
func got[T any](result T, err error) T {
	throw(err)
	return result
}

// told is how what was thrown is answered. What nobody here threw has no number of its own: it is told as api tells an error without one, as no session may end by it.
func told(thrown any) string {
	number := -1
	if w, ok := thrown.(wrong); ok {
		number = int(w)
	}
	return "error " + strconv.Itoa(number)
}
