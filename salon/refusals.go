package salon

import "cloche/api"

// refusal is what a refused command panics with.
type refusal struct{ errno api.Errno }

func refuseIf(refused bool, errno api.Errno) {
	if refused {
		panic(refusal{errno})
	}
}

// must returns what a layer answers, and refuses if that is an error.
func must[T any](answer T, errno api.Errno) T {
	refuseIf(errno != api.OK, errno)
	return answer
}
