package asm

import "rowlock/api"

// fault is the panic by which this package gives up: which line is wrong, and why.
type fault struct {
	line  int
	errno api.Errno
}

// need gives up, unless ok.
func need(ok bool, line int, errno api.Errno) {
	if !ok {
		panic(fault{line, errno})
	}
}

// tried is what work answers; else the line and the error with which it gave up.
func tried[T any](work func() T) (answer T, line int, errno api.Errno) {
	defer func() {
		if f, ok := recover().(fault); ok {
			line, errno = f.line, f.errno
		}
	}()
	return work(), 0, api.OK
}
