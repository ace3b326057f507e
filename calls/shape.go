package calls

import (
	"math"

	"rowlock/api"
	"rowlock/value"
)

const (
	nobody    = -1
	mostCount = 99 // of a semaphore
)

// shape is how an object is whose variables, just as many as it needs, have values; false, if none is so.
func shape(k api.ObjectKind, size int, heap []api.Val) (api.Shape, bool) {
	if !allRight(heap) {
		return api.Shape{}, false
	}
	switch k {
	case api.Mutex:
		n, ok := number(heap[0], api.MaxThreads)
		return api.Shape{Owner: n - 1}, ok // 0 is nobody
	case api.Semaphore:
		n, ok := number(heap[0], mostCount)
		return api.Shape{Owner: nobody, Count: n}, ok
	case api.Queue:
		n, ok := number(heap[0], size)
		first, has := number(heap[1], size-1)
		return api.Shape{Owner: nobody, Vals: round(heap[2:], first, n)}, ok && has
	}
	n, ok := number(heap[0], size-1)
	gen, has := number(heap[1], math.MaxInt)
	return api.Shape{Owner: nobody, Count: n, Gen: gen}, ok && has
}

func allRight(heap []api.Val) bool {
	for _, v := range heap {
		if !value.Right(v) {
			return false
		}
	}
	return true
}

// number is a value as a whole number from 0 on. No program leaves -0 in a variable that counts.
func number(v api.Val, most int) (int, bool) {
	n, ok := value.Whole(v)
	if !ok || value.Negative(v) || n > most {
		return 0, false
	}
	return n, true
}

// round are so many of a queue's places, from the first one on, gone round.
func round(places []api.Val, first, count int) []api.Val {
	var l []api.Val
	for i := range count {
		l = append(l, places[(first+i)%len(places)])
	}
	return l
}
