package thread

import "rowlock/api"

// What stands at a place is told by one of these types; what is none of them a thread does alone.
type (
	entrance struct{}          // Atomic
	exit     struct{}          // End
	leftArm  struct{ end int } // OrElse, with the place of its Else
	rightArm struct{ end int } // Else, with the place of its EndOr
	armsEnd  struct{}          // EndOr
	again    struct{}          // Retry
	output   struct{}          // Out
	halt     struct{}          // Halt
)

// access is what reads or writes a variable: the one that is named, or one that the stack tells how far behind it.
type access struct {
	op      api.OpCode
	kind    api.AskKind
	tvar    int
	indexed bool
}

// pieceOf is what an instruction is; nil, if it is none of these.
func pieceOf(i api.Ins) any {
	switch i.Op {
	case api.Atomic:
		return entrance{}
	case api.End:
		return exit{}
	case api.OrElse:
		return leftArm{i.Arg}
	case api.Else:
		return rightArm{i.Arg}
	case api.EndOr:
		return armsEnd{}
	case api.Retry:
		return again{}
	case api.Out:
		return output{}
	case api.Halt:
		return halt{}
	case api.Get, api.GetAt:
		return access{i.Op, api.ReadIt, i.Arg, i.Op == api.GetAt}
	case api.Put, api.PutAt:
		return access{i.Op, api.WriteIt, i.Arg, i.Op == api.PutAt}
	}
	return nil
}

// armEnd is where the arm that a piece begins ends.
func armEnd(piece any) int {
	if a, ok := piece.(leftArm); ok {
		return a.end
	}
	a, _ := piece.(rightArm)
	return a.end
}
