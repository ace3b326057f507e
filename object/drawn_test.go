package object

import (
	"slices"
	"testing"

	"rowlock/api"
	"rowlock/value"
)

// numbers draws numbers below n, the same ones for the same seed.
func numbers(seed uint64) func(n int) int {
	return func(n int) int {
		seed = seed*6364136223846793005 + 1442695040888963407
		return int(seed >> 33 % uint64(n))
	}
}

// drawnCall is one that an object takes, most often; now and then one that is wrong.
func drawnCall(draw func(int) int, l []api.CallKind) api.Call {
	c := api.Call{Kind: l[draw(2)], Who: draw(api.MaxThreads)}
	if c.Kind == api.EnterIt || c.Kind == api.LeaveIt {
		c.Val = []api.Val{0, api.One, two, api.NaN, api.NegZero, value.Of(float64(draw(30)))}[draw(6)]
	}
	switch draw(25) {
	case 0:
		c.Kind = api.CallKind(draw(10))
	case 1:
		c.Who = draw(8) - 2
	case 2:
		c.Val = []api.Val{notRight, api.One, api.NegZero}[draw(3)]
	}
	return c
}

// diary is what calls came to, kept beside an object, in other words than its own.
type diary struct {
	locked   []int // who has the mutex: one at most
	ups      int   // how many more ups than downs there were
	in, out  []api.Val
	arrivals int
}

// note notes a call that neither blocked nor was refused, and holds it against what may have come of it (P20.5).
func (d *diary) note(t *testing.T, c api.Call, a api.Answer, size int) {
	t.Helper()
	switch c.Kind {
	case api.LockIt:
		d.locked = append(d.locked, c.Who)
	case api.UnlockIt:
		if has := slices.Contains(d.locked, c.Who); has != (a.Val == api.One) {
			t.Fatalf("%d has unlocked: %v", c.Who, a)
		}
		d.locked = slices.DeleteFunc(d.locked, func(who int) bool { return who == c.Who })
	case api.DownIt:
		d.ups--
	case api.UpIt:
		d.ups++
	case api.EnterIt:
		d.in = append(d.in, c.Val)
	case api.TakeIt:
		d.out = append(d.out, a.Val)
	case api.ArriveIt:
		if want := value.Of(float64(d.arrivals / size)); a.Val != want {
			t.Fatalf("arriving is %v, behind %d", a, d.arrivals)
		}
		d.arrivals++
	case api.LeaveIt:
		// All of the generation Val, the last one too, have arrived.
		if n, ok := value.Whole(c.Val); ok && c.Val != api.NegZero && d.arrivals < (n+1)*size {
			t.Fatalf("it leaves %d, and %d have arrived", n, d.arrivals)
		}
	}
}

// blocked tells whether a call that is right should block (or have no room).
func (d *diary) blocked(c api.Call, size int) bool {
	switch c.Kind {
	case api.LockIt:
		return len(d.locked) > 0
	case api.DownIt:
		return d.ups+size == 0
	case api.UpIt:
		return d.ups+size == 99
	case api.EnterIt:
		return len(d.in)-len(d.out) == size
	case api.TakeIt:
		return len(d.in) == len(d.out)
	case api.LeaveIt:
		return !value.Less(c.Val, value.Of(float64(d.arrivals/size)))
	}
	return false
}

// holds holds an object against its diary.
func (d *diary) holds(t *testing.T, s api.Shape, kind api.ObjectKind, size int) {
	t.Helper()
	if len(d.locked) > 1 {
		t.Fatalf("%v all have it", d.locked)
	}
	if !slices.Equal(d.out, d.in[:len(d.out)]) {
		t.Fatalf("%v went in, %v came out", d.in, d.out)
	}
	want := api.Shape{Owner: -1}
	switch kind {
	case api.Mutex:
		for _, who := range d.locked {
			want.Owner = who
		}
	case api.Semaphore:
		want.Count = size + d.ups
	case api.Queue:
		want.Vals = d.in[len(d.out):]
	case api.Barrier:
		want.Count, want.Gen = d.arrivals%size, d.arrivals/size
	}
	if !sameShape(s, want) || s.Count < 0 || s.Count > 99 || len(s.Vals) > api.MaxQueue {
		t.Fatalf("Shape is %+v, not %+v", s, want)
	}
}

// TestManyCalls: P20.2 to P20.5: over many drawn calls, what blocks or is refused changes nothing, and all others come to what they should.
func TestManyCalls(t *testing.T) {
	draw := numbers(20)
	told := map[api.CallKind][3]int{} // how many were done, blocked, refused
	for range 1500 {
		s := sizes[draw(len(sizes))]
		size := s.least + draw(s.most-s.least+1)
		o, d := made(t, s.kind, size), &diary{}
		many := 1 + draw(2)*draw(30) // of so many calls of a semaphore one is drawn; all others are UpIts
		for range 300 {
			c := drawnCall(draw, s.calls)
			if s.kind == api.Semaphore && draw(many) > 0 {
				c = call(api.UpIt, 0)
			}
			was := o.Shape()
			right := slices.Contains(s.calls, c.Kind) && c.Who >= 0 && c.Who < 4
			switch c.Kind {
			case api.EnterIt, api.LeaveIt:
				right = right && c.Val != notRight
			default:
				right = right && c.Val == 0
			}
			shut := right && d.blocked(c, size)
			a, n := o.Do(c), told[c.Kind]
			switch {
			case !right:
				if a != isWrong {
					t.Fatalf("Do(%+v) is %+v", c, a)
				}
				n[2]++
			case shut:
				if c.Kind == api.UpIt && a != (api.Answer{Errno: api.ErrSpace}) || c.Kind != api.UpIt && a != isShut {
					t.Fatalf("Do(%+v) is %+v at %+v", c, a, was)
				}
				n[1]++
			default:
				if a.Blocks || a.Errno != api.OK {
					t.Fatalf("Do(%+v) is %+v at %+v", c, a, was)
				}
				d.note(t, c, a, size)
				n[0]++
			}
			told[c.Kind] = n
			if !right || shut {
				looks(t, o, was)
			}
			d.holds(t, o.Shape(), s.kind, size)
		}
	}
	for _, s := range sizes {
		for _, k := range s.calls {
			n := told[k]
			never := k == api.UnlockIt || k == api.ArriveIt
			if n[0] < 1000 || n[1] < 100 && !never || n[2] < 100 {
				t.Errorf("call %d: %v", k, n)
			}
		}
	}
}
