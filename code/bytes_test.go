package code

import (
	"bytes"
	"slices"
	"testing"

	"rowlock/api"
)

// encoded are the bytes of instructions that are right.
func encoded(t *testing.T, l ...api.Ins) []byte {
	t.Helper()
	b, errno := Encode(l...)
	if errno != api.OK {
		t.Fatalf("Encode(%+v) is %d", l, errno)
	}
	return b
}

// decodes holds Decode of bytes against instructions.
func decodes(t *testing.T, b []byte, want ...api.Ins) {
	t.Helper()
	if l, errno := Decode(b); errno != api.OK || !slices.Equal(l, want) {
		t.Errorf("Decode(% x) is %+v, %d, not %+v", b, l, errno, want)
	}
}

// noCode holds Decode of bytes against ErrForm.
func noCode(t *testing.T, b []byte) {
	t.Helper()
	if l, errno := Decode(b); errno != api.ErrForm || len(l) != 0 {
		t.Errorf("Decode(% x) is %+v, %d", b, l, errno)
	}
}

// bytesOf are the bytes of an instruction, as the document says them.
func bytesOf(r row, i api.Ins) []byte {
	b := []byte{byte(i.Op)}
	switch {
	case r.arg():
		b = append(b, byte(i.Arg))
	case r.val:
		v := uint64(i.Val)
		b = append(b, byte(v>>56), byte(v>>48), byte(v>>40), byte(v>>32), byte(v>>24), byte(v>>16), byte(v>>8), byte(v))
	}
	return b
}

func TestBytesExample(t *testing.T) {
	if b := encoded(t, api.Ins{Op: api.Get, Arg: 3}); !bytes.Equal(b, []byte{4, 3}) {
		t.Errorf("get 3 is % x", b)
	}
}

// TestEncodeOne: each operation's bytes, there and back.
func TestEncodeOne(t *testing.T) {
	for _, r := range table {
		for _, i := range r.rights() {
			want := bytesOf(r, i)
			if b := encoded(t, i); !bytes.Equal(b, want) {
				t.Errorf("Encode(%+v) is % x, not % x", i, b, want)
			}
			decodes(t, want, i)
		}
	}
}

// TestNone: no instructions are no bytes, and come back from them.
func TestNone(t *testing.T) {
	for _, l := range [][]api.Ins{nil, {}} {
		if b := encoded(t, l...); len(b) != 0 {
			t.Errorf("none are % x", b)
		}
	}
	decodes(t, nil)
	decodes(t, []byte{})
}

func TestEncodeSeveral(t *testing.T) {
	l := []api.Ins{{Op: api.Atomic, Arg: 63}, {Op: api.Push, Val: 0x0123456789abcdef}, {Op: api.Swap}, {Op: api.Push, Val: api.NegZero}, {Op: api.End}}
	want := []byte("\x15\x3f\x01\x01\x23\x45\x67\x89\xab\xcd\xef\x12\x01\x80\x00\x00\x00\x00\x00\x00\x00\x16")
	if b := encoded(t, l...); !bytes.Equal(b, want) {
		t.Errorf("Encode is % x", b)
	}
	decodes(t, want, l...)
}

// TestEncodeMany: there is no limit of instructions.
func TestEncodeMany(t *testing.T) {
	for _, n := range []int{api.MaxCode, api.MaxCode + 1, 5000} {
		l := slices.Repeat([]api.Ins{{Op: api.Jump, Arg: 9}}, n)
		b := encoded(t, l...)
		if !bytes.Equal(b, bytes.Repeat([]byte{19, 9}, n)) {
			t.Errorf("%d jumps are wrong", n)
		}
		decodes(t, b, l...)
	}
}

// TestEncodeWrong: one that is not right, alone and among others.
func TestEncodeWrong(t *testing.T) {
	get, push := api.Ins{Op: api.Get, Arg: 3}, api.Ins{Op: api.Push, Val: api.One}
	for _, i := range allWrongs() {
		for _, l := range [][]api.Ins{{i}, {i, get, push}, {get, i, push}, {get, push, i}, {i, i}} {
			if b, errno := Encode(l...); errno != api.ErrForm || len(b) != 0 {
				t.Errorf("Encode(%+v) is % x, %d", l, b, errno)
			}
		}
	}
}

// TestDecodeEarly: bytes that end within an instruction.
func TestDecodeEarly(t *testing.T) {
	ahead := []byte{0, 4, 3}
	for _, r := range table {
		for _, i := range r.rights() {
			b := bytesOf(r, i)
			for n := 1; n < len(b); n++ {
				noCode(t, b[:n])
				noCode(t, append(slices.Clone(ahead), b[:n]...))
			}
		}
	}
}

// TestDecodeWrong: operations, Args and values that may not be, alone and among others.
func TestDecodeWrong(t *testing.T) {
	var wrong [][]byte
	for _, o := range noOps() {
		wrong = append(wrong, []byte{byte(o)}, []byte{byte(o), 0})
	}
	for _, r := range table {
		for a := r.highest + 1; r.arg() && a < 256; a++ {
			wrong = append(wrong, []byte{byte(r.op), byte(a)})
		}
	}
	for _, v := range wrongVals {
		wrong = append(wrong, bytesOf(table[api.Push], api.Ins{Op: api.Push, Val: v}))
	}
	for _, b := range wrong {
		noCode(t, b)
		noCode(t, append([]byte{28, 4, 3}, b...))
		noCode(t, append(slices.Clone(b), 28, 4, 3))
	}
}

// TestDecodeShort: all bytes up to two are held against what all instructions of so many bytes come to.
func TestDecodeShort(t *testing.T) {
	said := map[string][]api.Ins{"": nil}
	var single []api.Ins
	for _, i := range allRights() {
		b := encoded(t, i)
		if len(b) <= 2 {
			said[string(b)] = []api.Ins{i}
		}
		if len(b) == 1 {
			single = append(single, i)
		}
	}
	for _, i := range single {
		for _, j := range single {
			said[string(encoded(t, i, j))] = []api.Ins{i, j}
		}
	}
	hold := func(b []byte) {
		if want, ok := said[string(b)]; ok {
			decodes(t, b, want...)
		} else {
			noCode(t, b)
		}
	}
	hold(nil)
	for x := range 256 {
		hold([]byte{byte(x)})
		for y := range 256 {
			hold([]byte{byte(x), byte(y)})
		}
	}
}

// TestPrefixes: P14.4: unlike ones have unlike bytes, and none's begin another's.
func TestPrefixes(t *testing.T) {
	l := allRights()
	all := make([][]byte, len(l))
	for at, i := range l {
		all[at] = encoded(t, i)
	}
	for x := range l {
		for y := range l {
			if x != y && bytes.HasPrefix(all[y], all[x]) {
				t.Errorf("%+v begins %+v", l[x], l[y])
			}
		}
	}
}

// numbers draws numbers below n, the same ones for the same seed.
func numbers(seed uint64) func(n int) int {
	return func(n int) int {
		seed = seed*6364136223846793005 + 1442695040888963407
		return int(seed >> 33 % uint64(n))
	}
}

// drawnIns is a right instruction, with any value that is right.
func drawnIns(draw func(int) int) api.Ins {
	r := table[draw(len(table))]
	i := api.Ins{Op: r.op}
	if r.arg() {
		i.Arg = draw(r.highest + 1)
	}
	if r.val {
		i.Val = api.Val(draw(1<<31))<<40 ^ api.Val(draw(1<<31))<<20 ^ api.Val(draw(1<<31))
		if !Right(i) {
			i.Val = api.NaN
		}
	}
	return i
}

// TestBytesDrawn: P14.3 over drawn instructions; and drawn bytes, of which those that are read at all are written again as they were.
func TestBytesDrawn(t *testing.T) {
	read := 0
	for seed := range uint64(3000) {
		draw := numbers(seed)
		var l []api.Ins
		for range draw(20) {
			l = append(l, drawnIns(draw))
		}
		b := encoded(t, l...)
		decodes(t, b, l...)
		for range 3 {
			if len(b) > 0 {
				b[draw(len(b))] = byte(draw(256) >> draw(4))
			}
		}
		b = b[:len(b)-min(len(b), draw(3))]
		m, errno := Decode(b)
		if errno != api.OK {
			noCode(t, b)
			continue
		}
		read++
		if again := encoded(t, m...); !bytes.Equal(again, b) {
			t.Errorf("% x is read as %+v, and written as % x", b, m, again)
		}
	}
	if read < 100 {
		t.Errorf("just %d drawn bytes were read", read)
	}
}

// TestBytesStay: what is handed in stays, spare room behind its end too, and what is answered is the caller's.
func TestBytesStay(t *testing.T) {
	room := []api.Ins{{Op: api.Get, Arg: 3}, {Op: api.Push, Val: api.One}, {Op: 99, Arg: 7}}
	was := slices.Clone(room)
	b := encoded(t, room[:2]...)
	if !slices.Equal(room, was) {
		t.Errorf("what was handed in is %+v", room)
	}
	bytesRoom := append(slices.Clone(b), 0xee, 0xdd)
	handed := bytesRoom[:len(b)]
	l, _ := Decode(handed)
	if !bytes.Equal(bytesRoom[len(b):], []byte{0xee, 0xdd}) || !bytes.Equal(handed, b) {
		t.Errorf("what was handed in is % x", bytesRoom)
	}
	clear(handed)
	clear(b)
	if !slices.Equal(l, was[:2]) || !slices.Equal(room, was) {
		t.Errorf("what was answered is %+v", l)
	}
	clear(l)
	decodes(t, encoded(t, room[:2]...), was[:2]...)
}
