package code

import "rowlock/api"

// valBytes is how many bytes a Val has.
const valBytes = 8

// Encode are the bytes of some instructions, one behind the other.
func Encode(l ...api.Ins) ([]byte, api.Errno) {
	var b []byte
	for _, i := range l {
		if !Right(i) {
			return nil, api.ErrForm
		}
		b = appended(b, i)
	}
	return b, api.OK
}

// appended is b with the bytes of an instruction behind its end.
func appended(b []byte, i api.Ins) []byte {
	b = append(b, byte(i.Op))
	arg, val := Uses(i.Op)
	if arg {
		b = append(b, byte(i.Arg))
	}
	if val {
		for at := range valBytes {
			b = append(b, byte(i.Val>>(8*(valBytes-1-at))))
		}
	}
	return b
}

// Decode are the instructions that bytes say. How long one is hangs on its first byte alone: so bytes can be read in one way only.
func Decode(b []byte) ([]api.Ins, api.Errno) {
	var l []api.Ins
	for len(b) > 0 {
		n := width(api.OpCode(b[0]))
		if n > len(b) {
			return nil, api.ErrForm
		}
		i := taken(b[:n])
		if !Right(i) {
			return nil, api.ErrForm
		}
		l = append(l, i)
		b = b[n:]
	}
	return l, api.OK
}

// width is how many bytes an instruction has.
func width(o api.OpCode) int {
	n := 1
	arg, val := Uses(o)
	if arg {
		n++
	}
	if val {
		n += valBytes
	}
	return n
}

// taken is what the bytes of one instruction say, right or not.
func taken(b []byte) api.Ins {
	i := api.Ins{Op: api.OpCode(b[0])}
	arg, val := Uses(i.Op)
	if arg {
		i.Arg = int(b[1])
	}
	if val {
		for _, one := range b[1:] {
			i.Val = i.Val<<8 | api.Val(one)
		}
	}
	return i
}
