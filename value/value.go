package value

import (
	"unicode/utf8"

	"orchard/api"
	"orchard/number"
)

// countSize is in how many bytes stands how many bytes or elements there are.
const countSize = 4

// Encode makes the bytes of a value; false, if it is none of the type.
func Encode(t Type, v api.Value) ([]byte, bool) {
	b, ok := put(nil, t, v)
	if !ok {
		return nil, false
	}
	return b, true
}

// put lays the bytes of v behind out. It gives up as soon as they are too many: lists that share their elements may hold far more values than could ever be gone through.
func put(out []byte, t Type, v api.Value) ([]byte, bool) {
	if !fits(t, v) {
		return nil, false
	}
	switch t.letter.shape {
	case ofNumber:
		out = number.Append(out, v.N, t.letter.size)
	case ofBytes:
		out = number.Append(out, len(v.S), countSize)
		out = append(out, v.S...)
	case ofVector:
		out = number.Append(out, len(v.L), countSize)
	}
	for i, e := range v.L {
		var ok bool
		out, ok = put(out, t.part(i), e)
		if !ok {
			return nil, false
		}
	}
	return out, len(out) <= api.MaxFrame
}

// fits tells whether v is of the type, but for what its elements are.
func fits(t Type, v api.Value) bool {
	l := t.letter
	switch l.shape {
	case ofNumber:
		return l.least <= v.N && v.N <= l.most && v.S == "" && len(v.L) == 0
	case ofBytes:
		return v.N == 0 && fitsBytes(l, v.S) && len(v.L) == 0
	case ofVector:
		return v.N == 0 && v.S == "" && len(v.L) <= api.MaxList
	default:
		return v.N == 0 && v.S == "" && len(v.L) == len(t.parts)
	}
}

func fitsBytes(l letter, s string) bool {
	return len(s) <= api.MaxBytes && (!l.text || utf8.ValidString(s))
}

// Decode reads the bytes of a value; false, if they are none of the type.
func Decode(t Type, b []byte) (api.Value, bool) {
	v, rest, ok := Take(t, b)
	if !ok || len(rest) > 0 {
		return api.Value{}, false
	}
	return v, true
}

// Take reads the value that b begins with, and tells what is left of b; false, if there is none. It looks at no more bytes than a value may have.
func Take(t Type, b []byte) (api.Value, []byte, bool) {
	front := b[:min(len(b), api.MaxFrame)]
	v, rest, ok := take(t, front)
	if !ok {
		return api.Value{}, nil, false
	}
	return v, b[len(front)-len(rest):], true
}

// take reads the value that b begins with, and tells what is left of b.
func take(t Type, b []byte) (api.Value, []byte, bool) {
	switch t.letter.shape {
	case ofNumber:
		return takeNumber(t, b)
	case ofBytes:
		return takeBytes(t, b)
	case ofVector:
		n, rest, ok := takeCount(b, api.MaxList)
		if !ok {
			return api.Value{}, nil, false
		}
		return takeElements(t, n, rest)
	default:
		return takeElements(t, len(t.parts), b)
	}
}

func takeNumber(t Type, b []byte) (api.Value, []byte, bool) {
	size := t.letter.size
	if len(b) < size {
		return api.Value{}, nil, false
	}
	v := api.Value{N: number.Signed(b[:size])}
	return v, b[size:], fits(t, v)
}

func takeBytes(t Type, b []byte) (api.Value, []byte, bool) {
	n, rest, ok := takeCount(b, api.MaxBytes)
	if !ok || len(rest) < n {
		return api.Value{}, nil, false
	}
	v := api.Value{S: string(rest[:n])}
	return v, rest[n:], fits(t, v)
}

func takeElements(t Type, n int, b []byte) (api.Value, []byte, bool) {
	var v api.Value
	for i := range n {
		e, rest, ok := take(t.part(i), b)
		if !ok {
			return api.Value{}, nil, false
		}
		v.L = append(v.L, e)
		b = rest
	}
	return v, b, true
}

// takeCount reads how many there are; false, if these are more than most.
func takeCount(b []byte, most int) (int, []byte, bool) {
	if len(b) < countSize {
		return 0, nil, false
	}
	n := number.Unsigned(b[:countSize])
	if n > uint64(most) {
		return 0, nil, false
	}
	return int(n), b[countSize:], true
}
