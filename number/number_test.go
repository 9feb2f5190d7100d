package number

import (
	"math"
	"testing"
)

func TestSigned(t *testing.T) {
	for _, c := range []struct {
		n     int
		bytes string
	}{
		{0, "\x00"}, {1, "\x01"}, {-1, "\xff"},
		{0, "\x00\x00\x00\x00"}, {258, "\x00\x00\x01\x02"}, {-2, "\xff\xff\xff\xfe"}, {math.MaxInt32, "\x7f\xff\xff\xff"}, {math.MinInt32, "\x80\x00\x00\x00"},
		{math.MaxInt64, "\x7f\xff\xff\xff\xff\xff\xff\xff"}, {math.MinInt64, "\x80\x00\x00\x00\x00\x00\x00\x00"}, {-1, "\xff\xff\xff\xff\xff\xff\xff\xff"}, {1 << 32, "\x00\x00\x00\x01\x00\x00\x00\x00"},
	} {
		if b := Append([]byte("x"), c.n, len(c.bytes)); string(b) != "x"+c.bytes {
			t.Errorf("Append of %d in %d bytes: %x", c.n, len(c.bytes), b)
		}
		if n := Signed([]byte(c.bytes)); n != c.n {
			t.Errorf("Signed of %x: %d, want %d", c.bytes, n, c.n)
		}
	}
}

func TestUnsigned(t *testing.T) {
	for s, want := range map[string]uint64{"": 0, "\x00\x00\x03\xe9": 1001, "\xff\xff\xff\xff": math.MaxUint32, "\xff\xff\xff\xff\xff\xff\xff\xff": math.MaxUint64} {
		if n := Unsigned([]byte(s)); n != want {
			t.Errorf("Unsigned of %x: %d, want %d", s, n, want)
		}
	}
}
