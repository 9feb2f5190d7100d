package orchard_test

import (
	"testing"

	"orchard/api"
	"orchard/orchard"
)

type value = api.Value

func number(n int) value { return value{N: n} }

func text(s string) value { return value{S: s} }

func list(l ...value) value { return value{L: l} }

func same(a, b value) bool {
	if a.N != b.N || a.S != b.S || len(a.L) != len(b.L) {
		return false
	}
	for i := range a.L {
		if !same(a.L[i], b.L[i]) {
			return false
		}
	}
	return true
}

// isNothing: the value beside an error.
func isNothing(v value) bool { return v.N == 0 && v.S == "" && v.L == nil }

// mustEncode holds a value and its bytes against each other, both ways.
func mustEncode(t *testing.T, schema string, v value, want string) {
	t.Helper()
	if b, e := orchard.Encode(schema, v); e != api.OK || string(b) != want {
		t.Errorf("P3: Encode(%s, %.99v) = %x, %d, want %x", schema, v, b, e, want)
	}
	if got, e := orchard.Decode(schema, []byte(want)); e != api.OK || !same(got, v) {
		t.Errorf("P4: Decode(%s, %x) = %.99v, %d, want %.99v", schema, want, got, e, v)
	}
}

func wrongSchema(t *testing.T, schema string) {
	t.Helper()
	if b, e := orchard.Encode(schema, value{N: 5, S: "\xff"}); b != nil || e != api.ErrSchema {
		t.Errorf("P3: Encode(%.99q, ..) = %x, %d, want ErrSchema", schema, b, e)
	}
	if v, e := orchard.Decode(schema, make([]byte, 2000)); !isNothing(v) || e != api.ErrSchema {
		t.Errorf("P4: Decode(%.99q, ..) = %v, %d, want ErrSchema", schema, v, e)
	}
}

func rightSchema(t *testing.T, schema string) {
	t.Helper()
	if b, e := orchard.Encode(schema, value{N: 5, S: "\xff"}); b != nil || e != api.ErrValue {
		t.Errorf("P3: Encode(%q, a wrong value) = %x, %d, want ErrValue", schema, b, e)
	}
	if v, e := orchard.Decode(schema, nil); !isNothing(v) || e != api.ErrBytes {
		t.Errorf("P4: Decode(%q, nil) = %v, %d, want ErrBytes", schema, v, e)
	}
}

func wrongValue(t *testing.T, schema string, v value) {
	t.Helper()
	if b, e := orchard.Encode(schema, v); b != nil || e != api.ErrValue {
		t.Errorf("P3: Encode(%s, %.99v) = %x, %d, want ErrValue", schema, v, b, e)
	}
}

func wrongBytes(t *testing.T, schema string, b string) {
	t.Helper()
	if v, e := orchard.Decode(schema, []byte(b)); !isNothing(v) || e != api.ErrBytes {
		t.Errorf("P4: Decode(%s, %x) = %.99v, %d, want ErrBytes", schema, b, v, e)
	}
}

// four: a number of 0 or more in four bytes.
func four(n int) string {
	return string([]byte{byte(n >> 24), byte(n >> 16), byte(n >> 8), byte(n)})
}

// counted: bytes with how many they are ahead.
func counted(s string) string { return four(len(s)) + s }
