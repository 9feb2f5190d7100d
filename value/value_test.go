package value

import (
	"strings"
	"testing"

	"orchard/api"
)

func mustParse(t *testing.T, schema string) Type {
	t.Helper()
	x, ok := Parse(schema)
	if !ok {
		t.Fatalf("%s is a schema", schema)
	}
	return x
}

func TestTakeTellsWhatIsLeft(t *testing.T) {
	x := mustParse(t, "(?b)")
	first, second := "\x01\x00\x00\x00\x02ab", "\x00\x00\x00\x00\x00"
	for _, more := range []string{"", "\x00", second, strings.Repeat("\xff", 2000)} {
		v, rest, ok := Take(x, []byte(first+more))
		if !ok || v.L[0].N != 1 || v.L[1].S != "ab" || string(rest) != more {
			t.Errorf("Take of %.20x = %v, %.20x, %t", first+more, v, rest, ok)
		}
	}
	for i := range first {
		if v, rest, ok := Take(x, []byte(first[:i])); ok || v.L != nil || rest != nil {
			t.Errorf("Take of %x = %v, %x, %t", first[:i], v, rest, ok)
		}
	}
}

// A value has at most MaxFrame bytes, however many there are.
func TestTakeOfTheLongest(t *testing.T) {
	x := mustParse(t, "([8][8][8][8])")
	rows := func(last byte) string {
		row := "\x00\x00\x00\x20" + strings.Repeat("\x00", 32*8)
		return row + row + row + "\x00\x00\x00" + string(rune(last)) + strings.Repeat("\x00", int(last)*8)
	}
	for _, more := range []string{"", "more"} {
		if _, rest, ok := Take(x, []byte(rows(27)+more)); !ok || string(rest) != more || len(rows(27)) != api.MaxFrame {
			t.Errorf("%d bytes, and %d more: %q, %t", len(rows(27)), len(more), rest, ok)
		}
		if _, _, ok := Take(x, []byte(rows(28)+more)); ok {
			t.Errorf("%d bytes, and %d more, begin with a value", len(rows(28)), len(more))
		}
	}
}
