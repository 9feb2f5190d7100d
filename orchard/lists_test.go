package orchard_test

import (
	"bytes"
	"strings"
	"testing"

	"orchard/api"
	"orchard/orchard"
)

// Tests of P2: what is handed in, and what comes out.

// roomy: a list of these bytes, with spare room that is filled too, and all of that room.
func roomy(s string) (b []byte, room []byte) {
	room = append([]byte(s), "spare room"...)
	return room[:len(s)], room
}

// fill writes over a list and its spare room.
func fill(b []byte) {
	b = b[:cap(b)]
	for i := range b {
		b[i] = 0xaa
	}
}

// fillSpare writes over the spare room alone.
func fillSpare(b []byte) { fill(b[len(b):]) }

func unchanged(t *testing.T, call string, room []byte, s string) {
	t.Helper()
	if string(room) != s+"spare room" {
		t.Errorf("P2: %s has written into what was handed in: %q", call, room)
	}
}

func TestBytesHandedInStayAsTheyAre(t *testing.T) {
	for _, s := range []string{"", "\x00\x00\x00\x01a", "\x00\x00\x00\x02a", "\x00\x00\x00\x01a\x00\x00\x03\xe9\x00", strings.Repeat("x", 2000)} {
		b, room := roomy(s)
		orchard.Frame(b)
		unchanged(t, "Frame", room, s)
		orchard.Decode("t", b)
		unchanged(t, "Decode", room, s)
		r := orchard.NewReader()
		r.Feed(b)
		r.Feed([]byte("more"))
		unchanged(t, "Feed", room, s)
	}
}

// withRoom: the same value, each of its lists with one value more in its spare room.
func withRoom(v value) value {
	out := value{N: v.N, S: v.S}
	for _, e := range v.L {
		out.L = append(out.L, withRoom(e))
	}
	out.L = append(out.L, value{N: 77, S: "spare"})
	out.L = out.L[:len(v.L)]
	return out
}

func roomStays(v value) bool {
	spare := v.L[:len(v.L)+1][len(v.L)]
	ok := spare.N == 77 && spare.S == "spare" && spare.L == nil
	for _, e := range v.L {
		ok = ok && roomStays(e)
	}
	return ok
}

func TestValuesHandedInStayAsTheyAre(t *testing.T) {
	for schema, v := range samples() {
		given := withRoom(v)
		b, e := orchard.Encode(schema, given)
		if e != api.OK || !same(given, v) || !roomStays(given) {
			t.Errorf("P2: Encode(%s, ..) has written into what was handed in: %v, %d", schema, given, e)
		}
		want := string(b)
		for i := range given.L {
			given.L[i] = value{N: 9}
		}
		if string(b) != want {
			t.Errorf("P2: Encode(%s, ..) shares memory with its argument", schema)
		}
		bad := withRoom(list(v, number(2)))
		wrongValue(t, "("+schema+"?)", bad)
		if !same(bad, list(v, number(2))) || !roomStays(bad) {
			t.Errorf("P2: Encode with an error has written into what was handed in: %v", bad)
		}
	}
}

func TestWhatEncodeAndFrameAnswerIsNew(t *testing.T) {
	for schema, v := range samples() {
		a, _ := orchard.Encode(schema, v)
		want := string(a)
		b, _ := orchard.Encode(schema, v)
		fill(a)
		if c, _ := orchard.Encode(schema, v); string(b) != want || string(c) != want {
			t.Errorf("P2: two answers of Encode(%s, ..) share memory", schema)
		}
	}
	body, _ := roomy("hello")
	a, _ := orchard.Frame(body)
	b, _ := orchard.Frame(body)
	fill(a)
	if string(body) != "hello" {
		t.Errorf("P2: Frame's answer shares memory with the body: %q", body)
	}
	fill(body)
	if string(b) != counted("hello") {
		t.Errorf("P2: Frame's answer is %q behind the call", b)
	}
}

// fillLists writes over the spare room of all lists of a value.
func fillLists(v value) {
	spare := v.L[len(v.L):cap(v.L)]
	for i := range spare {
		spare[i] = value{N: 13, S: "over"}
	}
	for _, e := range v.L {
		fillLists(e)
	}
}

func TestWhatDecodeAnswersIsNew(t *testing.T) {
	for schema, v := range samples() {
		b, _ := orchard.Encode(schema, v)
		b = append(make([]byte, 0, 500), b...)
		x, _ := orchard.Decode(schema, b)
		y, _ := orchard.Decode(schema, b)
		fill(b)
		fillLists(x)
		if !same(x, v) || !same(y, v) {
			t.Errorf("P2: Decode(%s, ..) is %v and %v behind the call, want %v", schema, x, y, v)
		}
		for i := range x.L {
			x.L[i] = value{N: 13}
		}
		if !same(y, v) {
			t.Errorf("P2: two answers of Decode(%s, ..) share memory", schema)
		}
	}
}

func TestWhatIsFedIsNotKept(t *testing.T) {
	whole := []byte(counted("ab") + counted("") + counted("cde") + four(4) + "fg")
	r := orchard.NewReader()
	first, _ := r.Feed(whole)
	fill(whole)
	rest := []byte("hi" + counted("j") + "\x00\x00")
	second, _ := r.Feed(rest)
	fill(rest)
	mustFeed(t, r, "\x00\x01k", api.OK, "k")
	for _, b := range append(first, second...) {
		fillSpare(b)
	}
	if got := strings.Join(texts(append(first, second...)), "|"); got != "ab||cde|fghi|j" {
		t.Errorf("P2: behind the calls the bodies are %q", got)
	}
}

func TestBodiesAreNew(t *testing.T) {
	stream := []byte(counted("ab") + counted("cd") + counted("ef") + four(2) + "g")
	r := orchard.NewReader()
	l, _ := r.Feed(stream)
	for i := range l {
		fill(l[i])
		for k := i + 1; k < len(l); k++ {
			if !bytes.Equal(l[k], stream[6*k+4:6*k+6]) {
				t.Errorf("P2: body %d shares memory with body %d", k, i)
			}
		}
	}
	for i := range l[:cap(l)] {
		l[:cap(l)][i] = nil
	}
	if string(stream[:6]) != counted("ab") {
		t.Errorf("P2: a body shares memory with what was fed: %q", stream)
	}
	mustFeed(t, r, "h"+counted("ij"), api.OK, "gh", "ij")
}
