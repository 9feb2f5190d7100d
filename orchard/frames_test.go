package orchard_test

import (
	"bytes"
	"slices"
	"strings"
	"testing"

	"orchard/api"
	"orchard/orchard"
)

func TestFrame(t *testing.T) {
	for _, n := range []int{0, 1, 2, 255, 256, 257, 999, api.MaxFrame} {
		body := strings.Repeat("\xfe", n)
		if b, e := orchard.Frame([]byte(body)); string(b) != counted(body) || e != api.OK {
			t.Errorf("P5: the frame of %d bytes: %x, %d", n, b, e)
		}
	}
	if b, e := orchard.Frame(nil); string(b) != four(0) || e != api.OK {
		t.Errorf("P5: the frame of nothing: %x, %d", b, e)
	}
	for _, n := range []int{api.MaxFrame + 1, 1 << 16, 1 << 20} {
		if b, e := orchard.Frame(make([]byte, n)); b != nil || e != api.ErrFrame {
			t.Errorf("P5: the frame of %d bytes: %d bytes, %d, want ErrFrame", n, len(b), e)
		}
	}
}

// mustFeed feeds a piece, and holds what comes out against what is wanted.
func mustFeed(t *testing.T, r *orchard.Reader, piece string, errno api.Errno, want ...string) {
	t.Helper()
	l, e := r.Feed([]byte(piece))
	if e != errno || !slices.Equal(texts(l), want) {
		t.Errorf("P6: Feed(%.99q) = %.99q, %d, want %.99q, %d", piece, l, e, want, errno)
	}
}

func texts(l [][]byte) []string {
	var out []string
	for _, b := range l {
		out = append(out, string(b))
	}
	return out
}

func TestFourthExample(t *testing.T) {
	r := orchard.NewReader()
	mustFeed(t, r, "\x00\x00\x00", api.OK)
	mustFeed(t, r, "\x01\x41\x00\x00\x00\x00", api.OK, "A", "")
	mustFeed(t, r, "\x00\x00\x03\xe9", api.ErrFrame)
	mustFeed(t, r, "\x00\x00\x00\x00", api.ErrFrame)
	mustFeed(t, r, "", api.ErrFrame)
	mustFeed(t, r, counted("abc"), api.ErrFrame)
}

func TestFeedOfNothing(t *testing.T) {
	r := orchard.NewReader()
	for range 3 {
		if l, e := r.Feed(nil); len(l) != 0 || e != api.OK {
			t.Errorf("P6: Feed(nil) = %q, %d", l, e)
		}
		mustFeed(t, r, "", api.OK)
	}
	mustFeed(t, r, four(2)+"a", api.OK)
	mustFeed(t, r, "", api.OK)
	mustFeed(t, r, "b", api.OK, "ab")
}

func TestLongestFrame(t *testing.T) {
	most := strings.Repeat("x", api.MaxFrame)
	r := orchard.NewReader()
	mustFeed(t, r, counted(most)+counted(most)[:1003], api.OK, most)
	mustFeed(t, r, "x"+counted("y"), api.OK, most, "y")
}

// A length that is too great is told as soon as its four bytes are there, and not ahead of that.
func TestLengthTooGreat(t *testing.T) {
	for _, head := range []string{"\x00\x00\x03\xe9", "\x00\x00\x04\x00", "\x00\x01\x00\x00", "\x01\x00\x00\x01", "\x7f\xff\xff\xff", "\x80\x00\x00\x00", "\xff\xff\xff\xfe", "\xff\xff\xff\xff"} {
		r := orchard.NewReader()
		mustFeed(t, r, counted("a")+counted("")+head, api.ErrFrame, "a", "")
		mustFeed(t, r, counted("b"), api.ErrFrame)
		r = orchard.NewReader()
		mustFeed(t, r, head[:3], api.OK)
		mustFeed(t, r, head[3:], api.ErrFrame)
		mustFeed(t, r, strings.Repeat("\x00", 2000), api.ErrFrame)
		r = orchard.NewReader()
		mustFeed(t, r, counted("a")+head+counted("b")+counted("c"), api.ErrFrame, "a")
	}
	r := orchard.NewReader()
	mustFeed(t, r, counted("\xff\xff\xff\xff")+"\x00\x00\x03", api.OK, "\xff\xff\xff\xff") // within a body it is no length
	mustFeed(t, r, "\xe8", api.OK)
}

// feedAll feeds pieces and tells all that came out, and which error there was at the end.
func feedAll(pieces ...string) ([]string, api.Errno) {
	var out []string
	var last api.Errno
	r := orchard.NewReader()
	for _, p := range pieces {
		l, e := r.Feed([]byte(p))
		out, last = append(out, texts(l)...), e
	}
	return out, last
}

func TestPiecesDoNotMatter(t *testing.T) {
	good := counted("a") + counted("") + counted("bcd") + counted("") + counted("\x00\x00\x03\xe9")
	bodies := []string{"a", "", "bcd", "", "\x00\x00\x03\xe9"}
	for _, c := range []struct {
		stream string
		e      api.Errno
	}{{good, api.OK}, {good + four(3) + "xy", api.OK}, {good + "\x00\x00\x03\xe9", api.ErrFrame}, {good + "\xff\x00\x00\x00" + good, api.ErrFrame}} {
		hold := func(pieces ...string) {
			t.Helper()
			if l, e := feedAll(pieces...); !slices.Equal(l, bodies) || e != c.e {
				t.Errorf("P6: pieces %q: %q, %d, want %q, %d", pieces, l, e, bodies, c.e)
			}
		}
		hold(c.stream)
		for i := range c.stream {
			for k := i; k <= len(c.stream); k++ {
				hold(c.stream[:i], c.stream[i:k], c.stream[k:])
			}
		}
		for size := 1; size < len(c.stream); size++ {
			var pieces []string
			for p := range slices.Chunk([]byte(c.stream), size) {
				pieces = append(pieces, string(p))
			}
			hold(pieces...)
		}
	}
}

func TestEachFrameComesWithItsLastByte(t *testing.T) {
	r := orchard.NewReader()
	for range 3 {
		frame := counted("hello")
		for i := range len(frame) - 1 {
			mustFeed(t, r, frame[i:i+1], api.OK)
		}
		mustFeed(t, r, frame[len(frame)-1:], api.OK, "hello")
	}
}

func TestManyFramesAtOnce(t *testing.T) {
	const n = 20000
	l, e := orchard.NewReader().Feed(bytes.Repeat([]byte(counted("ab")), n))
	if len(l) != n || e != api.OK {
		t.Fatalf("P6: %d frames, %d", len(l), e)
	}
	for _, b := range l {
		if string(b) != "ab" {
			t.Fatalf("P6: a body is %q", b)
		}
	}
}

func TestReadersHaveNothingToDoWithOneAnother(t *testing.T) {
	a, b := orchard.NewReader(), orchard.NewReader()
	mustFeed(t, a, four(2)+"x", api.OK)
	mustFeed(t, b, four(1), api.OK)
	mustFeed(t, a, "\xff"+"\xff\xff\xff\xff", api.ErrFrame, "x\xff")
	mustFeed(t, b, "y", api.OK, "y")
	mustFeed(t, orchard.NewReader(), counted("z"), api.OK, "z")
}
