package orchard_test

import (
	"math/rand"
	"strings"
	"testing"

	"orchard/api"
)

// Tests of P13 and P14: sessions whose frames are drawn (always the same ones), held against the model.

// drawer draws frames.
type drawer struct{ *rand.Rand }

func (d drawer) of(l ...string) string { return l[d.Intn(len(l))] }

func (d drawer) path() string {
	if d.Intn(20) == 0 {
		return d.of(wrongPaths...)
	}
	return d.of("/", "/a", "/b", "/a/b", "/a/c", "/a/b/c", "/b/c", "/c")
}

func (d drawer) version() int { return []int{-1, -1, -1, 0, 1, 2, -2}[d.Intn(7)] }

func (d drawer) data() string { return d.of("", "x", "yy", fullData, overData) }

// request draws one that makes sense in a version.
func (d drawer) request(version int) string {
	kind := 1 + d.Intn(7)
	w := d.of(noWatch, watch, watch)
	fields := ""
	switch kind {
	case api.Create:
		fields = making1(d.path(), d.data())
		if version == 2 {
			fields += counted(d.of("", "", "n", fullNote, overNote))
		}
	case api.Delete:
		fields = deleting(d.path(), d.version())
	case api.Set:
		fields = setting(d.path(), d.data(), d.version())
	case api.Get, api.Exists, api.List:
		fields = looking(d.path(), w)
	}
	return request(kind, d.Intn(1<<20), fields)
}

// spoilt: one with a byte that is another, a byte more or less, or something else.
func (d drawer) spoilt(version int) string {
	f := []byte(d.request(version))
	switch d.Intn(5) {
	case 0:
		f[d.Intn(len(f))] ^= byte(1 << d.Intn(8))
		return string(f)
	case 1:
		return counted(string(f[4:]) + "\x00")
	case 2:
		return counted(string(f[4 : len(f)-1]))
	case 3:
		return d.request(3 - version)
	}
	return d.of(four(1001), counted(""), four(-1), counted("hello"), "\x00\x00\x03", four(1000))
}

// pieces cuts bytes.
func (d drawer) pieces(b string) []string {
	var l []string
	for len(b) > 0 {
		n := 1 + d.Intn(min(len(b), 1+d.Intn(60)))
		l = append(l, b[:n])
		b = b[n:]
	}
	return append(l, "")
}

func TestDrawnSessions(t *testing.T) {
	changes, ended := 0, 0
	for seed := range 120 {
		d := drawer{rand.New(rand.NewSource(int64(seed)))}
		p := newPair(t)
		var open []int
		for range 300 {
			if len(open) < api.MaxSessions && (len(open) == 0 || d.Intn(8) == 0) {
				open = append(open, p.connect())
				if d.Intn(10) > 0 {
					p.feed(open[len(open)-1], d.pieces(counted(four(d.Intn(4))))...)
				}
			}
			i := d.Intn(len(open))
			x := p.m.sessions[open[i]-1]
			in := d.request(1 + (x.version+1)%2)
			if d.Intn(30) == 0 {
				in = d.spoilt(1 + x.version/2)
			}
			p.feed(open[i], d.pieces(in)...)
			if x.ended || d.Intn(60) == 0 {
				ended++
				p.mustBeSame()
				p.close(open[i])
				open = append(open[:i], open[i+1:]...)
			}
			if d.Intn(3) == 0 {
				p.mustBeSame()
			}
		}
		p.mustBeSame()
		changes += p.m.number
	}
	if changes < 2000 || ended < 500 {
		t.Errorf("%d changes were drawn, and %d ends of sessions", changes, ended)
	}
}

// In whatever pieces the same is sent, the same comes out, for all.
func TestThePiecesDoNotMatter(t *testing.T) {
	for seed := range 30 {
		d := drawer{rand.New(rand.NewSource(int64(seed)))}
		in := counted(four(1 + seed%2))
		for range 40 {
			in += d.request(1 + seed%2)
		}
		if seed%3 == 0 {
			in += d.spoilt(1+seed%2) + d.request(1+seed%2)
		}
		for _, pieces := range [][]string{{in}, strings.Split(in, ""), d.pieces(in), d.pieces(in), {"", in, ""}} {
			p := newPair(t)
			watcher, sender := p.connect(), p.connect()
			p.feed(watcher, counted(four(2))+request(api.List, 1, looking("/", watch))+request(api.Exists, 2, looking("/a", watch))+request(api.Exists, 3, looking("/b", watch)))
			p.feed(sender, pieces...)
			p.mustBeSame()
		}
	}
}

// A frame does what it does as soon as it is there whole: neither sooner nor later.
func TestAFrameIsWorkedAtAsSoonAsItIsWhole(t *testing.T) {
	d := drawer{rand.New(rand.NewSource(5))}
	p := newPair(t)
	a, b := p.connect(), p.connect()
	p.feed(b, counted(four(1))+request(api.List, 1, looking("/", watch))+request(api.Exists, 1, looking("/a", watch)))
	in := counted(four(2))
	for range 60 {
		in += d.request(2)
	}
	for i := range len(in) {
		p.feed(a, in[i:i+1])
		p.mustBeSame()
	}
	if p.m.number < 5 {
		t.Errorf("%d changes were drawn", p.m.number)
	}
}

// Two sessions send in turns, each in the midst of its frames: neither disturbs the other.
func TestSessionsInTurns(t *testing.T) {
	for seed := range 20 {
		d := drawer{rand.New(rand.NewSource(int64(seed)))}
		p := newPair(t)
		left := map[int][]string{}
		for version := range 4 {
			n := p.connect()
			in := counted(four(1 + version%2))
			for range 30 {
				in += d.request(1 + version%2)
			}
			left[n] = d.pieces(in)
		}
		left[p.connect()] = d.pieces(strings.Repeat("\x00\x00\x02\x00", 200)) // which makes no sense
		for len(left) > 0 {
			n := 1 + d.Intn(5)
			if len(left[n]) == 0 {
				delete(left, n)
				continue
			}
			p.feed(n, left[n][0])
			left[n] = left[n][1:]
			p.mustBeSame()
		}
	}
}
