package server

import (
	"reflect"
	"testing"

	"orchard/api"
	"orchard/frame"
)

const (
	hello  = "\x00\x00\x00\x04\x00\x00\x00\x01"
	listen = "\x00\x00\x00\x0e\x00\x00\x00\x06\x00\x00\x00\x01\x00\x00\x00\x01/\x01"
)

func listening(t *testing.T) (*Server, int) {
	t.Helper()
	d, _ := api.NewDisk()
	s, errno := New(d)
	if errno != api.OK {
		t.Fatalf("New: %d", errno)
	}
	n, _ := s.Connect()
	if errno := s.Feed(n, []byte(hello+listen)); errno != api.OK || len(s.watches) != 1 {
		t.Fatalf("Feed: %d; %d watches", errno, len(s.watches))
	}
	return s, n
}

// Of a session at fault nothing is kept but what can be taken.
func TestWhatIsKeptOfASessionAtFault(t *testing.T) {
	for _, in := range []string{"\x00\x00\x03\xe9more", "\x00\x00\x00\x00\x00\x00\x00\x63half"} {
		s, n := listening(t)
		s.Feed(n, []byte(in))
		s.Feed(n, []byte("\x00\x00\x00\x63more"))
		if one := s.sessions[n]; len(s.watches) != 0 || len(one.out) == 0 || !reflect.DeepEqual(one.cutter, frame.Cutter{}) {
			t.Errorf("behind %x: %d watches, %d bytes to be taken", in, len(s.watches), len(one.out))
		}
	}
}

func TestWhatIsKeptOfAClosedSession(t *testing.T) {
	s, n := listening(t)
	if errno := s.Close(n); errno != api.OK || len(s.watches) != 0 || len(s.sessions) != 0 {
		t.Errorf("Close: %d; %d watches, %d sessions", errno, len(s.watches), len(s.sessions))
	}
}

// What can never be told is not kept: a watch of a text that is no path.
func TestNothingIsKeptOfAWatchOfNoPath(t *testing.T) {
	for kind := api.Get; kind <= api.List; kind++ {
		s, n := listening(t)
		s.Feed(n, []byte("\x00\x00\x00\x0e\x00\x00\x00"+string(rune(kind))+"\x00\x00\x00\x01\x00\x00\x00\x01a\x01"))
		if len(s.watches) != 1 || s.sessions[n].ended {
			t.Errorf("kind %d: %d watches, want the one that was there", kind, len(s.watches))
		}
	}
}
