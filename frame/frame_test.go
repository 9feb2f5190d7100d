package frame

import (
	"runtime"
	"slices"
	"testing"
	"time"
)

func TestEachWorksInOrderAndStopsAtALengthTooGreat(t *testing.T) {
	var c Cutter
	var got []string
	work := func(body []byte) { got = append(got, string(body)) }
	if !c.Each([]byte("\x00\x00\x00\x01a\x00\x00\x00\x00\x00\x00\x00\x02b"), work) || !slices.Equal(got, []string{"a", ""}) {
		t.Errorf("two frames and a piece: %q", got)
	}
	if c.Each([]byte("c\x00\x00\x03\xe9\x00\x00\x00\x01d"), work) || !slices.Equal(got, []string{"a", "", "bc"}) {
		t.Errorf("a length that is too great: %q", got)
	}
	if c.Each([]byte("\x00\x00\x00\x01e"), work) || len(got) != 3 {
		t.Errorf("behind a length that is too great: %q", got)
	}
	if c.part != nil {
		t.Errorf("behind a length that is too great %d bytes are kept", len(c.part))
	}
}

// A goroutine that has told the WaitGroup so may need a moment to be gone: hence the patience.
func TestNoGoroutineIsLeft(t *testing.T) {
	before := runtime.NumGoroutine()
	for range 200 {
		var c Cutter
		c.Each([]byte("\x00\x00\x00\x01a\x00\x00\x00\x00"), func([]byte) {})
		c.Each([]byte("\x00\x00\x00\x00\xff\xff\xff\xff\x00\x00\x00\x00"), func([]byte) {})
		c.Each([]byte("\x00\x00\x00\x00"), func([]byte) {})
	}
	for range 100 {
		if runtime.NumGoroutine() <= before {
			return
		}
		time.Sleep(10 * time.Millisecond)
	}
	t.Errorf("%d goroutines ahead, %d behind", before, runtime.NumGoroutine())
}
