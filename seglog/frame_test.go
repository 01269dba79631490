package seglog_test

import (
	"bytes"
	"encoding/hex"
	"testing"

	"cicerone/api"
	"cicerone/seglog"
)

// P7.1: the frame of a record, of one byte up to the most.
func TestFrame(t *testing.T) {
	for _, size := range []int{1, 2, 3, 40, 255, 256, 257, 1000, 3999, api.MaxRecord} {
		rec := make([]byte, size)
		for i := range rec {
			rec[i] = byte(i*7 + size)
		}
		was := string(rec)
		b, e := seglog.Frame(rec)
		if e != api.OK || string(b) != framed(was) || len(b) != 40+size {
			t.Errorf("Frame of %d bytes is %x, %d", size, b, e)
		}
		if string(rec) != was {
			t.Errorf("Frame has changed its %d bytes", size)
		}
	}
}

// P7.1: a frame as it was reckoned by others.
func TestFrameKnown(t *testing.T) {
	want := "00000009" + "e3069283" + "15e2b0d3c33891ebb0f1ef609ec419420c20e320ce94c65fbc8c3312448eb225" + hex.EncodeToString([]byte("123456789"))
	b, e := seglog.Frame([]byte("123456789"))
	if e != api.OK || hex.EncodeToString(b) != want {
		t.Errorf("the frame is %x, %d", b, e)
	}
}

// P7.1: what can't be a record.
func TestFrameWrong(t *testing.T) {
	for _, rec := range [][]byte{nil, {}, make([]byte, 4001), make([]byte, 5000), make([]byte, 65536), make([]byte, 1<<20), make([]byte, 4001, 9000)} {
		if b, e := seglog.Frame(rec); len(b) != 0 || e != api.ErrArg {
			t.Errorf("Frame of %d bytes is %x, %d", len(rec), b, e)
		}
	}
}

// Memory: a frame is new, and the room behind what was handed in is not written to.
func TestFrameMemory(t *testing.T) {
	room := []byte("abcdefgh")
	rec := room[:3]
	b, _ := seglog.Frame(rec)
	c, _ := seglog.Frame(rec)
	for i := range b[:cap(b)] {
		b[:cap(b)][i] = 0xee
	}
	if string(room) != "abcdefgh" || string(c) != framed("abc") {
		t.Errorf("the room is %q, another frame %x", room, c)
	}
	rec[0] = 'z'
	if !bytes.Equal(c, []byte(framed("abc"))) {
		t.Errorf("the frame has changed with its record: %x", c)
	}
}
