package seglog

import (
	"bytes"
	"strconv"

	"cicerone/api"
	"cicerone/digest"
)

// A frame's measures: the bytes of its record's length, of its Crc, of its Sum256, and all that stand ahead of the record.
const (
	lengthBytes = 4
	crcBytes    = 4
	sumBytes    = 32
	headBytes   = lengthBytes + crcBytes + sumBytes
)

// A segment's number has so many bytes in the manifest; so many segments fit in one; and the greatest number has so many digits as a file's name has room for.
const (
	numberBytes  = 8
	mostSegments = api.MaxRecord / numberBytes
	mostNumber   = 99999999
)

// The manifest's file, and that in which it is written.
const (
	manifest    = "manifest"
	newManifest = "manifest.new"
)

// canRecord tells whether bytes can be a record.
func canRecord(rec []byte) bool { return len(rec) >= 1 && len(rec) <= api.MaxRecord }

// Frame is a record's bytes in a segment.
func Frame(rec []byte) ([]byte, api.Errno) {
	if !canRecord(rec) {
		return nil, api.ErrArg
	}
	length := numbers(lengthBytes, len(rec))
	crc := numbers(crcBytes, int(digest.Crc(rec)))
	return join(length, crc, digest.Sum256(rec), rec), api.OK
}

// numbers is numbers in so many bytes each, the highest first.
func numbers(width int, l ...int) []byte {
	b := make([]byte, 0, width*len(l))
	for _, n := range l {
		for shift := 8 * (width - 1); shift >= 0; shift -= 8 {
			b = append(b, byte(n>>shift))
		}
	}
	return b
}

// join is parts, one behind the other.
func join(parts ...[]byte) []byte {
	var b []byte
	for _, part := range parts {
		b = append(b, part...)
	}
	return b
}

// number is the number that bytes are, the highest first. Eight bytes whose highest bit is set come out below 0, where no segment is.
func number(b []byte) int {
	n := 0
	for _, x := range b {
		n = n<<8 | int(x)
	}
	return n
}

// first is the record of the frame that bytes begin with, if they begin with one.
func first(b []byte) ([]byte, bool) {
	if len(b) < headBytes {
		return nil, false
	}
	size := number(b[:lengthBytes])
	if size > len(b)-headBytes {
		return nil, false
	}
	end := headBytes + size
	// The third index ends the record's room with it: what somebody appends to it must not come to stand in the next one.
	rec := b[headBytes:end:end]
	frame, e := Frame(rec)
	if e != api.OK || !bytes.Equal(frame, b[:end]) {
		return nil, false
	}
	return rec, true
}

// records is the records of the frames that bytes begin with, and how many bytes these have.
func records(b []byte) ([][]byte, int) {
	var recs [][]byte
	at := 0
	for {
		rec, ok := first(b[at:])
		if !ok {
			return recs, at
		}
		recs = append(recs, rec)
		at += headBytes + len(rec)
	}
}

// segmentNumbers is the numbers that a manifest has, if it can be one.
func segmentNumbers(b []byte) ([]int, bool) {
	rec, ok := first(b)
	if !ok || len(b) != headBytes+len(rec) || len(rec)%numberBytes != 0 {
		return nil, false
	}
	var l []int
	last := 0
	for at := 0; at < len(rec); at += numberBytes {
		n := number(rec[at : at+numberBytes])
		if n <= last || n > mostNumber {
			return nil, false
		}
		l = append(l, n)
		last = n
	}
	return l, true
}

// fileName is the name of a segment's file.
func fileName(n int) string {
	// A digit ahead of the eight has noughts stand where the number has no digits.
	return "s" + strconv.Itoa(mostNumber + 1 + n)[1:]
}
