package seglog_test

import (
	"fmt"
	"strings"
	"testing"

	"cicerone/api"
	"cicerone/files"
	"cicerone/seglog"
)

// The manifest of a new log, and a new disk as Open leaves it.
var fresh = shot{"manifest": safe(listed(1))}

// P7.2: a new disk, one change behind the other.
func TestOpenNew(t *testing.T) {
	d, l := made(t, shot{})
	has(t, d, fresh)
	segments(t, d, l, 1)
	sweepOpen(t, shot{}, great, api.OK, []shot{
		{},
		{"manifest.new": loose("", listed(1))},
		{"manifest.new": safe(listed(1))},
		fresh,
	})
}

// P7.2: a manifest that was not finished is removed, and then the disk is a new one.
func TestOpenUnfinished(t *testing.T) {
	for _, f := range []held{safe(""), safe("x"), loose("", "x"), safe(listed(1)), safe(listed(7))} {
		s := shot{"manifest.new": f}
		d, l := made(t, s)
		has(t, d, fresh)
		segments(t, d, l, 1)
		sweepOpen(t, s, great, api.OK, []shot{s, {}, {"manifest.new": loose("", listed(1))}, {"manifest.new": safe(listed(1))}, fresh})
	}
}

// P7.2: a new disk that has no room, or writes a part alone: what was begun is removed.
func TestOpenNewNoRoom(t *testing.T) {
	size := len(listed(1))
	for _, room := range []int{0, 1, size - 1} {
		sweepOpen(t, shot{}, room, api.ErrFull, []shot{{}, {}})
	}
	d := laid(t, shot{})
	d.Room(size - 1)
	if n := burned(t, d, func() { seglog.Open(d) }); n != 2 {
		t.Errorf("%d changes, where manifest.new is appended to and removed", n)
	}
	has(t, d, shot{})
	d.Room(size)
	open(t, d)
	has(t, d, fresh)

	for _, n := range []int{0, 1, size - 1} {
		d := laid(t, shot{})
		d.Short(n)
		l, recs, e := seglog.Open(d)
		if l != nil || len(recs) > 0 || e != api.ErrPart {
			t.Errorf("behind a Short of %d Open is %v, %q, %d", n, l, recs, e)
		}
		has(t, d, shot{})
		open(t, d)
	}
	for _, fuse := range []int{1, 2} {
		d := laid(t, shot{})
		d.Short(5)
		d.Fuse(fuse)
		_, _, e := seglog.Open(d)
		is(t, e, api.ErrPart)
		if fuse == 1 {
			has(t, d, shot{"manifest.new": loose("", listed(1)[:5])})
		} else {
			has(t, d, shot{})
		}
		d.Crash([]api.Tail{{Name: "manifest.new", Keep: 3}})
		open(t, d)
		has(t, d, fresh)
	}
}

// P7.2: no manifest, but a file.
func TestOpenForeign(t *testing.T) {
	for _, name := range []string{"s00000001", "a", "manifest.old", "manifest.ne", "manifes", "m", "z", "manifest-new"} {
		for _, f := range []held{safe(""), safe("x"), safe(listed(1)), loose("", framed("a"))} {
			s := shot{name: f}
			for _, more := range []shot{{}, {"manifest.new": safe(listed(1))}} {
				d := laid(t, s.and(more))
				for range 2 {
					l, recs, e := seglog.Open(d)
					if l != nil || len(recs) > 0 || e != api.ErrLog {
						t.Errorf("%s: Open is %v, %q, %d", name, l, recs, e)
					}
					has(t, d, s)
				}
			}
		}
	}
}

// P7.2: manifests that can't be read; nothing but manifest.new is removed.
func TestOpenWrongManifest(t *testing.T) {
	good := listed(1, 2)
	wrong := map[string]string{
		"nothing":                       "",
		"a byte":                        "\x00",
		"a frame of nothing":            framed(""),
		"a frame with a byte behind":    good + "\x00",
		"two frames":                    good + good,
		"a frame and one of a number":   listed(1) + listed(2),
		"a byte ahead":                  "\x00" + good,
		"one byte less":                 good[:len(good)-1],
		"a head alone":                  good[:40],
		"a beginning of a head":         good[:39],
		"a number of seven bytes":       framed(of(0, 6) + "\x01"),
		"a number of nine":              framed(of(0, 7) + "\x01" + "\x00"),
		"one of one":                    framed("\x01"),
		"two of four":                   framed("\x00\x00\x00\x01" + "\x00\x00\x00\x02"),
		"two and a half":                framed(listed(1, 2)[40:] + "\x00\x00\x00\x03"),
		"no rising":                     listed(2, 1),
		"the same":                      listed(1, 1),
		"the same behind others":        listed(1, 5, 9, 9),
		"one that falls at the end":     listed(1, 5, 9, 8),
		"one that falls in between":     listed(1, 5, 4, 8),
		"0":                             listed(0),
		"0 ahead":                       listed(0, 1),
		"too great":                     listed(100000000),
		"too great at the end":          listed(1, 2, 100000000),
		"too great in 32 bits":          listed(1<<32 + 1),
		"the highest bit":               listed(1<<63 + 1),
		"the highest bit at the end":    listed(1, 1<<63+2),
		"all bits":                      listed(1<<64 - 1),
		"all bits ahead":                listed(1<<64-1, 1),
		"numbers with the lowest ahead": framed("\x01\x00\x00\x00\x00\x00\x00\x00"),
		"digits":                        framed("00000001"),
		"a length too small":            good[:3] + "\x0f" + good[4:],
		"a length too great":            good[:3] + "\x11" + good[4:] + "\x00",
		"a length of the highest bit":   "\x80" + good[1:],
		"a turned Crc":                  good[:7] + string([]byte{good[7] ^ 1}) + good[8:],
		"a turned Sum256":               good[:39] + string([]byte{good[39] ^ 1}) + good[40:],
		"501 numbers":                   listed(upTo(501)...),
		"600 numbers":                   listed(upTo(600)...),
	}
	for what, b := range wrong {
		t.Run(what, func(t *testing.T) {
			s := shot{"manifest": safe(b), seg(1): safe(framed("a")), seg(2): loose("", framed("b")), "x": safe("y")}
			d := laid(t, s.and(shot{"manifest.new": safe(listed(1))}))
			for range 2 {
				l, recs, e := seglog.Open(d)
				if l != nil || len(recs) > 0 || e != api.ErrLog {
					t.Errorf("Open is %v, %q, %d", l, recs, e)
				}
				has(t, d, s)
			}
		})
	}
	for i := range len(good) {
		b := good[:i] + string([]byte{good[i] ^ 0x10}) + good[i+1:]
		if _, _, e := seglog.Open(laid(t, shot{"manifest": safe(b)})); e != api.ErrLog {
			t.Errorf("with byte %d turned Open is %d", i, e)
		}
		if _, _, e := seglog.Open(laid(t, shot{"manifest": safe(good[:i])})); e != api.ErrLog {
			t.Errorf("with %d bytes Open is %d", i, e)
		}
	}
}

// upTo is the numbers from 1.
func upTo(n int) []uint64 {
	var l []uint64
	for i := range n {
		l = append(l, uint64(i+1))
	}
	return l
}

// P7.2: manifests that can be read; segments without files are empty.
func TestOpenManifest(t *testing.T) {
	for _, l := range [][]uint64{{1}, {2}, {99999999}, {1, 2}, {1, 99999999}, {3, 255, 256, 65536, 16777216}, upTo(500)} {
		s := shot{"manifest": safe(listed(l...))}
		d, log := made(t, s)
		has(t, d, s)
		var want []int
		for _, n := range l {
			want = append(want, int(n))
		}
		segments(t, d, log, want...)
		if n := burned(t, d, func() { open(t, d) }); n != 0 {
			t.Errorf("%d changes of a disk that has a manifest alone", n)
		}
	}
}

// P7.2: records are told segment by segment, rising, frame by frame; all is durable then.
func TestOpenRecords(t *testing.T) {
	most := of('m', api.MaxRecord)
	s := shot{
		"manifest": safe(listed(2, 3, 10, 11)),
		seg(2):     loose(framed("a"), framed("bb", most)),
		seg(10):    safe(framed("ccc", "ccc", "a")),
		seg(11):    loose("", framed("d")),
	}
	d, l := made(t, s, "a", "bb", most, "ccc", "ccc", "a", "d")
	behind := s.and(shot{seg(2): safe(framed("a", "bb", most)), seg(11): safe(framed("d"))})
	has(t, d, behind)
	segments(t, d, l, 2, 3, 10, 11)
	sweepOpen(t, s, great, api.OK, []shot{s, s.and(shot{seg(2): behind[seg(2)]}), s.and(shot{seg(2): behind[seg(2)]}), behind})
	d.Crash(nil)
	open(t, d, "a", "bb", most, "ccc", "ccc", "a", "d")
}

// P7.2: a segment of no bytes has a file, and is synced as the others.
func TestOpenEmptyFile(t *testing.T) {
	s := shot{"manifest": safe(listed(1, 2)), seg(1): safe(""), seg(2): safe("")}
	d := laid(t, s)
	if n := burned(t, d, func() { open(t, d) }); n != 2 {
		t.Errorf("%d changes, where two segments are synced", n)
	}
	has(t, d, s)
}

// brokenEnds are bytes at a segment's end that are no frame.
func brokenEnds() map[string]string {
	f, most := framed("abc"), framed(of('x', 4000))
	turn := func(i int) string { return f[:i] + string([]byte{f[i] ^ 1}) + f[i+1:] }
	longer := framed(of('y', 4001))
	m := map[string]string{
		"a byte":                      "\x00",
		"a length":                    f[:4],
		"a head":                      f[:40],
		"a head of nothing":           framed(""),
		"nothing and more":            framed("") + f,
		"noughts":                     of(0, 100),
		"bits":                        of(0xff, 100),
		"a byte too few":              f[:len(f)-1],
		"a length one too small":      f[:3] + "\x02" + f[4:],
		"a length one too great":      f[:3] + "\x04" + f[4:],
		"another length, more behind": f[:3] + "\x04" + f[4:] + "z" + f,
		"a length of its highest bit": "\x80" + f[1:],
		"the length the other way":    "\x03\x00\x00\x00" + f[4:] + of(0, 4000),
		"the most, a byte too few":    most[:len(most)-1],
		"more than the most":          longer,
		"more than the most and more": longer + f,
		"the Crc the other way":       f[:4] + string([]byte{f[7], f[6], f[5], f[4]}) + f[8:],
		"no Crc":                      f[:4] + of(0, 4) + f[8:],
		"no Sum256":                   f[:8] + of(0, 32) + f[40:],
		"another's Crc":               f[:4] + framed("abd")[4:8] + f[8:],
		"another's Sum256":            f[:8] + framed("abd")[8:40] + f[40:],
		"another's record":            f[:40] + "abd",
	}
	for i := range f {
		m[fmt.Sprint("turned ", i)] = turn(i)
		if i > 0 {
			m[fmt.Sprint("begun ", i)] = f[:i]
		}
	}
	return m
}

// P7.2: at the first bytes that are no frame a segment is cut; what stands behind them is not told, frames or not.
func TestOpenCut(t *testing.T) {
	for what, end := range brokenEnds() {
		t.Run(what, func(t *testing.T) {
			for _, ahead := range [][]string{nil, {"a"}, {"a", of('b', 4000)}} {
				for _, behind := range []string{"", framed("z"), framed("z", "zz")} {
					if behind != "" && strings.HasPrefix(what, "begun") {
						behind = of('\xff', 80) + behind
					}
					bad := framed(ahead...) + end + behind
					whole := shot{"manifest": safe(listed(4)), seg(4): safe(framed(ahead...))}
					d, l := made(t, whole.and(shot{seg(4): safe(bad)}), ahead...)
					has(t, d, whole)
					segments(t, d, l, 4)
					add(t, l, "next")
					has(t, d, whole.and(shot{seg(4): loose(framed(ahead...), framed("next"))}))

					d, _ = made(t, whole.and(shot{seg(4): loose(framed(ahead...), end+behind)}), ahead...)
					has(t, d, whole)
				}
			}
		})
	}
}

// P7.2: segments behind the one that is cut are gone, also those without a file.
func TestOpenCutBehind(t *testing.T) {
	for what, end := range brokenEnds() {
		t.Run(what, func(t *testing.T) {
			s := shot{
				"manifest": safe(listed(1, 2, 3, 5, 8)),
				seg(1):     safe(framed("a")),
				seg(2):     safe(framed("b") + end),
				seg(3):     safe(framed("c")),
				seg(8):     safe(framed("d") + "x"),
			}
			d, l := made(t, s, "a", "b")
			has(t, d, shot{"manifest": safe(listed(1, 2)), seg(1): safe(framed("a")), seg(2): safe(framed("b"))})
			segments(t, d, l, 1, 2)
		})
	}
}

// P7.2: all that Open changes, in order.
func TestOpenSteps(t *testing.T) {
	start := shot{
		"manifest":     safe(listed(2, 4, 5, 7, 8, 9)),
		"manifest.new": loose("x", "y"),
		"a":            safe("1"),
		"manifest.old": safe(listed(1)),
		"s0000002":     safe(framed("q")),
		seg(1):         loose("", framed("q")),
		"s000000020":   safe(framed("q")),
		seg(6):         safe(framed("q")),
		seg(10):        safe(framed("q")),
		"z":            safe(""),
		seg(2):         loose(framed("a"), framed("b")),
		seg(5):         loose(framed("c"), framed("d")+"bad"),
		seg(7):         safe(framed("q")),
		seg(9):         loose("", framed("q")),
	}
	shots := []shot{start}
	next := func(more shot) { shots = append(shots, shots[len(shots)-1].and(more)) }
	next(shot{"manifest.new": gone})
	for _, name := range []string{"a", "manifest.old", seg(1), "s000000020", seg(6), seg(10), "s0000002", "z"} {
		next(shot{name: gone})
	}
	next(shot{seg(5): loose(framed("c"), framed("d"))})
	next(shot{"manifest.new": loose("", listed(2, 4, 5))})
	next(shot{"manifest.new": safe(listed(2, 4, 5))})
	next(shot{"manifest.new": gone, "manifest": safe(listed(2, 4, 5))})
	next(shot{seg(7): gone})
	next(shot{seg(9): gone})
	next(shot{seg(2): safe(framed("a", "b"))})
	next(shot{seg(5): safe(framed("c", "d"))})
	sweepOpen(t, start, great, api.OK, shots)
	d, l := made(t, start, "a", "b", "c", "d")
	segments(t, d, l, 2, 4, 5)
	if n := burned(t, d, func() { open(t, d, "a", "b", "c", "d") }); n != 2 {
		t.Errorf("%d changes of a disk that Open left, where two segments are synced", n)
	}
}

// P7.2: files that are none of the log's, where nothing else is to be changed.
func TestOpenForeignSteps(t *testing.T) {
	s := fresh.and(shot{"a": safe("1"), seg(2): safe(framed("q"))})
	sweepOpen(t, s, great, api.OK, []shot{s, s.and(shot{"a": gone}), fresh})
}

// P7.2: where segments are behind one that is cut, and the disk has no room for a manifest.
func TestOpenCutNoRoom(t *testing.T) {
	start := shot{"manifest": safe(listed(1, 2)), seg(1): safe(framed("a") + "x"), seg(2): safe(framed("b"))}
	cut := start.and(shot{seg(1): safe(framed("a"))})
	d := laid(t, start)
	d.Room(d.Used() + len(listed(1)) - 2)
	if n := burned(t, d, func() {
		l, recs, e := seglog.Open(d)
		if l != nil || len(recs) > 0 || e != api.ErrFull {
			t.Errorf("Open is %v, %q, %d", l, recs, e)
		}
	}); n != 3 {
		t.Errorf("%d changes, where a segment is cut, manifest.new appended to and removed", n)
	}
	has(t, d, cut)

	d = laid(t, start)
	d.Short(7)
	_, _, e := seglog.Open(d)
	is(t, e, api.ErrPart)
	has(t, d, cut)

	d = laid(t, start)
	d.Room(d.Used() + len(listed(1)) - 1)
	open(t, d, "a")
	has(t, d, shot{"manifest": safe(listed(1)), seg(1): safe(framed("a"))})
}

// A disk that has stopped is read where nothing is to be changed.
func TestOpenDead(t *testing.T) {
	s := shot{"manifest": safe(listed(1, 3))}
	d := laid(t, s)
	d.Fuse(0)
	open(t, d)
	has(t, d, s)
	d = laid(t, shot{"manifest": safe("x")})
	d.Fuse(0)
	_, _, e := seglog.Open(d)
	is(t, e, api.ErrLog)
	d = laid(t, shot{"manifest": safe("x"), "manifest.new": safe("y")})
	d.Fuse(0)
	_, _, e = seglog.Open(d)
	is(t, e, api.ErrDead)
	d.Crash(nil)
	_, _, e = seglog.Open(d)
	is(t, e, api.ErrLog)
	has(t, d, shot{"manifest": safe("x")})
}

// P7.2: disks that no call made.
func TestOpenNil(t *testing.T) {
	for _, d := range []*files.Disk{nil, {}, new(files.Disk)} {
		l, recs, e := seglog.Open(d)
		if l != nil || len(recs) > 0 || e != api.ErrNil {
			t.Errorf("Open is %v, %q, %d", l, recs, e)
		}
	}
}

// Memory: records are new, and share no room with one another, with the disk or with the log.
func TestOpenMemory(t *testing.T) {
	s := shot{"manifest": safe(listed(1, 2)), seg(1): safe(framed("abc", "def", "ghi")), seg(2): safe(framed("jkl"))}
	d := laid(t, s)
	_, first, _ := seglog.Open(d)
	_, second, _ := seglog.Open(d)
	for i, rec := range first {
		want := texts(first)
		room := rec[:cap(rec)]
		for j := range room {
			room[j] = '!'
		}
		want[i] = "!!!"
		if got := texts(first); strings.Join(got, " ") != strings.Join(want, " ") {
			t.Errorf("behind a change of record %d there are %q, not %q", i, got, want)
		}
	}
	if got := strings.Join(texts(second), " "); got != "abc def ghi jkl" {
		t.Errorf("another answer is %q", got)
	}
	has(t, d, s)
	open(t, d, "abc", "def", "ghi", "jkl")
}
