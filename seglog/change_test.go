package seglog_test

import (
	"fmt"
	"slices"
	"testing"

	"cicerone/api"
	"cicerone/files"
	"cicerone/seglog"
)

// P7.3: records of all sizes, one behind the other; none of them is durable by itself.
func TestAppend(t *testing.T) {
	d, l := made(t, shot{})
	var all []string
	for _, rec := range []string{"a", "a", "bb", of(0, 1), of(0, 4000), framed("x"), "manifest"} {
		add(t, l, rec)
		all = append(all, rec)
		has(t, d, fresh.and(shot{seg(1): loose("", framed(all...))}))
		segments(t, d, l, 1)
	}
	open(t, d, all...)
}

// The chapter's example.
func TestExample(t *testing.T) {
	d, l := made(t, shot{})
	segments(t, d, l, 1)
	add(t, l, "a")
	if b, e := d.Read("s00000001"); len(b) != 41 || e != api.OK || l.Bytes() != 41 {
		t.Errorf("s00000001 has %d bytes, %d; Bytes is %d", len(b), e, l.Bytes())
	}
}

// P7.3: what can't be a record changes nothing.
func TestAppendWrong(t *testing.T) {
	setups := []shot{
		{},
		{"manifest": safe(listed(1)), seg(1): safe(framed("a"))},
		{"manifest": safe(listed(1)), seg(1): safe(framed(filling(8000)...))},
		{"manifest": safe(listed(99999999)), seg(99999999): safe(framed(filling(8000)...))},
	}
	for _, s := range setups {
		d := laid(t, s)
		l, _, _ := seglog.Open(d)
		for _, rec := range [][]byte{nil, {}, make([]byte, 4001), make([]byte, 8000), make([]byte, 1<<20)} {
			unchanged(t, d, l, api.ErrArg, func() api.Errno { return l.Append(rec) })
		}
	}
}

// P7.3: a record behind others, where the disk stops.
func TestAppendSteps(t *testing.T) {
	base := fresh.and(shot{seg(1): loose(framed("a"), framed("b"))})
	sweep(t, func(t *testing.T) (*files.Disk, *seglog.Log) {
		d, l := made(t, fresh.and(shot{seg(1): safe(framed("a"))}), "a")
		add(t, l, "b")
		return d, l
	}, func(l *seglog.Log) api.Errno { return l.Append([]byte("ccc")) }, []step{
		{api.ErrDead, base, []int{1}},
		{api.OK, base.and(shot{seg(1): loose(framed("a"), framed("b", "ccc"))}), []int{1}},
	})
	sweep(t, func(t *testing.T) (*files.Disk, *seglog.Log) { return made(t, fresh) },
		func(l *seglog.Log) api.Errno { return l.Append([]byte("ccc")) }, []step{
			{api.ErrDead, fresh, []int{1}},
			{api.OK, fresh.and(shot{seg(1): loose("", framed("ccc"))}), []int{1}},
		})
}

// closing is a log whose next record goes to another segment: the last one has just as many bytes as that needs, some of them loose.
func closing(t *testing.T) (*files.Disk, *seglog.Log) {
	recs := filling(8000)
	d, l := made(t, shot{"manifest": safe(listed(3, 7)), seg(3): safe(framed("a")), seg(7): safe(framed(recs[0]))}, "a", recs[0])
	add(t, l, recs[1])
	return d, l
}

// closed is what the disk has in the course of that.
func closed() (before, synced, written, safely, named shot) {
	recs := filling(8000)
	before = shot{"manifest": safe(listed(3, 7)), seg(3): safe(framed("a")), seg(7): loose(framed(recs[0]), framed(recs[1]))}
	synced = before.and(shot{seg(7): safe(framed(recs...))})
	written = synced.and(shot{"manifest.new": loose("", listed(3, 7, 8))})
	safely = synced.and(shot{"manifest.new": safe(listed(3, 7, 8))})
	named = synced.and(shot{"manifest": safe(listed(3, 7, 8))})
	return before, synced, written, safely, named
}

// P7.3: a last segment of as many bytes as close it: it is synced, a manifest written, another one begun.
func TestAppendClosing(t *testing.T) {
	before, synced, written, safely, named := closed()
	sweep(t, closing, func(l *seglog.Log) api.Errno { return l.Append([]byte("b")) }, []step{
		{api.ErrDead, before, []int{3, 7}},
		{api.ErrDead, synced, []int{3, 7}},
		{api.ErrDead, written, []int{3, 7}},
		{api.ErrDead, safely, []int{3, 7}},
		{api.ErrDead, named, []int{3, 7, 8}},
		{api.OK, named.and(shot{seg(8): loose("", framed("b"))}), []int{3, 7, 8}},
	})
	recs := filling(8000)
	d, l := closing(t)
	add(t, l, "b", "c")
	has(t, d, named.and(shot{seg(8): loose("", framed("b", "c"))}))
	open(t, d, "a", recs[0], recs[1], "b", "c")
}

// P7.3: one byte less does not close a segment, more bytes do.
func TestAppendCloses(t *testing.T) {
	for _, size := range []int{4081, 7999, 8000, 8001, 8080} {
		recs := filling(size)
		d, l := made(t, shot{})
		add(t, l, recs...)
		if l.Bytes() != size {
			t.Fatalf("Bytes is %d, not %d", l.Bytes(), size)
		}
		add(t, l, "x")
		if size < 8000 {
			segments(t, d, l, 1)
			has(t, d, fresh.and(shot{seg(1): loose("", framed(recs...)+framed("x"))}))
		} else {
			segments(t, d, l, 1, 2)
			has(t, d, shot{"manifest": safe(listed(1, 2)), seg(1): safe(framed(recs...)), seg(2): loose("", framed("x"))})
		}
	}
	recs := filling(7999)
	d, l := made(t, shot{})
	add(t, l, recs...)
	add(t, l, of('m', 4000), "n")
	segments(t, d, l, 1, 2)
	open(t, d, append(recs, of('m', 4000), "n")...)
}

// P7.3: what is in a segment counts, not who wrote it; a segment without a file is empty.
func TestAppendToOpened(t *testing.T) {
	recs := filling(8000)
	d, l := made(t, shot{"manifest": safe(listed(1, 2)), seg(1): safe(framed(recs...))}, recs...)
	add(t, l, "x")
	has(t, d, shot{"manifest": safe(listed(1, 2)), seg(1): safe(framed(recs...)), seg(2): loose("", framed("x"))})

	d, l = made(t, shot{"manifest": safe(listed(5)), seg(5): safe(framed(recs...) + framed("y") + "bad")}, append(recs, "y")...)
	add(t, l, "x")
	segments(t, d, l, 5, 6)

	// What is cut at Open, counts no more.
	d, l = made(t, shot{"manifest": safe(listed(5)), seg(5): safe(framed("y") + of(0, 8000))}, "y")
	add(t, l, "x")
	segments(t, d, l, 5)
	has(t, d, shot{"manifest": safe(listed(5)), seg(5): loose(framed("y"), framed("x"))})
}

// P7.3: there is no number behind the greatest one.
func TestAppendLastNumber(t *testing.T) {
	last := 99999999
	recs := filling(7999)
	d, l := made(t, shot{"manifest": safe(listed(99999998)), seg(last - 1): safe(framed(filling(8000)...))}, filling(8000)...)
	add(t, l, recs...)
	segments(t, d, l, last-1, last)
	add(t, l, "x")
	unchanged(t, d, l, api.ErrFull, func() api.Errno { return l.Append([]byte("y")) })
	unchanged(t, d, l, api.ErrArg, func() api.Errno { return l.Append(nil) })
	segments(t, d, l, last-1, last)
	is(t, l.Sync(), api.OK)
	all := slices.Concat(filling(8000), recs, []string{"x"})
	l = open(t, d, all...)
	unchanged(t, d, l, api.ErrFull, func() api.Errno { return l.Append([]byte("y")) })
}

// P7.3: there are 500 segments at most.
func TestAppendMostSegments(t *testing.T) {
	s := shot{"manifest": safe(listed(upTo(499)...)), seg(499): safe(framed(filling(8000)...))}
	d, l := made(t, s, filling(8000)...)
	add(t, l, filling(7999)...)
	if got := l.Segments(); len(got) != 500 || got[0] != seg(1) || got[499] != seg(500) {
		t.Errorf("%d segments", len(got))
	}
	add(t, l, "x")
	before := taken(t, d)
	unchanged(t, d, l, api.ErrFull, func() api.Errno { return l.Append([]byte("y")) })
	has(t, d, before)
	has(t, d, s.and(shot{"manifest": safe(listed(upTo(500)...)), seg(500): loose("", framed(filling(7999)...)+framed("x"))}))
	l = open(t, d, slices.Concat(filling(8000), filling(7999), []string{"x"})...)
	unchanged(t, d, l, api.ErrFull, func() api.Errno { return l.Append([]byte("y")) })

	// Replace makes room for others.
	is(t, l.Replace(recs("z")), api.OK)
	has(t, d, shot{"manifest": safe(listed(501)), seg(501): safe(framed("z"))})
	add(t, l, "y")
	open(t, d, "z", "y")
}

// P7.3: of an error a segment is cut to what it was; cutting is a change, too, where nothing was written.
func TestAppendUndone(t *testing.T) {
	base := fresh.and(shot{seg(1): loose(framed("a"), framed("b"))})
	for _, part := range []int{0, 1, 39, 40, 42} {
		sweep(t, func(t *testing.T) (*files.Disk, *seglog.Log) {
			d, l := made(t, fresh.and(shot{seg(1): safe(framed("a"))}), "a")
			add(t, l, "b")
			d.Short(part)
			return d, l
		}, func(l *seglog.Log) api.Errno { return l.Append([]byte("ccc")) }, []step{
			{api.ErrDead, base, []int{1}},
			{api.ErrPart, base.and(shot{seg(1): loose(framed("a"), framed("b")+framed("ccc")[:part])}), []int{1}},
			{api.ErrPart, base, []int{1}},
		})
	}
	for _, left := range []int{0, 1, 42} {
		sweep(t, func(t *testing.T) (*files.Disk, *seglog.Log) {
			d, l := made(t, fresh.and(shot{seg(1): safe(framed("a"))}), "a")
			add(t, l, "b")
			d.Room(d.Used() + left)
			return d, l
		}, func(l *seglog.Log) api.Errno { return l.Append([]byte("ccc")) }, []step{
			{api.ErrDead, base, []int{1}},
			{api.ErrFull, base, []int{1}},
			{api.ErrFull, base, []int{1}},
		})
	}
	d, l := made(t, base, "a", "b")
	d.Room(d.Used() + 43)
	add(t, l, "ccc")
}

// P7.3: of an error a segment that was not there is removed.
func TestAppendUndoneNew(t *testing.T) {
	for _, part := range []int{1, 40, 42} {
		sweep(t, func(t *testing.T) (*files.Disk, *seglog.Log) {
			d, l := made(t, fresh)
			d.Short(part)
			return d, l
		}, func(l *seglog.Log) api.Errno { return l.Append([]byte("ccc")) }, []step{
			{api.ErrDead, fresh, []int{1}},
			{api.ErrPart, fresh.and(shot{seg(1): loose("", framed("ccc")[:part])}), []int{1}},
			{api.ErrPart, fresh, []int{1}},
		})
	}
	d, l := made(t, fresh)
	d.Short(0)
	is(t, l.Append([]byte("ccc")), api.ErrPart)
	has(t, d, fresh)
	for _, left := range []int{0, 42} {
		d.Room(d.Used() + left)
		is(t, l.Append([]byte("ccc")), api.ErrFull)
		has(t, d, fresh)
		segments(t, d, l, 1)
	}
	d.Room(d.Used() + 43)
	add(t, l, "ccc")
	goesOn(t, d, l)

	// A file of no bytes was there, and stays.
	s := fresh.and(shot{seg(1): safe("")})
	d, l = made(t, s)
	d.Short(7)
	is(t, l.Append([]byte("ccc")), api.ErrPart)
	has(t, d, s)
	d.Room(d.Used())
	is(t, l.Append([]byte("ccc")), api.ErrFull)
	has(t, d, s)
}

// P7.3: a manifest that can't be written is undone, and the segment stays the last one.
func TestAppendClosingUndone(t *testing.T) {
	before, synced, _, _, named := closed()
	size := len(listed(3, 7, 8))
	for _, part := range []int{0, 1, size - 1} {
		sweep(t, func(t *testing.T) (*files.Disk, *seglog.Log) {
			d, l := closing(t)
			d.Short(part)
			return d, l
		}, func(l *seglog.Log) api.Errno { return l.Append([]byte("b")) }, []step{
			{api.ErrDead, before, []int{3, 7}},
			{api.ErrDead, synced, []int{3, 7}},
			{api.ErrPart, synced.and(shot{"manifest.new": loose("", listed(3, 7, 8)[:part])}), []int{3, 7}},
			{api.ErrPart, synced, []int{3, 7}},
		})
	}
	for _, left := range []int{0, size - 1} {
		sweep(t, func(t *testing.T) (*files.Disk, *seglog.Log) {
			d, l := closing(t)
			d.Room(d.Used() + left)
			return d, l
		}, func(l *seglog.Log) api.Errno { return l.Append([]byte("b")) }, []step{
			{api.ErrDead, before, []int{3, 7}},
			{api.ErrDead, synced, []int{3, 7}},
			{api.ErrFull, synced, []int{3, 7}},
			{api.ErrFull, synced, []int{3, 7}},
		})
	}

	// Where there is room for the manifest, but not for the frame: the segment is there, and empty.
	d, l := closing(t)
	d.Room(d.Used() + size)
	is(t, l.Append([]byte(of('b', size))), api.ErrFull)
	has(t, d, named)
	segments(t, d, l, 3, 7, 8)
	is(t, l.Sync(), api.OK)
	d.Room(great)
	add(t, l, "b")
	has(t, d, named.and(shot{seg(8): loose("", framed("b"))}))
	goesOn(t, d, l)
}

// P7.4: the last segment is synced.
func TestSync(t *testing.T) {
	s := shot{"manifest": safe(listed(1, 2)), seg(1): safe(framed("a")), seg(2): loose(framed("b"), framed("c"))}
	sweep(t, func(t *testing.T) (*files.Disk, *seglog.Log) {
		d, l := made(t, s.and(shot{seg(2): safe(framed("b"))}), "a", "b")
		add(t, l, "c")
		return d, l
	}, func(l *seglog.Log) api.Errno { return l.Sync() }, []step{
		{api.ErrDead, s, []int{1, 2}},
		{api.OK, s.and(shot{seg(2): safe(framed("b", "c"))}), []int{1, 2}},
	})
	d, l := made(t, s, "a", "b", "c")
	if n := burned(t, d, func() { is(t, l.Sync(), api.OK); is(t, l.Sync(), api.OK) }); n != 2 {
		t.Errorf("%d changes, where what is synced is synced twice", n)
	}
}

// P7.4: a last segment that is not there is not synced, and the ones ahead of it are not, either.
func TestSyncNotThere(t *testing.T) {
	for _, s := range []shot{fresh, {"manifest": safe(listed(1, 2)), seg(1): safe(framed("a"))}} {
		d := laid(t, s)
		l, _, _ := seglog.Open(d)
		unchanged(t, d, l, api.OK, func() api.Errno { return l.Sync() })
		d.Fuse(0)
		is(t, l.Sync(), api.OK)
		goesOn(t, d, l)
	}
}

// replaced is a log of three segments: the last one has loose bytes, that in between no file.
func replaced(t *testing.T) (*files.Disk, *seglog.Log) {
	d, l := made(t, shot{"manifest": safe(listed(2, 5, 9)), seg(2): safe(framed("a")), seg(9): safe(framed("b"))}, "a", "b")
	add(t, l, "c")
	return d, l
}

// before is what its disk has.
var before = shot{"manifest": safe(listed(2, 5, 9)), seg(2): safe(framed("a")), seg(9): loose(framed("b"), framed("c"))}

// P7.5: all that Replace changes, in order.
func TestReplace(t *testing.T) {
	x := before.and(shot{seg(10): loose("", framed("x"))})
	xy := before.and(shot{seg(10): loose("", framed("x", "yy"))})
	synced := before.and(shot{seg(10): safe(framed("x", "yy"))})
	named := synced.and(shot{"manifest": safe(listed(10))})
	behind := named.and(shot{seg(2): gone, seg(9): gone})
	sweep(t, replaced, func(l *seglog.Log) api.Errno { return l.Replace(recs("x", "yy")) }, []step{
		{api.ErrDead, before, []int{2, 5, 9}},
		{api.ErrDead, x, []int{2, 5, 9}},
		{api.ErrDead, xy, []int{2, 5, 9}},
		{api.ErrDead, synced, []int{2, 5, 9}},
		{api.ErrDead, synced.and(shot{"manifest.new": loose("", listed(10))}), []int{2, 5, 9}},
		{api.ErrDead, synced.and(shot{"manifest.new": safe(listed(10))}), []int{2, 5, 9}},
		{api.ErrDead, named, []int{10}},
		{api.ErrDead, named.and(shot{seg(2): gone}), []int{10}},
		{api.OK, behind, []int{10}},
	})
	d, l := replaced(t)
	is(t, l.Replace(recs("x", "yy")), api.OK)
	d.Crash(nil)
	has(t, d, behind)
	add(t, l, "z")
	open(t, d, "x", "yy", "z")
}

// P7.5: Replace by no records: the segment has no file, and is not synced.
func TestReplaceNone(t *testing.T) {
	named := before.and(shot{"manifest": safe(listed(10))})
	for _, none := range [][][]byte{nil, {}, make([][]byte, 0, 9)} {
		sweep(t, replaced, func(l *seglog.Log) api.Errno { return l.Replace(none) }, []step{
			{api.ErrDead, before, []int{2, 5, 9}},
			{api.ErrDead, before.and(shot{"manifest.new": loose("", listed(10))}), []int{2, 5, 9}},
			{api.ErrDead, before.and(shot{"manifest.new": safe(listed(10))}), []int{2, 5, 9}},
			{api.ErrDead, named, []int{10}},
			{api.ErrDead, named.and(shot{seg(2): gone}), []int{10}},
			{api.OK, shot{"manifest": safe(listed(10))}, []int{10}},
		})
	}
	d, l := made(t, shot{})
	for i := range 5 {
		is(t, l.Replace(nil), api.OK)
		has(t, d, shot{"manifest": safe(listed(uint64(i + 2)))})
		segments(t, d, l, i+2)
		unchanged(t, d, l, api.OK, func() api.Errno { return l.Sync() })
	}
	add(t, l, "a")
	has(t, d, shot{"manifest": safe(listed(6)), seg(6): loose("", framed("a"))})
	open(t, d, "a")
}

// P7.5: records of all sizes, also more than close a segment: one segment has them all.
func TestReplaceMany(t *testing.T) {
	var all []string
	for i := range 50 {
		all = append(all, of(byte(i), 1+i*80))
	}
	all = append(all, of('m', 4000), of('m', 4000))
	d, l := made(t, shot{})
	add(t, l, "a", "b")
	if n := burned(t, d, func() { is(t, l.Replace(recs(all...)), api.OK) }); n != len(all)+5 {
		t.Errorf("%d changes by %d records", n, len(all))
	}
	has(t, d, shot{"manifest": safe(listed(2)), seg(2): safe(framed(all...))})
	segments(t, d, l, 2)
	open(t, d, all...)
	add(t, l, "next")
	has(t, d, shot{"manifest": safe(listed(2, 3)), seg(2): safe(framed(all...)), seg(3): loose("", framed("next"))})
}

// P7.5: more records than a file has room for; then the log is as it was.
func TestReplaceTooMany(t *testing.T) {
	d, l := replaced(t)
	all := make([][]byte, 260)
	for i := range all {
		all[i] = make([]byte, 4000)
	}
	is(t, l.Replace(all), api.ErrFull)
	has(t, d, before)
	segments(t, d, l, 2, 5, 9)
	is(t, l.Replace(all[:259]), api.OK)
	segments(t, d, l, 10)
	if l.Bytes() != 259*4040 {
		t.Errorf("Bytes is %d", l.Bytes())
	}
}

// P7.5: one record that can't be one, wherever it stands, changes nothing.
func TestReplaceWrong(t *testing.T) {
	for _, wrong := range [][]byte{nil, {}, make([]byte, 4001), make([]byte, 1<<16)} {
		for at := range 3 {
			d, l := replaced(t)
			l3 := recs("x", "y", "z")
			l3[at] = wrong
			unchanged(t, d, l, api.ErrArg, func() api.Errno { return l.Replace(l3) })
			goesOn(t, d, l)
		}
	}
	d, l := made(t, shot{"manifest": safe(listed(99999999))})
	unchanged(t, d, l, api.ErrArg, func() api.Errno { return l.Replace(recs("x", "")) })
	unchanged(t, d, l, api.ErrFull, func() api.Errno { return l.Replace(recs("x")) })
}

// P7.5: there is no number behind the greatest one.
func TestReplaceLastNumber(t *testing.T) {
	d, l := made(t, shot{"manifest": safe(listed(3, 99999998)), seg(3): safe(framed("a"))}, "a")
	is(t, l.Replace(recs("b")), api.OK)
	s := shot{"manifest": safe(listed(99999999)), seg(99999999): safe(framed("b"))}
	has(t, d, s)
	for _, more := range [][][]byte{nil, recs("c"), recs("c", "d")} {
		unchanged(t, d, l, api.ErrFull, func() api.Errno { return l.Replace(more) })
	}
	add(t, l, "c")
	open(t, d, "b", "c")
}

// P7.5: of an error the new segment's file is removed, and the log is as it was.
func TestReplaceUndone(t *testing.T) {
	old := []int{2, 5, 9}
	replace := func(l *seglog.Log) api.Errno { return l.Replace(recs("x", "yy")) }
	x := before.and(shot{seg(10): loose("", framed("x"))})
	xy := before.and(shot{seg(10): loose("", framed("x", "yy"))})
	synced := before.and(shot{seg(10): safe(framed("x", "yy"))})
	room := func(left int) func(t *testing.T) (*files.Disk, *seglog.Log) {
		return func(t *testing.T) (*files.Disk, *seglog.Log) {
			d, l := replaced(t)
			d.Room(d.Used() + left)
			return d, l
		}
	}
	sweep(t, func(t *testing.T) (*files.Disk, *seglog.Log) {
		d, l := replaced(t)
		d.Short(9)
		return d, l
	}, replace, []step{
		{api.ErrDead, before, old},
		{api.ErrPart, before.and(shot{seg(10): loose("", framed("x")[:9])}), old},
		{api.ErrPart, before, old},
	})
	for _, left := range []int{0, 41} {
		sweep(t, room(41+left), replace, []step{
			{api.ErrDead, before, old},
			{api.ErrDead, x, old},
			{api.ErrFull, x, old},
			{api.ErrFull, before, old},
		})
	}
	for _, left := range []int{0, len(listed(10)) - 1} {
		sweep(t, room(83+left), replace, []step{
			{api.ErrDead, before, old},
			{api.ErrDead, x, old},
			{api.ErrDead, xy, old},
			{api.ErrDead, synced, old},
			{api.ErrFull, synced, old},
			{api.ErrFull, synced, old},
			{api.ErrFull, before, old},
		})
	}
	d, l := room(83 + len(listed(10)))(t)
	is(t, replace(l), api.OK)
	has(t, d, shot{"manifest": safe(listed(10)), seg(10): safe(framed("x", "yy"))})
}

// P7.5: errors where no file was begun.
func TestReplaceUndoneNone(t *testing.T) {
	size := len(listed(10))
	for _, left := range []int{0, 40} {
		d, l := replaced(t)
		d.Room(d.Used() + left)
		is(t, l.Replace(recs("x", "yy")), api.ErrFull)
		has(t, d, before)
		segments(t, d, l, 2, 5, 9)
		is(t, l.Replace(nil), api.ErrFull)
		has(t, d, before)
		d.Short(left)
		d.Room(great)
		is(t, l.Replace(nil), api.ErrPart)
		has(t, d, before)
		segments(t, d, l, 2, 5, 9)
		d.Room(d.Used() + size)
		is(t, l.Replace(nil), api.OK)
		has(t, d, shot{"manifest": safe(listed(10))})
		goesOn(t, d, l)
	}
}

// P7.6: names and bytes, also of what somebody else wrote, and of what a crash left.
func TestSegmentsBytes(t *testing.T) {
	d, l := replaced(t)
	segments(t, d, l, 2, 5, 9)
	d.Append("foreign", make([]byte, 100))
	d.Append("s000000090", make([]byte, 100))
	d.Append(seg(4), make([]byte, 100))
	d.Append("manifest.new", make([]byte, 100))
	segments(t, d, l, 2, 5, 9)
	if l.Bytes() != 3*41 {
		t.Errorf("Bytes is %d", l.Bytes())
	}
	d.Append(seg(5), make([]byte, 10))
	segments(t, d, l, 2, 5, 9)
	if l.Bytes() != 3*41+10 {
		t.Errorf("Bytes is %d", l.Bytes())
	}
	d.Crash(nil)
	segments(t, d, l, 2, 5, 9)
	if l.Bytes() != 2*41 {
		t.Errorf("behind a crash Bytes is %d", l.Bytes())
	}
	d.Remove(seg(2))
	segments(t, d, l, 2, 5, 9)
	if l.Bytes() != 41 {
		t.Errorf("without a file Bytes is %d", l.Bytes())
	}
	if n := burned(t, d, func() { l.Segments(); l.Bytes() }); n != 0 {
		t.Errorf("%d changes of the disk", n)
	}
}

// Logs that no call made.
func TestLogNil(t *testing.T) {
	for _, l := range []*seglog.Log{nil, {}, new(seglog.Log)} {
		is(t, l.Append([]byte("a")), api.ErrNil)
		is(t, l.Sync(), api.ErrNil)
		is(t, l.Replace(nil), api.ErrNil)
		is(t, l.Replace(recs("a")), api.ErrNil)
		if l.Segments() != nil || l.Bytes() != 0 {
			t.Errorf("Segments is %q, Bytes %d", l.Segments(), l.Bytes())
		}
	}
}

// Memory: what was appended, and the names that were told, may be changed afterwards.
func TestMemory(t *testing.T) {
	d, l := made(t, shot{})
	rec := []byte("abcdef")
	is(t, l.Append(rec[:3]), api.OK)
	many := recs("x", "y", "z")
	if string(rec) != "abcdef" {
		t.Errorf("the room behind the record is %q", rec)
	}
	copy(rec, "!!!!!!")
	has(t, d, fresh.and(shot{seg(1): loose("", framed("abc"))}))

	names := append(l.Segments(), "more")
	names[0] = "!"
	segments(t, d, l, 1)

	is(t, l.Replace(many[:2]), api.OK)
	if fmt.Sprintf("%s", many) != "[x y z]" {
		t.Errorf("Replace has changed its records to %s", many)
	}
	many[0][0], many[1] = '!', nil
	has(t, d, shot{"manifest": safe(listed(2)), seg(2): safe(framed("x", "y"))})
	l.Segments()[0] = "!"
	add(t, l, "w")
	open(t, d, "x", "y", "w")
}
