package sixfold

import (
	"testing"

	"sixfold/api"
)

var outside = []int{least, -1, 0, 41, greatest}

// kept is a volume whose writer 1 has three records: segment 0 has told that it keeps one, segments 1, 2, 4 and 5 that they keep two, segment 3 nothing. All but the third record is durable.
func kept(t *testing.T) *Volume {
	t.Helper()
	v := freshWith(t, 8, 100)
	open(t, v, 1)
	arrive(t, v)
	crash(t, v, 3)
	appends(t, v, 1, least, 1, api.OK)
	arrive(t, v)
	sync(t, v, 0)
	arrive(t, v)
	crash(t, v, 0)
	appends(t, v, 1, 0, 2, api.OK)
	arrive(t, v)
	sync(t, v, 1, 2, 4, 5)
	arrive(t, v)
	restart(t, v, 0, 3)
	appends(t, v, 1, greatest, 3, api.OK)
	arrive(t, v)
	writerAt(t, v, 1, api.Open, 0, 3, 2)
	return v
}

func TestP13(t *testing.T) {
	v := kept(t)
	before := look(v)
	for range 2 {
		reads(t, v, 1, 1, least, api.OK)
		reads(t, v, 1, 2, 0, api.OK)
		reads(t, v, 1, 3, 0, api.ErrNone) // in the log, and not durable
		reads(t, v, 1, 4, 0, api.ErrNone)
		for _, lsn := range outside {
			reads(t, v, 1, lsn, 0, api.ErrNone)
		}
	}
	unchanged(t, v, before)
	sync(t, v, 1, 2, 4)
	arrive(t, v)
	reads(t, v, 1, 3, 0, api.ErrNone)
	sync(t, v, 5)
	reads(t, v, 1, 3, 0, api.ErrNone) // the writer has not heard it
	arrive(t, v)
	reads(t, v, 1, 3, greatest, api.OK)
	reads(t, v, 1, 4, 0, api.ErrNone)
}

func TestP13Errors(t *testing.T) {
	v := opened(t)
	lose(t, v)
	// Fencing, then Cutting: whatever the number
	open(t, v, 2)
	for _, lsn := range append(outside, 1) {
		reads(t, v, 1, lsn, 0, api.ErrNone)
		reads(t, v, 2, lsn, 0, api.ErrClosed)
		for _, w := range []int{least, -1, 0, 3, greatest} {
			reads(t, v, w, lsn, 0, api.ErrWriter)
		}
	}
	deliver(t, v, 0, 0, 0, 0)
	deliver(t, v, 2, 2, 2, 2)
	writerAt(t, v, 2, api.Cutting, 0, 0, 0)
	before := look(v)
	for _, lsn := range append(outside, 1) {
		reads(t, v, 2, lsn, 0, api.ErrClosed)
		reads(t, v, 1, lsn, 0, api.ErrNone) // though its segments are of a newer writer
	}
	unchanged(t, v, before)
	// Fenced
	arrive(t, v)
	resend(t, v, 1, api.OK)
	arrive(t, v)
	writerAt(t, v, 1, api.Fenced, 0, 2, 0)
	before = look(v)
	for _, lsn := range append(outside, 1, 2, 3) {
		reads(t, v, 1, lsn, 0, api.ErrFenced)
		reads(t, v, 2, lsn, 0, api.ErrNone)
	}
	crash(t, v, 0, 1, 2, 3, 4, 5)
	reads(t, v, 1, 1, 0, api.ErrFenced)
	reads(t, v, 2, 1, 0, api.ErrNone)
	restart(t, v, 0, 1, 2, 3, 4, 5)
	unchanged(t, v, before)
}

func TestP13Down(t *testing.T) {
	v := kept(t)
	// of record 2 segments 1, 2, 4 and 5 are asked
	for _, s := range []int{1, 2, 4} {
		crash(t, v, s)
		reads(t, v, 1, 2, 0, api.OK)
	}
	reads(t, v, 1, 1, least, api.OK)
	crash(t, v, 5)
	before := look(v)
	reads(t, v, 1, 2, 0, api.ErrDown)
	reads(t, v, 1, 1, least, api.OK) // segment 0 has told of this one
	reads(t, v, 1, 3, 0, api.ErrNone)
	unchanged(t, v, before)
	crash(t, v, 0)
	before = look(v)
	reads(t, v, 1, 1, 0, api.ErrDown) // segment 3 is up, and has told nothing
	unchanged(t, v, before)
	for _, s := range []int{5, 4, 2, 1} {
		restart(t, v, s)
		reads(t, v, 1, 1, least, api.OK)
		reads(t, v, 1, 2, 0, api.OK)
		crash(t, v, s)
	}
}

func TestP13NotNoted(t *testing.T) {
	// segment 3 keeps all, but the writer has not heard of it
	v := kept(t)
	for range 2 {
		gossip(t, v, 3, 5)
		arrive(t, v)
		sync(t, v, 3)
		lose(t, v)
	}
	if g, _ := v.Segment(3); g.Scl != 3 {
		t.Fatalf("P11: segment 3 is at %+v", g)
	}
	crash(t, v, 1, 2, 4, 5)
	reads(t, v, 1, 2, 0, api.ErrDown)
	sync(t, v, 3)
	arrive(t, v)
	reads(t, v, 1, 2, 0, api.OK)
}

// fences lets the MFence of a new writer arrive at some segments alone.
func fences(t *testing.T, v *Volume, w int, l ...int) {
	t.Helper()
	open(t, v, w)
	for i, s := range l {
		deliver(t, v, s-i) // by rising numbers
	}
	lose(t, v)
}

func TestP13Fenced(t *testing.T) {
	for _, c := range []struct {
		newer []int // have heard of writer 2
		down  []int
		first api.Errno // of record 1
		then  api.Errno // of record 2, in a volume of its own
	}{
		{nil, nil, api.OK, api.OK},
		{[]int{0}, nil, api.ErrFenced, api.OK},
		{[]int{0}, []int{0}, api.OK, api.OK},
		{[]int{1}, nil, api.OK, api.ErrFenced},
		{[]int{1}, []int{0}, api.ErrFenced, api.ErrFenced},
		{[]int{3}, nil, api.OK, api.OK},
		{[]int{3}, []int{0, 1, 2}, api.OK, api.OK},
		{[]int{3}, []int{0, 1, 2, 4, 5}, api.ErrDown, api.ErrDown},
		{[]int{2, 4, 5}, nil, api.OK, api.OK},
		{[]int{2, 4, 5}, []int{1}, api.OK, api.ErrFenced},
		{[]int{2, 4, 5}, []int{0, 1}, api.ErrFenced, api.ErrFenced},
		{[]int{5}, []int{0, 1, 2}, api.OK, api.OK},
		{[]int{5}, []int{0, 1, 2, 4}, api.ErrFenced, api.ErrFenced},
		{[]int{1, 2, 4, 5}, []int{1, 2, 4, 5}, api.OK, api.ErrDown},
		{[]int{0, 1, 2, 3, 4, 5}, []int{0, 1, 2, 4, 5}, api.ErrDown, api.ErrDown},
	} {
		for lsn, want := range []api.Errno{0, c.first, c.then} {
			if lsn == 0 {
				continue
			}
			v := kept(t)
			fences(t, v, 2, c.newer...)
			crash(t, v, c.down...)
			before := look(v)
			value := 0
			if want == api.OK {
				value = []int{0, least, 0}[lsn]
			}
			reads(t, v, 1, lsn, value, want)
			if want == api.ErrFenced {
				before.writers[0].Phase = api.Fenced
			}
			unchanged(t, v, before)
			reads(t, v, 1, lsn, value, want)
			unchanged(t, v, before)
		}
	}
}

func TestP13FencedWriterStops(t *testing.T) {
	v := kept(t)
	fences(t, v, 2, 1)
	reads(t, v, 1, 2, 0, api.ErrFenced)
	writerAt(t, v, 1, api.Fenced, 0, 3, 2)
	for _, lsn := range append(outside, 1, 2, 3) {
		reads(t, v, 1, lsn, 0, api.ErrFenced)
	}
	appends(t, v, 1, 9, 0, api.ErrFenced)
	resend(t, v, 1, api.ErrFenced)
	// what it hears from now on is not noted
	sync(t, v, 0, 2, 4, 5)
	arrive(t, v)
	writerAt(t, v, 1, api.Fenced, 0, 3, 2)
}

func TestP13NextWriter(t *testing.T) {
	v := kept(t)
	open(t, v, 2)
	arrive(t, v)
	writerAt(t, v, 2, api.Open, 2, 2, 2)
	reads(t, v, 2, 1, least, api.OK)
	reads(t, v, 2, 2, 0, api.OK)
	reads(t, v, 2, 3, 0, api.ErrNone)
	appends(t, v, 2, 90, 3, api.OK)
	arrive(t, v)
	sync(t, v, 1, 2, 4, 5)
	arrive(t, v)
	reads(t, v, 2, 3, 90, api.OK)
	// the older one had another record 3, which was never durable
	reads(t, v, 1, 3, 0, api.ErrNone)
	writerAt(t, v, 1, api.Open, 0, 3, 2)
	reads(t, v, 1, 1, 0, api.ErrFenced)
	writerAt(t, v, 1, api.Fenced, 0, 3, 2)
	writerAt(t, v, 2, api.Open, 2, 3, 3)
}
