package sixfold

import (
	"testing"

	"sixfold/api"
)

// opened is a volume with writer 1 open, which has appended two records; nothing of them has arrived.
func opened(t *testing.T) *Volume {
	t.Helper()
	v := fresh(t, 100)
	open(t, v, 1)
	arrive(t, v)
	appends(t, v, 1, 70, 1, api.OK)
	appends(t, v, 1, 71, 2, api.OK)
	return v
}

// at is a segment that is up, at epoch 1.
func at(scl int, kept, buffer []api.Record) api.Segment {
	return api.Segment{Up: true, Epoch: 1, Scl: scl, Cuts: []api.Cut{{Epoch: 1}}, Kept: kept, Buffer: buffer}
}

func gossips(t *testing.T, v *Volume, a, b int, want api.Errno) {
	t.Helper()
	if e := v.Gossip(a, b); e != want {
		t.Fatalf("P11: Gossip(%d, %d) = %d, want %d", a, b, e, want)
	}
}

func TestP11Errors(t *testing.T) {
	v := opened(t)
	crash(t, v, 3)
	before := look(v)
	for _, n := range []int{least, -1, 6, 7, greatest} {
		for s := range api.Segments {
			gossips(t, v, n, s, api.ErrSegment)
			gossips(t, v, s, n, api.ErrSegment) // 3 is down, too
		}
		gossips(t, v, n, n, api.ErrSegment)
		gossips(t, v, n, -n, api.ErrSegment)
	}
	for s := range api.Segments {
		gossips(t, v, s, s, api.ErrSegment) // 3 is down, too
		if s != 3 {
			gossips(t, v, 3, s, api.ErrDown)
		}
	}
	unchanged(t, v, before)
	lose(t, v)
	// the one that is asked may be down: nothing comes of it
	gossip(t, v, 2, 3)
	inFlight(t, v, need(2, 3, 1))
	before = look(v)
	deliver(t, v, 0)
	before.messages = nil
	unchanged(t, v, before)
	restart(t, v, 3)
	gossip(t, v, 3, 2)
	inFlight(t, v, need(3, 2, 1))
}

func TestP11Pairs(t *testing.T) {
	v := fresh(t, 100)
	for a := range api.Segments {
		for b := range api.Segments {
			if a == b {
				continue
			}
			before := look(v)
			gossip(t, v, a, b)
			inFlight(t, v, need(a, b, 1))
			deliver(t, v, 0)
			unchanged(t, v, before)
		}
	}
}

func TestP11Need(t *testing.T) {
	v := opened(t)
	deliver(t, v, 6) // record 2 at segment 0
	deliver(t, v, 0) // record 1 there
	deliver(t, v, 5) // record 2 at segment 1
	deliver(t, v, 1) // record 1 at segment 2
	lose(t, v)
	sync(t, v, 1)
	lose(t, v)
	// in the buffer alone, or behind a hole: it is not there yet
	for _, s := range []int{0, 1, 2, 5} {
		gossip(t, v, s, 4)
		inFlight(t, v, need(s, 4, 1))
		before := look(v)
		deliver(t, v, 0) // segment 4 has nothing
		before.messages = nil
		unchanged(t, v, before)
	}
	// segments 0 and 2 have record 1 in the buffer alone; segment 1 has none of it
	for _, s := range []int{0, 1, 2} {
		gossip(t, v, 5, s)
		deliver(t, v, 0)
		inFlight(t, v)
	}
	sync(t, v, 2)
	lose(t, v)
	// segment 2 needs record 2; segment 1 has kept it, though not record 1
	gossip(t, v, 2, 1)
	inFlight(t, v, need(2, 1, 2))
	deliver(t, v, 0)
	inFlight(t, v, filled(1, 2, 2, 1, 71))
	segmentAt(t, v, 2, at(1, records(1, 1, 70), nil))
	deliver(t, v, 0)
	inFlight(t, v)
	segmentAt(t, v, 2, at(1, records(1, 1, 70), records(1, 2, 71)))
	segmentAt(t, v, 1, at(0, records(1, 2, 71), nil))
	// it is kept by Sync alone, and then told to the writer
	sync(t, v, 2)
	inFlight(t, v, status(2, 1, 2))
	segmentAt(t, v, 2, at(2, records(1, 1, 70, 71), nil))
}

func TestP11Had(t *testing.T) {
	v := opened(t)
	arrive(t, v)
	sync(t, v, 0, 1)
	lose(t, v)
	// in the buffer already
	v.net.Send(filled(0, 5, 1, 1, 99))
	deliver(t, v, 0)
	segmentAt(t, v, 5, at(0, nil, records(1, 1, 70, 71)))
	// kept already
	v.net.Send(filled(0, 1, 2, 1, 99))
	deliver(t, v, 0)
	segmentAt(t, v, 1, at(2, records(1, 1, 70, 71), nil))
	// twice: once in the buffer, then kept
	crash(t, v, 5)
	restart(t, v, 5)
	gossip(t, v, 5, 1)
	deliver(t, v, 0)
	v.Copy(0)
	v.Copy(0)
	deliver(t, v, 0, 0)
	segmentAt(t, v, 5, at(0, nil, records(1, 1, 70)))
	sync(t, v, 5)
	deliver(t, v, 0)
	segmentAt(t, v, 5, at(1, records(1, 1, 70), nil))
	inFlight(t, v, status(5, 1, 1))
}

func TestP11NotGood(t *testing.T) {
	// records of writer 1 are on their way to segments whose lists are others by then
	v := opened(t)
	crash(t, v, 1, 2, 3, 4, 5)
	arrive(t, v) // at segment 0 alone
	sync(t, v, 0)
	restart(t, v, 1, 2, 3, 4, 5)
	lose(t, v)
	segmentAt(t, v, 0, at(2, records(1, 1, 70, 71), nil))
	late := []api.Message{filled(0, 1, 1, 1, 70), filled(0, 1, 2, 1, 71)}
	crash(t, v, 0)
	open(t, v, 2)
	arrive(t, v)
	writerAt(t, v, 2, api.Open, 0, 0, 0)
	restart(t, v, 0)
	none := api.Segment{Up: true, Epoch: 2, Cuts: []api.Cut{{Epoch: 1}, {Epoch: 2}}}
	for _, m := range late {
		v.net.Send(m)
		deliver(t, v, 0)
		segmentAt(t, v, 1, none)
	}
	gossip(t, v, 3, 0) // segment 0 has not heard of writer 2, and gives what it has
	arrive(t, v)
	segmentAt(t, v, 3, none)
	segmentAt(t, v, 0, at(2, records(1, 1, 70, 71), nil))
	// a record of writer 2 at segment 0, whose list has no cut of it
	appends(t, v, 2, 80, 1, api.OK)
	crash(t, v, 0)
	arrive(t, v)
	sync(t, v, 1, 2, 3, 4)
	arrive(t, v)
	restart(t, v, 0)
	for lsn := 1; lsn <= 4; lsn++ {
		v.net.Send(filled(1, 0, lsn, 2, 80))
		deliver(t, v, 0)
		segmentAt(t, v, 0, at(2, records(1, 1, 70, 71), nil))
	}
	// when it is cut there, its old records are gone, and the new one is good
	resend(t, v, 2, api.OK)
	arrive(t, v)
	segmentAt(t, v, 0, none)
	gossip(t, v, 0, 4)
	arrive(t, v)
	none.Buffer = records(2, 1, 80)
	segmentAt(t, v, 0, none)
}

func TestP11CutBelow(t *testing.T) {
	// of the records of writer 1 the first is good by the cut of writer 2, the second is not
	v := opened(t)
	crash(t, v, 1, 2, 3, 4, 5)
	deliver(t, v, 0)
	sync(t, v, 0)
	lose(t, v)
	restart(t, v, 1, 2, 3, 4, 5)
	open(t, v, 2)
	arrive(t, v)
	writerAt(t, v, 2, api.Cutting, 1, 1, 0)
	g := api.Segment{Up: true, Epoch: 2, Cuts: []api.Cut{{Epoch: 1}, {Epoch: 2, At: 1}}}
	segmentAt(t, v, 5, g)
	v.net.Send(filled(0, 5, 2, 1, 71))
	deliver(t, v, 0)
	segmentAt(t, v, 5, g)
	v.net.Send(filled(0, 5, 1, 1, 70))
	deliver(t, v, 0)
	g.Buffer = records(1, 1, 70)
	segmentAt(t, v, 5, g)
}

func TestP11FencedNotCut(t *testing.T) {
	// a segment that a newer writer has fenced gossips by the list that it has
	v := opened(t)
	deliver(t, v, 0)
	sync(t, v, 0)
	lose(t, v)
	open(t, v, 2)
	deliver(t, v, 0, 4) // segments 0 and 5
	lose(t, v)
	gossip(t, v, 5, 0)
	arrive(t, v)
	segmentAt(t, v, 5, api.Segment{Up: true, Epoch: 2, Cuts: []api.Cut{{Epoch: 1}}, Buffer: records(1, 1, 70)})
	sync(t, v, 5)
	inFlight(t, v)
	resend(t, v, 2, api.OK)
	deliver(t, v, 5)
	m := fenced(5, 2)
	m.Cuts, m.Marks = []api.Cut{{Epoch: 1}}, []int{1}
	inFlight(t, v, fence(2, 0), fence(2, 1), fence(2, 2), fence(2, 3), fence(2, 4), m)
}

func TestP11Full(t *testing.T) {
	v := freshWith(t, 1, 100)
	open(t, v, 1)
	arrive(t, v)
	crash(t, v, 0)
	fill(t, v, 1, 1)
	restart(t, v, 0)
	for lsn := 1; lsn <= api.MaxLog; lsn++ {
		gossip(t, v, 0, 4)
		inFlight(t, v, need(0, 4, lsn))
		deliver(t, v, 0)
		inFlight(t, v, filled(4, 0, lsn, 1, 100+lsn))
		arrive(t, v)
		sync(t, v, 0)
		arrive(t, v)
	}
	before := look(v)
	if g := before.segments[0]; g.Scl != api.MaxLog || len(g.Kept) != api.MaxLog {
		t.Fatalf("P11: segment 0 is at %+v", g)
	}
	// nobody has a record behind the last
	for b := 1; b < api.Segments; b++ {
		gossip(t, v, 0, b)
		inFlight(t, v, need(0, b, api.MaxLog+1))
		deliver(t, v, 0)
		unchanged(t, v, before)
	}
	reads(t, v, 1, api.MaxLog, 140, api.OK)
	reads(t, v, 1, api.MaxLog+1, 0, api.ErrNone)
}

func TestP11NetworkFull(t *testing.T) {
	v := freshWith(t, 2, 1)
	open(t, v, 1)
	for range 40 {
		arrive(t, v)
		resend(t, v, 1, api.OK)
	}
	inFlight(t, v)
	appends(t, v, 1, 70, 1, api.OK) // to segment 0 alone
	arrive(t, v)
	sync(t, v, 0)
	inFlight(t, v, status(0, 1, 1))
	gossip(t, v, 1, 0)
	inFlight(t, v, status(0, 1, 1))
	lose(t, v)
	gossip(t, v, 1, 0)
	inFlight(t, v, need(1, 0, 1))
	gossip(t, v, 2, 0)
	deliver(t, v, 0) // what arrives makes room for its answer
	inFlight(t, v, filled(0, 1, 1, 1, 70))
	deliver(t, v, 0)
	inFlight(t, v)
	segmentAt(t, v, 1, at(0, nil, records(1, 1, 70)))
}
