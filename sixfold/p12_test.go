package sixfold

import (
	"reflect"
	"testing"

	"sixfold/api"
)

func TestP12Errors(t *testing.T) {
	v := opened(t)
	before := look(v)
	for _, s := range []int{least, -1, 6, 7, greatest} {
		for _, e := range []api.Errno{v.Crash(s), v.Restart(s)} {
			if e != api.ErrSegment {
				t.Errorf("P12: at segment %d: %d", s, e)
			}
		}
	}
	for s := range api.Segments {
		if e := v.Restart(s); e != api.ErrUp {
			t.Errorf("P12: Restart(%d) of one that is up = %d", s, e)
		}
	}
	unchanged(t, v, before)
	for s := range api.Segments {
		crash(t, v, s)
		before.segments[s].Up = false
		unchanged(t, v, before) // no other, and nothing is sent
		if e := v.Crash(s); e != api.ErrDown {
			t.Errorf("P12: Crash(%d) of one that is down = %d", s, e)
		}
		if e := v.Sync(s); e != api.ErrDown {
			t.Errorf("P10: Sync(%d) of one that is down = %d", s, e)
		}
		unchanged(t, v, before)
	}
	for s := range api.Segments {
		restart(t, v, s)
		before.segments[s].Up = true
		unchanged(t, v, before)
		if e := v.Restart(s); e != api.ErrUp {
			t.Errorf("P12: Restart(%d) twice = %d", s, e)
		}
	}
	unchanged(t, v, before)
}

func TestP12Outlasts(t *testing.T) {
	v := opened(t)
	deliver(t, v, 6) // record 2 at segment 0
	sync(t, v, 0)
	deliver(t, v, 0) // record 1 there
	segmentAt(t, v, 0, at(0, records(1, 2, 71), records(1, 1, 70)))
	lose(t, v)
	crash(t, v, 0)
	g := at(0, records(1, 2, 71), nil)
	g.Up = false
	segmentAt(t, v, 0, g)
	restart(t, v, 0)
	g.Up = true
	segmentAt(t, v, 0, g)
	inFlight(t, v)
	// the buffer does not come back by Sync
	sync(t, v, 0)
	inFlight(t, v, status(0, 1, 0))
	segmentAt(t, v, 0, g)
	lose(t, v)
	// what was lost is written once more
	resend(t, v, 1, api.OK)
	deliver(t, v, 0)
	segmentAt(t, v, 0, at(0, records(1, 2, 71), records(1, 1, 70)))
	sync(t, v, 0)
	segmentAt(t, v, 0, at(2, records(1, 1, 70, 71), nil))
	crash(t, v, 0)
	restart(t, v, 0)
	segmentAt(t, v, 0, at(2, records(1, 1, 70, 71), nil))
}

func TestP12EpochOutlasts(t *testing.T) {
	// fenced by writer 2, and not yet cut
	v := opened(t)
	open(t, v, 2)
	deliver(t, v, 12)
	crash(t, v, 0)
	restart(t, v, 0)
	segmentAt(t, v, 0, api.Segment{Up: true, Epoch: 2, Cuts: []api.Cut{{Epoch: 1}}})
	deliver(t, v, 0) // MWrite of writer 1 there
	if m, _ := v.Message(v.Flight() - 1); m.Kind != api.MRefused || m.Epoch != 2 {
		t.Fatalf("P12: the fence does not outlast a crash: %+v", m)
	}
}

func TestP4Down(t *testing.T) {
	// each kind of message at a segment that is down, and at one that is up again
	list := []api.Cut{{Epoch: 1}, {Epoch: 2}}
	for _, m := range []api.Message{fence(2, 0), cut(2, 0, list...), write(1, 0, 1, 70), write(1, 0, 3, 72), need(1, 0, 1), filled(1, 0, 3, 1, 72)} {
		v := opened(t)
		arrive(t, v)
		sync(t, v, 0)
		open(t, v, 2)
		lose(t, v)
		crash(t, v, 0)
		before := look(v)
		v.net.Send(m)
		deliver(t, v, 0)
		unchanged(t, v, before)
		restart(t, v, 0)
		before = look(v)
		v.net.Send(m)
		deliver(t, v, 0)
		if reflect.DeepEqual(before, look(v)) {
			t.Errorf("P12: %+v does nothing at a segment that is up again", m)
		}
	}
}

func TestP12Answers(t *testing.T) {
	// what a segment sent ahead of its crash arrives all the same
	v := opened(t)
	arrive(t, v)
	for s := range 4 {
		sync(t, v, s)
		crash(t, v, s)
	}
	inFlight(t, v, status(0, 1, 2), status(1, 1, 2), status(2, 1, 2), status(3, 1, 2))
	arrive(t, v)
	writerAt(t, v, 1, api.Open, 0, 2, 2)
	reads(t, v, 1, 1, 0, api.ErrDown)
	// and an answer to a segment that is down is lost
	restart(t, v, 0)
	gossip(t, v, 5, 0)
	crash(t, v, 5)
	deliver(t, v, 0)
	inFlight(t, v, filled(0, 5, 1, 1, 70))
	deliver(t, v, 0)
	g := at(0, nil, nil)
	g.Up = false
	segmentAt(t, v, 5, g)
	restart(t, v, 5)
	segmentAt(t, v, 5, at(0, nil, nil))
	inFlight(t, v)
}

func TestP12HowManyMayBeLost(t *testing.T) {
	for down := 0; down <= api.Segments; down++ {
		v := fresh(t, 100)
		for s := range down {
			crash(t, v, s)
		}
		open(t, v, 1)
		for range 3 {
			arrive(t, v)
			resend(t, v, 1, api.OK)
		}
		arrive(t, v)
		if down > 2 {
			writerAt(t, v, 1, api.Fencing, 0, 0, 0)
			continue
		}
		writerAt(t, v, 1, api.Open, 0, 0, 0)
		appends(t, v, 1, 70, 1, api.OK)
		arrive(t, v)
		for s := down; s < api.Segments; s++ {
			sync(t, v, s)
		}
		arrive(t, v)
		writerAt(t, v, 1, api.Open, 0, 1, 1)
		reads(t, v, 1, 1, 70, api.OK)
	}
}
