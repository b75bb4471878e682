package segment

import (
	"reflect"
	"testing"

	"sixfold/api"
)

// with is a segment of an epoch with a list of cuts.
func with(epoch int, list ...api.Cut) Segment {
	s := New()
	s.epoch = epoch
	s.cuts = list
	return s
}

func (s *Segment) put(state, lsn, epoch, value int) {
	s.places[lsn-1] = place{state: state, epoch: epoch, value: value}
}

// arrive lets a message arrive, and checks the answer; a want of kind 0 is no answer.
func arrive(t *testing.T, s *Segment, m, want api.Message) {
	t.Helper()
	got, sent := s.Arrive(m)
	if sent != (want.Kind != 0) || !same(got, want) {
		t.Fatalf("%+v is answered by %+v, %v, want %+v", m, got, sent, want)
	}
}

// same takes an empty list for nil.
func same(a, b api.Message) bool {
	if len(a.Cuts) == 0 && len(b.Cuts) == 0 {
		a.Cuts, b.Cuts = nil, nil
	}
	if len(a.Marks) == 0 && len(b.Marks) == 0 {
		a.Marks, b.Marks = nil, nil
	}
	return reflect.DeepEqual(a, b)
}

func state(t *testing.T, s *Segment, want api.Segment) {
	t.Helper()
	if got := s.State(); !reflect.DeepEqual(got, want) {
		t.Fatalf("P5: the segment is at %+v, want %+v", got, want)
	}
}

func TestNew(t *testing.T) {
	s := New()
	state(t, &s, api.Segment{Up: true})
}

func TestState(t *testing.T) {
	s := with(4, api.Cut{Epoch: 1}, api.Cut{Epoch: 4, At: 2})
	s.put(buffered, 40, 4, 400)
	s.put(kept, 4, 4, 40)
	s.put(kept, 2, 1, 20)
	s.put(buffered, 3, 4, 30)
	s.put(kept, 1, 1, 10)
	want := api.Segment{
		Up: true, Epoch: 4, Scl: 2,
		Cuts:   []api.Cut{{Epoch: 1}, {Epoch: 4, At: 2}},
		Kept:   []api.Record{{Lsn: 1, Epoch: 1, Value: 10}, {Lsn: 2, Epoch: 1, Value: 20}, {Lsn: 4, Epoch: 4, Value: 40}},
		Buffer: []api.Record{{Lsn: 3, Epoch: 4, Value: 30}, {Lsn: 40, Epoch: 4, Value: 400}},
	}
	state(t, &s, want)
	got := s.State()
	spoil(&got)
	state(t, &s, want)
	s.Crash()
	want.Up = false
	want.Buffer = nil
	state(t, &s, want)
}

// spoil writes into the lists and into their spare room.
func spoil(g *api.Segment) {
	c := g.Cuts[:cap(g.Cuts)]
	for i := range c {
		c[i] = api.Cut{Epoch: 77, At: 77}
	}
	for _, l := range [][]api.Record{g.Kept, g.Buffer} {
		l = l[:cap(l)]
		for i := range l {
			l[i] = api.Record{Lsn: 77, Epoch: 77, Value: 77}
		}
	}
}

func TestListsShareNoRoom(t *testing.T) {
	s := with(1, api.Cut{Epoch: 1})
	s.put(kept, 1, 1, 10)
	s.put(buffered, 2, 1, 20)
	a, b := s.State(), s.State()
	kept := a.Kept[:cap(a.Kept)]
	for i := range kept {
		kept[i] = api.Record{Lsn: 9, Epoch: 9, Value: 9}
	}
	if a.Buffer[0] != (api.Record{Lsn: 2, Epoch: 1, Value: 20}) {
		t.Errorf("P2: Kept and Buffer share room: %+v", a)
	}
	spoil(&a)
	if b.Cuts[0].Epoch != 1 || b.Kept[0].Lsn != 1 || b.Buffer[0].Lsn != 2 {
		t.Errorf("P2: the lists of two calls share room: %+v", b)
	}
}

func TestScl(t *testing.T) {
	s := with(1, api.Cut{Epoch: 1})
	s.put(kept, 2, 1, 0)
	if n := s.State().Scl; n != 0 {
		t.Errorf("Scl without record 1 is %d", n)
	}
	s.put(buffered, 1, 1, 0)
	if n := s.State().Scl; n != 0 {
		t.Errorf("Scl with record 1 in the buffer is %d", n)
	}
	for lsn := range api.MaxLog {
		s.put(kept, lsn+1, 1, 0)
	}
	if n := s.State().Scl; n != api.MaxLog {
		t.Errorf("Scl of a full log is %d", n)
	}
}

func TestFence(t *testing.T) {
	s := with(3, api.Cut{Epoch: 1}, api.Cut{Epoch: 3, At: 1})
	s.put(kept, 1, 1, 10)
	s.put(kept, 2, 3, 20)
	s.put(buffered, 3, 3, 30)
	s.put(kept, 4, 3, 40)
	before := s.State()
	arrive(t, &s, api.Message{Kind: api.MFence, From: 2, To: 4, Epoch: 2}, api.Message{Kind: api.MRefused, From: 4, To: 2, Epoch: 3})
	state(t, &s, before)
	// once more by the writer of its epoch, then by a newer one
	for _, e := range []int{3, 5} {
		arrive(t, &s, api.Message{Kind: api.MFence, From: e, To: 4, Epoch: e},
			api.Message{Kind: api.MFenced, From: 4, To: e, Epoch: e, Cuts: []api.Cut{{Epoch: 1}, {Epoch: 3, At: 1}}, Marks: []int{1, 3}})
		before.Epoch = e
		state(t, &s, before)
	}
	arrive(t, &s, api.Message{Kind: api.MFence, From: 4, To: 4, Epoch: 4}, api.Message{Kind: api.MRefused, From: 4, To: 4, Epoch: 5})
}

func TestFenceEmpty(t *testing.T) {
	s := New()
	arrive(t, &s, api.Message{Kind: api.MFence, From: 1, To: 5, Epoch: 1}, api.Message{Kind: api.MFenced, From: 5, To: 1, Epoch: 1})
	state(t, &s, api.Segment{Up: true, Epoch: 1})
}

func TestCut(t *testing.T) {
	s := with(1, api.Cut{Epoch: 1})
	s.put(kept, 1, 1, 10)
	s.put(kept, 2, 1, 20)
	s.put(kept, 3, 1, 30)
	s.put(buffered, 4, 1, 40)
	s.put(kept, 40, 1, 400)
	list := []api.Cut{{Epoch: 1}, {Epoch: 2, At: 2}}
	arrive(t, &s, api.Message{Kind: api.MCut, From: 2, To: 0, Epoch: 2, Cuts: list}, api.Message{Kind: api.MStatus, From: 0, To: 2, Epoch: 2, Scl: 2})
	list[1].At = 9 // the segment's list is its own
	want := api.Segment{
		Up: true, Epoch: 2, Scl: 2,
		Cuts: []api.Cut{{Epoch: 1}, {Epoch: 2, At: 2}},
		Kept: []api.Record{{Lsn: 1, Epoch: 1, Value: 10}, {Lsn: 2, Epoch: 1, Value: 20}},
	}
	state(t, &s, want)
	// what is good stays in the buffer
	s.put(buffered, 2, 1, 20)
	list = []api.Cut{{Epoch: 1}, {Epoch: 2, At: 2}, {Epoch: 4, At: 2}}
	arrive(t, &s, api.Message{Kind: api.MCut, From: 4, To: 0, Epoch: 4, Cuts: list}, api.Message{Kind: api.MStatus, From: 0, To: 4, Epoch: 4, Scl: 1})
	state(t, &s, api.Segment{
		Up: true, Epoch: 4, Scl: 1, Cuts: list,
		Kept:   []api.Record{{Lsn: 1, Epoch: 1, Value: 10}},
		Buffer: []api.Record{{Lsn: 2, Epoch: 1, Value: 20}},
	})
}

func TestCutForgetsUnknownWriters(t *testing.T) {
	// the records of a writer whose cut is not in the new list are gone, however low their numbers
	s := with(1, api.Cut{Epoch: 1})
	s.put(kept, 1, 1, 10)
	s.put(buffered, 2, 1, 20)
	arrive(t, &s, api.Message{Kind: api.MCut, From: 2, To: 3, Epoch: 2, Cuts: []api.Cut{{Epoch: 2, At: 5}}}, api.Message{Kind: api.MStatus, From: 3, To: 2, Epoch: 2})
	state(t, &s, api.Segment{Up: true, Epoch: 2, Cuts: []api.Cut{{Epoch: 2, At: 5}}})
}

func TestCutAgain(t *testing.T) {
	// of the writer whose cut is the top already: the list stays, and so do the records
	s := with(2, api.Cut{Epoch: 2, At: 0})
	s.put(kept, 1, 2, 10)
	s.put(buffered, 2, 2, 20)
	s.put(kept, 3, 1, 30)
	before := s.State()
	arrive(t, &s, api.Message{Kind: api.MCut, From: 2, To: 1, Epoch: 2, Cuts: []api.Cut{{Epoch: 1}, {Epoch: 2, At: 0}}}, api.Message{Kind: api.MStatus, From: 1, To: 2, Epoch: 2, Scl: 1})
	state(t, &s, before)
	// of an older writer
	arrive(t, &s, api.Message{Kind: api.MCut, From: 1, To: 1, Epoch: 1, Cuts: []api.Cut{{Epoch: 1}}}, api.Message{Kind: api.MRefused, From: 1, To: 1, Epoch: 2})
	state(t, &s, before)
}

func TestCutOfTheFencingWriter(t *testing.T) {
	// fenced by the writer already, not yet cut
	s := with(2, api.Cut{Epoch: 1})
	s.put(kept, 1, 1, 10)
	arrive(t, &s, api.Message{Kind: api.MCut, From: 2, To: 1, Epoch: 2, Cuts: []api.Cut{{Epoch: 1}, {Epoch: 2, At: 0}}}, api.Message{Kind: api.MStatus, From: 1, To: 2, Epoch: 2})
	state(t, &s, api.Segment{Up: true, Epoch: 2, Cuts: []api.Cut{{Epoch: 1}, {Epoch: 2, At: 0}}})
}

func TestDown(t *testing.T) {
	s := with(2, api.Cut{Epoch: 2})
	s.put(kept, 1, 2, 10)
	if s.Down() {
		t.Errorf("a segment that is up is down")
	}
	s.Crash()
	if !s.Down() {
		t.Errorf("a segment that is down is up")
	}
	before := s.State()
	for kind := api.MFence; kind <= api.MFill; kind++ {
		for e := 1; e <= 3; e++ {
			for lsn := 1; lsn <= 2; lsn++ {
				m := api.Message{Kind: kind, From: e, To: 0, Epoch: e, Lsn: lsn}
				if kind == api.MCut {
					m.Cuts = []api.Cut{{Epoch: e}}
				}
				arrive(t, &s, m, api.Message{})
				state(t, &s, before)
			}
		}
	}
}

func write(w, s, lsn, value int) api.Message {
	return api.Message{Kind: api.MWrite, From: w, To: s, Epoch: w, Lsn: lsn, Value: value}
}

// sync checks what is sent; a want of kind 0 is nothing.
func sync(t *testing.T, s *Segment, number int, want api.Message) {
	t.Helper()
	got, sent := s.Sync(number)
	if sent != (want.Kind != 0) || !same(got, want) {
		t.Fatalf("P10: Sync sends %+v, %v, want %+v", got, sent, want)
	}
}

func TestWrite(t *testing.T) {
	s := with(2, api.Cut{Epoch: 1}, api.Cut{Epoch: 2, At: 1})
	s.put(kept, 1, 1, 10)
	arrive(t, &s, write(2, 3, 3, -1<<63), api.Message{})
	arrive(t, &s, write(2, 3, 2, 1<<63-1), api.Message{})
	want := api.Segment{
		Up: true, Epoch: 2, Scl: 1,
		Cuts:   []api.Cut{{Epoch: 1}, {Epoch: 2, At: 1}},
		Kept:   []api.Record{{Lsn: 1, Epoch: 1, Value: 10}},
		Buffer: []api.Record{{Lsn: 2, Epoch: 2, Value: 1<<63 - 1}, {Lsn: 3, Epoch: 2, Value: -1 << 63}},
	}
	state(t, &s, want)
	// one that is in the buffer stays as it is, and nothing is told of it
	arrive(t, &s, write(2, 3, 3, 5), api.Message{})
	state(t, &s, want)
	// of one that is kept the writer is told how far the segment goes
	s.put(kept, 3, 2, 30)
	before := s.State()
	arrive(t, &s, write(2, 3, 3, 5), api.Message{Kind: api.MStatus, From: 3, To: 2, Epoch: 2, Scl: 1})
	state(t, &s, before)
}

func TestWriteByEpochs(t *testing.T) {
	cut := api.Cut{Epoch: 2}
	// the segment's epoch is 4, and so is the top
	s := with(4, cut, api.Cut{Epoch: 4})
	before := s.State()
	for w := 1; w <= 3; w++ {
		arrive(t, &s, write(w, 5, 1, 7), api.Message{Kind: api.MRefused, From: 5, To: w, Epoch: 4})
		state(t, &s, before)
	}
	arrive(t, &s, write(5, 5, 1, 7), api.Message{})
	state(t, &s, before)
	arrive(t, &s, write(4, 5, 1, 7), api.Message{})
	before.Buffer = []api.Record{{Lsn: 1, Epoch: 4, Value: 7}}
	state(t, &s, before)
	// the epoch is 4, the top 2: writer 4 has fenced, and not yet cut
	for _, k := range []int{0, buffered, kept} {
		s = with(4, cut)
		if k != 0 {
			s.put(k, 1, 2, 10)
		}
		before = s.State()
		arrive(t, &s, write(2, 5, 1, 7), api.Message{Kind: api.MRefused, From: 5, To: 2, Epoch: 4})
		arrive(t, &s, write(4, 5, 1, 7), api.Message{})
		arrive(t, &s, write(5, 5, 1, 7), api.Message{})
		state(t, &s, before)
	}
	// at the top alone
	s = with(2, api.Cut{Epoch: 4})
	before = s.State()
	arrive(t, &s, write(4, 5, 1, 7), api.Message{})
	state(t, &s, before)
	s = New()
	arrive(t, &s, write(1, 5, 1, 7), api.Message{})
	state(t, &s, api.Segment{Up: true})
}

func TestWriteBounds(t *testing.T) {
	s := with(1, api.Cut{Epoch: 1})
	for _, lsn := range []int{-1 << 63, -1, 0, api.MaxLog + 1, 1<<63 - 1} {
		arrive(t, &s, write(1, 0, lsn, 7), api.Message{})
		state(t, &s, api.Segment{Up: true, Epoch: 1, Cuts: []api.Cut{{Epoch: 1}}})
	}
	arrive(t, &s, write(1, 0, api.MaxLog, 7), api.Message{})
	arrive(t, &s, write(1, 0, 1, 6), api.Message{})
	sync(t, &s, 0, api.Message{Kind: api.MStatus, From: 0, To: 1, Epoch: 1, Scl: 1})
	state(t, &s, api.Segment{
		Up: true, Epoch: 1, Scl: 1, Cuts: []api.Cut{{Epoch: 1}},
		Kept: []api.Record{{Lsn: 1, Epoch: 1, Value: 6}, {Lsn: api.MaxLog, Epoch: 1, Value: 7}},
	})
}

func TestSync(t *testing.T) {
	list := []api.Cut{{Epoch: 1}, {Epoch: 3, At: 1}}
	s := with(3, list...)
	s.put(kept, 2, 3, 20)
	s.put(buffered, 1, 1, 10)
	s.put(buffered, 4, 3, 40)
	want := api.Segment{
		Up: true, Epoch: 3, Scl: 2, Cuts: list,
		Kept: []api.Record{{Lsn: 1, Epoch: 1, Value: 10}, {Lsn: 2, Epoch: 3, Value: 20}, {Lsn: 4, Epoch: 3, Value: 40}},
	}
	// with an empty buffer the writer is told, too
	for range 2 {
		sync(t, &s, 5, api.Message{Kind: api.MStatus, From: 5, To: 3, Epoch: 3, Scl: 2})
		state(t, &s, want)
	}
}

func TestSyncTellsNobody(t *testing.T) {
	s := New()
	sync(t, &s, 0, api.Message{})
	state(t, &s, api.Segment{Up: true})
	// fenced by the first writer
	s = with(1)
	sync(t, &s, 0, api.Message{})
	// fenced by a newer writer: what is in the buffer is kept all the same
	s = with(2, api.Cut{Epoch: 1})
	s.put(buffered, 1, 1, 10)
	sync(t, &s, 0, api.Message{})
	state(t, &s, api.Segment{
		Up: true, Epoch: 2, Scl: 1, Cuts: []api.Cut{{Epoch: 1}},
		Kept: []api.Record{{Lsn: 1, Epoch: 1, Value: 10}},
	})
}

func need(from, to, lsn int) api.Message {
	return api.Message{Kind: api.MNeed, From: from, To: to, Lsn: lsn}
}

func fill(from, to, lsn, epoch, value int) api.Message {
	return api.Message{Kind: api.MFill, From: from, To: to, Lsn: lsn, Epoch: epoch, Value: value}
}

func TestNeed(t *testing.T) {
	s := New()
	asks := func(lsn int) {
		t.Helper()
		if m := s.Need(3, 5); !same(m, need(3, 5, lsn)) {
			t.Fatalf("P11: it asks by %+v, want record %d", m, lsn)
		}
	}
	asks(1)
	s.put(buffered, 1, 1, 10)
	asks(1) // it may be lost yet
	s.put(kept, 2, 1, 20)
	asks(1)
	s.put(kept, 1, 1, 10)
	s.put(kept, 4, 1, 40)
	asks(3)
	for lsn := range api.MaxLog - 1 {
		s.put(kept, lsn+1, 1, 0)
	}
	asks(api.MaxLog)
	s.put(kept, api.MaxLog, 1, 0)
	asks(api.MaxLog + 1)
}

func TestGive(t *testing.T) {
	// its epoch and its cuts do not matter
	for _, s := range []Segment{New(), with(5), with(2, api.Cut{Epoch: 1}, api.Cut{Epoch: 2, At: 2})} {
		s.put(kept, 1, 1, -1<<63)
		s.put(buffered, 2, 1, 20)
		s.put(kept, 4, 2, 40)
		s.put(kept, api.MaxLog, 2, 1<<63-1)
		before := s.State()
		arrive(t, &s, need(5, 3, 1), fill(3, 5, 1, 1, -1<<63))
		arrive(t, &s, need(0, 3, 4), fill(3, 0, 4, 2, 40)) // behind a hole
		arrive(t, &s, need(5, 3, api.MaxLog), fill(3, 5, api.MaxLog, 2, 1<<63-1))
		arrive(t, &s, need(5, 3, 2), api.Message{}) // in the buffer alone
		for _, lsn := range []int{-1 << 63, -1, 0, 3, 5, 39, 41, 1<<63 - 1} {
			arrive(t, &s, need(5, 3, lsn), api.Message{})
		}
		state(t, &s, before)
	}
}

func TestFill(t *testing.T) {
	list := []api.Cut{{Epoch: 1}, {Epoch: 3, At: 4}, {Epoch: 4, At: 6}}
	s := with(5, list...) // a newer writer has fenced, and not yet cut
	s.put(kept, 1, 1, 10)
	s.put(buffered, 2, 1, 20)
	before := s.State()
	for _, m := range []api.Message{
		fill(0, 3, 1, 1, 7), fill(0, 3, 2, 1, 7), // it has these
		fill(0, 3, 1, 3, 7), fill(0, 3, 2, 4, 7), // by another writer, too
		fill(0, 3, 5, 1, 7), fill(0, 3, 7, 1, 7), // cut off by writer 3
		fill(0, 3, 7, 3, 7), fill(0, 3, 40, 3, 7), // cut off by writer 4
		fill(0, 3, 3, 2, 7), fill(0, 3, 3, 5, 7), fill(0, 3, 3, 0, 7), // of no writer of the list
		fill(0, 3, 0, 1, 7), fill(0, 3, -1, 1, 7), fill(0, 3, -1<<63, 1, 7), fill(0, 3, 41, 4, 7), fill(0, 3, 1<<63-1, 4, 7),
	} {
		arrive(t, &s, m, api.Message{})
		state(t, &s, before)
	}
	for _, m := range []api.Message{
		fill(0, 3, 40, 4, -1<<63), fill(1, 3, 4, 1, 1<<63-1), fill(2, 3, 6, 3, 60), fill(2, 3, 6, 3, 61), fill(2, 3, 7, 4, 70),
	} {
		arrive(t, &s, m, api.Message{})
	}
	before.Buffer = []api.Record{{Lsn: 2, Epoch: 1, Value: 20}, {Lsn: 4, Epoch: 1, Value: 1<<63 - 1}, {Lsn: 6, Epoch: 3, Value: 60}, {Lsn: 7, Epoch: 4, Value: 70}, {Lsn: 40, Epoch: 4, Value: -1 << 63}}
	state(t, &s, before)
	// without cuts no record is good
	s = with(1)
	arrive(t, &s, fill(0, 3, 1, 1, 7), api.Message{})
	arrive(t, &s, fill(0, 3, 1, 0, 7), api.Message{})
	state(t, &s, api.Segment{Up: true, Epoch: 1})
}

func TestCrash(t *testing.T) {
	s := with(3, api.Cut{Epoch: 1}, api.Cut{Epoch: 2, At: 2})
	s.put(buffered, 1, 1, 10)
	s.put(kept, 2, 1, 20)
	s.put(kept, 3, 2, 30)
	s.put(buffered, 40, 2, 400)
	want := api.Segment{
		Epoch: 3, Cuts: []api.Cut{{Epoch: 1}, {Epoch: 2, At: 2}},
		Kept: []api.Record{{Lsn: 2, Epoch: 1, Value: 20}, {Lsn: 3, Epoch: 2, Value: 30}},
	}
	s.Crash()
	state(t, &s, want)
	s.Restart()
	want.Up = true
	state(t, &s, want)
	if s.Down() {
		t.Errorf("P12: it is down behind Restart")
	}
	// what was lost may come again, by any writer
	arrive(t, &s, fill(0, 3, 1, 1, 11), api.Message{})
	want.Buffer = []api.Record{{Lsn: 1, Epoch: 1, Value: 11}}
	state(t, &s, want)
}

func TestNewer(t *testing.T) {
	s := with(3, api.Cut{Epoch: 5})
	for w, want := range []bool{true, true, true, false, false, false} {
		if s.Newer(w) != want {
			t.Errorf("P13: epoch 3 is above %d: %v", w, !want)
		}
	}
}

func TestValue(t *testing.T) {
	s := with(1, api.Cut{Epoch: 1})
	s.put(kept, 1, 1, -7)
	s.put(buffered, 2, 1, 20)
	s.put(kept, api.MaxLog, 1, 400)
	for lsn, want := range map[int]int{1: -7, api.MaxLog: 400, 2: 0, 3: 0, 0: 0, -1: 0, 41: 0, -1 << 63: 0, 1<<63 - 1: 0} {
		if got := s.Value(lsn); got != want {
			t.Errorf("P13: the value of record %d is %d, want %d", lsn, got, want)
		}
	}
}
