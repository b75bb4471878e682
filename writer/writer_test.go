package writer

import (
	"reflect"
	"testing"

	"sixfold/api"
)

func fenced(from, to int, marks []int, list ...api.Cut) api.Message {
	return api.Message{Kind: api.MFenced, From: from, To: to, Epoch: to, Cuts: list, Marks: marks}
}

func status(from, to, scl int) api.Message {
	return api.Message{Kind: api.MStatus, From: from, To: to, Epoch: to, Scl: scl}
}

// hear lets messages arrive that nothing is sent about.
func hear(t *testing.T, w *Writer, l ...api.Message) {
	t.Helper()
	for _, m := range l {
		if sent := w.Arrive(m); len(sent) != 0 {
			t.Fatalf("%+v is answered by %+v", m, sent)
		}
	}
}

func state(t *testing.T, w *Writer, phase, base, next, durable int) {
	t.Helper()
	want := api.Writer{Phase: phase, Base: base, Next: next, Durable: durable}
	if got := w.State(); got != want {
		t.Fatalf("P5: the writer is at %+v, want %+v", got, want)
	}
}

func messages(t *testing.T, got []api.Message, want ...api.Message) {
	t.Helper()
	if len(got) != len(want) {
		t.Fatalf("sent: %+v, want %+v", got, want)
	}
	for i := range want {
		if !reflect.DeepEqual(got[i], want[i]) {
			t.Fatalf("sent as number %d: %+v, want %+v", i, got[i], want[i])
		}
	}
}

func appends(t *testing.T, w *Writer, value, window, lsn int, want api.Errno) {
	t.Helper()
	if n, e := w.Append(value, window); n != lsn || e != want {
		t.Fatalf("P9: Append(%d) = %d, %d, want %d, %d", value, n, e, lsn, want)
	}
}

// toEach is the same message to several segments.
func toEach(m api.Message, segments ...int) []api.Message {
	var list []api.Message
	for _, s := range segments {
		m.To = s
		list = append(list, m)
	}
	return list
}

// cutting is a writer that has decided by four equal answers.
func cutting(number int, marks []int, list ...api.Cut) Writer {
	w := New(number)
	for s := range 4 {
		w.Arrive(fenced(s, number, marks, list...))
	}
	return w
}

// opened is a writer with base 2 that is open by the first four segments, and has appended three records.
func opened(t *testing.T) Writer {
	t.Helper()
	w := cutting(2, []int{1, 1}, api.Cut{Epoch: 1})
	for s := range 4 {
		hear(t, &w, status(s, 2, 2))
	}
	for i, value := range []int{30, 40, 50} {
		appends(t, &w, value, 8, i+3, api.OK)
	}
	state(t, &w, api.Open, 2, 5, 2)
	return w
}

func TestDueWhileFencing(t *testing.T) {
	w := New(3)
	fence := api.Message{Kind: api.MFence, From: 3, Epoch: 3}
	messages(t, w.Due(), toEach(fence, 0, 1, 2, 3, 4, 5)...)
	hear(t, &w, fenced(1, 3, nil), fenced(5, 3, nil))
	messages(t, w.Due(), toEach(fence, 0, 2, 3, 4)...)
	hear(t, &w, fenced(0, 3, nil))
	messages(t, w.Due(), toEach(fence, 2, 3, 4)...)
	state(t, &w, api.Fencing, 0, 0, 0)
}

func TestDecide(t *testing.T) {
	one, three := api.Cut{Epoch: 1}, api.Cut{Epoch: 3, At: 2}
	for name, c := range map[string]struct {
		four []api.Message
		base int
		list []api.Cut
	}{
		"nothing": {
			[]api.Message{fenced(0, 4, nil), fenced(1, 4, nil), fenced(2, 4, nil), fenced(3, 4, nil)},
			0, []api.Cut{{Epoch: 4}},
		},
		"the greatest top is heard first": {
			[]api.Message{fenced(5, 4, []int{1, 1, 3}, one, three), fenced(1, 4, []int{1}, one), fenced(2, 4, nil), fenced(0, 4, nil, one)},
			3, []api.Cut{one, three, {Epoch: 4, At: 3}},
		},
		"the greatest top is heard last": {
			[]api.Message{fenced(0, 4, []int{1, 1, 1, 1}, one), fenced(1, 4, []int{1}, one), fenced(2, 4, nil, one), fenced(3, 4, nil, one, three)},
			2, []api.Cut{one, three, {Epoch: 4, At: 2}},
		},
		"the longest list of cuts does not count": {
			[]api.Message{fenced(0, 4, []int{1, 1}, one, api.Cut{Epoch: 2}), fenced(1, 4, nil, one), fenced(2, 4, nil, three), fenced(3, 4, nil, one)},
			0, []api.Cut{three, {Epoch: 4, At: 0}},
		},
		"a list of marks ends at the first that is not good": {
			[]api.Message{fenced(0, 4, []int{1, 2, 3, 3}, one, three), fenced(1, 4, []int{1, 1, 1, 3}, one, three), fenced(2, 4, nil, one), fenced(3, 4, nil, one)},
			2, []api.Cut{one, three, {Epoch: 4, At: 2}},
		},
		"the longest reach is the last one": {
			[]api.Message{fenced(0, 4, nil, one), fenced(1, 4, []int{1}, one), fenced(2, 4, []int{1, 1}, one), fenced(3, 4, []int{1, 1, 1}, one)},
			3, []api.Cut{one, {Epoch: 4, At: 3}},
		},
	} {
		t.Run(name, func(t *testing.T) {
			w := New(4)
			hear(t, &w, c.four[:3]...)
			state(t, &w, api.Fencing, 0, 0, 0)
			sent := w.Arrive(c.four[3])
			messages(t, sent, toEach(api.Message{Kind: api.MCut, From: 4, Epoch: 4, Cuts: c.list}, 0, 1, 2, 3, 4, 5)...)
			state(t, &w, api.Cutting, c.base, c.base, 0)
			// a fifth answer changes nothing
			hear(t, &w, fenced(4, 4, []int{1, 1, 3, 3, 3, 3}, one, three))
			state(t, &w, api.Cutting, c.base, c.base, 0)
		})
	}
}

func TestFencedTwice(t *testing.T) {
	w := New(2)
	for range 5 {
		hear(t, &w, fenced(3, 2, nil))
	}
	// what the second answer of a segment tells is not noted
	hear(t, &w, fenced(3, 2, []int{1}, api.Cut{Epoch: 1}), fenced(4, 2, nil), fenced(5, 2, nil))
	state(t, &w, api.Fencing, 0, 0, 0)
	messages(t, w.Arrive(fenced(0, 2, nil)), toEach(api.Message{Kind: api.MCut, From: 2, Epoch: 2, Cuts: []api.Cut{{Epoch: 2}}}, 0, 1, 2, 3, 4, 5)...)
}

func TestNotesAreItsOwn(t *testing.T) {
	w := New(2)
	m := fenced(0, 2, []int{1, 1}, api.Cut{Epoch: 1})
	hear(t, &w, m)
	m.Marks[0] = 5
	m.Cuts[0].Epoch = 5
	hear(t, &w, fenced(1, 2, nil), fenced(2, 2, nil))
	w.Arrive(fenced(3, 2, nil))
	state(t, &w, api.Cutting, 2, 2, 0)
}

func TestStatusWhileFencing(t *testing.T) {
	w := New(2)
	for s := range api.Segments {
		hear(t, &w, status(s, 2, 7))
	}
	state(t, &w, api.Fencing, 0, 0, 0)
	for s := range 4 {
		w.Arrive(fenced(s, 2, nil))
	}
	if n := len(w.Due()); n != 6 {
		t.Errorf("P7: MStatus was noted while Fencing: %d messages are due", n)
	}
	hear(t, &w, status(0, 2, 0))
	state(t, &w, api.Cutting, 0, 0, 0)
}

func TestOpens(t *testing.T) {
	// with Base 0 a segment that was not heard of does not count
	w := cutting(1, nil)
	hear(t, &w, status(0, 1, 0), status(0, 1, 0), status(2, 1, 0), status(5, 1, 0), status(5, 1, 0))
	state(t, &w, api.Cutting, 0, 0, 0)
	hear(t, &w, status(1, 1, 0))
	state(t, &w, api.Open, 0, 0, 0)
	// with Base 2 one that has less does not count either
	w = cutting(2, []int{1, 1}, api.Cut{Epoch: 1})
	state(t, &w, api.Cutting, 2, 2, 0)
	hear(t, &w, status(0, 2, 2), status(1, 2, 1), status(2, 2, 2), status(3, 2, 0), status(4, 2, 1), status(5, 2, 2))
	state(t, &w, api.Cutting, 2, 2, 0)
	hear(t, &w, status(0, 2, 1)) // it has noted 2
	hear(t, &w, status(4, 2, 2))
	state(t, &w, api.Open, 2, 2, 2)
}

func TestDurable(t *testing.T) {
	w := opened(t)
	hear(t, &w, status(4, 2, 5), status(5, 2, 4))
	state(t, &w, api.Open, 2, 5, 2)
	hear(t, &w, status(0, 2, 3))
	state(t, &w, api.Open, 2, 5, 2)
	hear(t, &w, status(1, 2, 5))
	state(t, &w, api.Open, 2, 5, 3)
	hear(t, &w, status(1, 2, 2), status(0, 2, 0)) // below what is noted
	state(t, &w, api.Open, 2, 5, 3)
	hear(t, &w, status(0, 2, 5))
	state(t, &w, api.Open, 2, 5, 4)
	hear(t, &w, status(5, 2, 5))
	state(t, &w, api.Open, 2, 5, 5)
}

func TestDueBehindDeciding(t *testing.T) {
	w := cutting(2, []int{1, 1}, api.Cut{Epoch: 1})
	cut := api.Message{Kind: api.MCut, From: 2, Epoch: 2, Cuts: []api.Cut{{Epoch: 1}, {Epoch: 2, At: 2}}}
	messages(t, w.Due(), toEach(cut, 0, 1, 2, 3, 4, 5)...)
	hear(t, &w, status(3, 2, 0), status(0, 2, 1), status(5, 2, 2))
	messages(t, w.Due(), toEach(cut, 1, 2, 4)...) // no record is appended by it
	state(t, &w, api.Cutting, 2, 2, 0)
}

func TestDueWrites(t *testing.T) {
	w := opened(t)
	hear(t, &w, status(0, 2, 5), status(1, 2, 4), status(5, 2, 1))
	cut := api.Message{Kind: api.MCut, From: 2, To: 4, Epoch: 2, Cuts: []api.Cut{{Epoch: 1}, {Epoch: 2, At: 2}}}
	write := api.Message{Kind: api.MWrite, From: 2, Epoch: 2}
	last, first := write, write
	last.Lsn, last.Value = 5, 50
	first.Lsn, first.Value = 3, 30
	var want []api.Message
	want = append(want, toEach(last, 1)...)
	want = append(want, toEach(first, 2, 3)...)
	want = append(want, cut)
	// segment 0 has all; segment 5 needs record 2, which an earlier writer appended
	messages(t, w.Due(), want...)
	state(t, &w, api.Open, 2, 5, 2)
}

func TestRefused(t *testing.T) {
	refused := api.Message{Kind: api.MRefused, From: 0, To: 2, Epoch: 3}
	late := []api.Message{status(4, 2, 5), status(5, 2, 5), status(0, 2, 5), status(1, 2, 5), fenced(4, 2, nil), fenced(5, 2, nil), fenced(0, 2, nil), fenced(1, 2, nil), refused}
	for _, c := range []struct {
		w                   Writer
		base, next, durable int
	}{
		{New(2), 0, 0, 0},
		{cutting(2, []int{1, 1}, api.Cut{Epoch: 1}), 2, 2, 0},
		{opened(t), 2, 5, 2},
	} {
		w := c.w
		if w.Fenced() {
			t.Errorf("P6: a writer is fenced too early: %+v", w)
		}
		hear(t, &w, refused)
		for _, m := range late {
			state(t, &w, api.Fenced, c.base, c.next, c.durable)
			hear(t, &w, m)
		}
		state(t, &w, api.Fenced, c.base, c.next, c.durable)
		if !w.Fenced() || len(w.Due()) != 0 {
			t.Errorf("P6: a writer that was refused goes on: %+v", w)
		}
	}
}

func TestNoSegment(t *testing.T) {
	w := cutting(1, nil)
	for _, s := range []int{-1, 6, 1<<63 - 1, -1 << 63} {
		hear(t, &w, status(s, 1, 1), fenced(s, 1, nil))
	}
	state(t, &w, api.Cutting, 0, 0, 0)
}

func TestAppend(t *testing.T) {
	w := opened(t)
	write := api.Message{Kind: api.MWrite, From: 2, Epoch: 2}
	write.Lsn, write.Value = 3, 30
	messages(t, w.Writes(3), toEach(write, 0, 1, 2, 3, 4, 5)...)
	write.Lsn, write.Value = 5, 50
	messages(t, w.Writes(5), toEach(write, 0, 1, 2, 3, 4, 5)...)
	// those that it has not appended
	for _, lsn := range []int{-1 << 63, -1, 0, 1, 2, 6, 41, 1<<63 - 1} {
		messages(t, w.Writes(lsn))
	}
}

func TestAppendNotOpen(t *testing.T) {
	w := New(1)
	appends(t, &w, 7, 1, 0, api.ErrClosed)
	state(t, &w, api.Fencing, 0, 0, 0)
	w = cutting(1, nil)
	appends(t, &w, 7, 1, 0, api.ErrClosed)
	state(t, &w, api.Cutting, 0, 0, 0)
	w = opened(t)
	hear(t, &w, api.Message{Kind: api.MRefused, From: 0, To: 2, Epoch: 3})
	appends(t, &w, 7, 8, 0, api.ErrFenced)
	state(t, &w, api.Fenced, 2, 5, 2)
	messages(t, w.Writes(5))
}

func TestAppendWindow(t *testing.T) {
	for window := 1; window <= api.MaxWindow; window++ {
		w := cutting(2, []int{1, 1}, api.Cut{Epoch: 1})
		for s := range 4 {
			hear(t, &w, status(s, 2, 2))
		}
		for i := range window {
			appends(t, &w, i, window, i+3, api.OK)
		}
		for range 2 {
			appends(t, &w, 9, window, 0, api.ErrWindow)
			state(t, &w, api.Open, 2, window+2, 2)
		}
		hear(t, &w, status(0, 2, 3), status(1, 2, 3), status(2, 2, 3))
		appends(t, &w, 9, window, 0, api.ErrWindow)
		hear(t, &w, status(5, 2, 3)) // the fourth
		state(t, &w, api.Open, 2, window+2, 3)
		appends(t, &w, 9, window, window+3, api.OK)
		appends(t, &w, 9, window, 0, api.ErrWindow)
	}
}

func TestAppendFull(t *testing.T) {
	// one place is left behind the base
	marks := make([]int, api.MaxLog-1)
	for i := range marks {
		marks[i] = 1
	}
	w := cutting(2, marks, api.Cut{Epoch: 1})
	for s := range 4 {
		hear(t, &w, status(s, 2, api.MaxLog-1))
	}
	state(t, &w, api.Open, 39, 39, 39)
	appends(t, &w, 7, 8, api.MaxLog, api.OK)
	appends(t, &w, 8, 8, 0, api.ErrFull)
	appends(t, &w, 8, 1, 0, api.ErrFull) // the window is full, too
	for s := range 4 {
		hear(t, &w, status(s, 2, api.MaxLog))
	}
	state(t, &w, api.Open, 39, 40, 40)
	appends(t, &w, 8, 8, 0, api.ErrFull)
	state(t, &w, api.Open, 39, 40, 40)
	hear(t, &w, status(4, 2, 0), status(5, 2, api.MaxLog-1))
	messages(t, w.Due(), api.Message{Kind: api.MWrite, From: 2, To: 5, Epoch: 2, Lsn: api.MaxLog, Value: 7})
}

func readable(t *testing.T, w *Writer, want api.Errno, numbers ...int) {
	t.Helper()
	for _, lsn := range numbers {
		if e := w.Readable(lsn); e != want {
			t.Fatalf("P13: of record %d: %d, want %d", lsn, e, want)
		}
	}
}

func TestReadable(t *testing.T) {
	outside := []int{-1 << 63, -1, 0, 41, 1<<63 - 1}
	w := New(2)
	readable(t, &w, api.ErrClosed, 1)
	readable(t, &w, api.ErrClosed, outside...)
	w = cutting(2, []int{1, 1}, api.Cut{Epoch: 1})
	readable(t, &w, api.ErrClosed, 1, 2, 3)
	readable(t, &w, api.ErrClosed, outside...)
	w = opened(t)
	readable(t, &w, api.OK, 1, 2)
	readable(t, &w, api.ErrNone, 3, 4, 5, 6)
	readable(t, &w, api.ErrNone, outside...)
	for _, s := range []int{1, 2, 4, 5} {
		readable(t, &w, api.ErrNone, 3)
		hear(t, &w, status(s, 2, 4))
	}
	readable(t, &w, api.OK, 1, 2, 3, 4)
	readable(t, &w, api.ErrNone, 5)
	state(t, &w, api.Open, 2, 5, 4)
	w.Stop()
	state(t, &w, api.Fenced, 2, 5, 4)
	readable(t, &w, api.ErrFenced, 1, 4, 5)
	readable(t, &w, api.ErrFenced, outside...)
}

func TestReaches(t *testing.T) {
	w := opened(t)
	hear(t, &w, status(1, 2, 4), status(5, 2, 1))
	for s, scl := range []int{2, 4, 2, 2, 0, 1} {
		for lsn := 1; lsn <= 6; lsn++ {
			if got := w.Reaches(s, lsn); got != (lsn <= scl) {
				t.Errorf("P13: segment %d goes to %d, and reaches %d: %v", s, scl, lsn, got)
			}
		}
	}
	for _, s := range []int{-1, 6, 1<<63 - 1, -1 << 63} {
		if w.Reaches(s, 1) {
			t.Errorf("P13: segment %d reaches record 1", s)
		}
	}
}
