package sixfold

import (
	"math/rand"
	"reflect"
	"testing"

	"sixfold/api"
)

// history is what the test knows of a volume that is drawn.
type history struct {
	appended [api.MaxWriters + 1][api.MaxLog + 1]*int // by writers and numbers
	opened   [api.MaxWriters + 1]bool
	logs     [api.MaxWriters + 1][]api.Record // 1 to Base, of those that have opened
	durable  [api.MaxLog + 1]*api.Record      // what was durable once, by numbers
	with     [api.MaxLog + 1]int              // the least writer with which it was
	calm     bool                             // little is lost, and few segments crash
	last     picture                          // of the volume, as it was looked at before
	read     int                              // how often Read gave a value
	fenced   int                              // how often Read fenced a writer off
	lost     int                              // how many records crashes took out of buffers
	mixed    int                              // how many logs of writers that open have records of several writers
	further  int                              // how many of them go further than what was durable once
}

// inLog is the record of this number in the log of a writer that has opened.
func (h *history) inLog(w, lsn int) (api.Record, bool) {
	if lsn <= len(h.logs[w]) {
		return h.logs[w][lsn-1], true
	}
	value := h.appended[w][lsn]
	if value == nil {
		return api.Record{}, false
	}
	return api.Record{Lsn: lsn, Epoch: w, Value: *value}, true
}

// step does one thing that is drawn.
func (h *history) step(t *testing.T, r *rand.Rand, v *Volume) {
	t.Helper()
	k := r.Intn(v.Flight() + 1)
	w := len(v.writers) - r.Intn(6)/4*r.Intn(3) // mostly the newest
	c := r.Intn(32)
	if h.calm && (c == 0 || c == 12) && r.Intn(4) > 0 {
		c = 16
	}
	switch c {
	case 0:
		v.Drop(k)
	case 1:
		v.Copy(k)
	case 2:
		v.Resend(w)
	case 3:
		if r.Intn(4) == 0 {
			v.Open()
		}
	case 4, 5, 6:
		value := r.Int()
		if lsn, e := v.Append(w, value); e == api.OK {
			h.appended[w][lsn] = &value
		}
	case 7, 8, 9:
		v.Sync(r.Intn(api.Segments))
	case 10, 11:
		v.Gossip(r.Intn(api.Segments), r.Intn(api.Segments))
	case 12:
		h.crash(v, r.Intn(api.Segments))
	case 13, 14:
		v.Restart(r.Intn(api.Segments))
	case 15:
		h.reads(t, v, w, r.Intn(10))
	case 16:
		if h.calm || r.Intn(3) == 0 {
			h.arriveAnyhow(t, r, v)
		}
	default:
		v.Deliver(k)
	}
}

func (h *history) crash(v *Volume, s int) {
	g, _ := v.Segment(s)
	if e := v.Crash(s); e == api.OK {
		h.lost += len(g.Buffer)
	}
}

// reads fails if Read gives another value than that of the record that was durable once.
func (h *history) reads(t *testing.T, v *Volume, w, lsn int) {
	t.Helper()
	before, _ := v.Writer(w)
	value, e := v.Read(w, lsn)
	after, _ := v.Writer(w)
	if e != api.OK {
		if value != 0 {
			t.Fatalf("P1: Read(%d, %d) = %d, %d", w, lsn, value, e)
		}
		if before.Phase == api.Open && after.Phase == api.Fenced {
			h.fenced++
		}
		return
	}
	h.read++
	if k := h.durable[lsn]; k == nil || k.Value != value {
		t.Fatalf("P14: Read(%d, %d) = %d, durable once is %+v", w, lsn, value, k)
	}
}

// opens tells whether a writer was opened by what lies between two pictures.
func opens(a, b picture, w int) bool {
	return w <= len(a.writers) && a.writers[w-1].Phase == api.Cutting && b.writers[w-1].Phase == api.Open
}

// note keeps the logs of the writers that open.
func (h *history) note(t *testing.T, a, b picture) {
	t.Helper()
	for i, x := range b.writers {
		w := i + 1
		if !opens(a, b, w) {
			continue
		}
		h.opened[w] = true
		for lsn := 1; lsn <= x.Base; lsn++ {
			k, found := onFour(b, lsn)
			if !found {
				t.Fatalf("P14: writer %d opens with base %d; record %d is not on four segments", w, x.Base, lsn)
			}
			h.logs[w] = append(h.logs[w], k)
		}
		if x.Base > 0 && h.durable[x.Base] == nil {
			h.further++
		}
	}
}

// onFour is the record of this number that four segments have kept, if there is one.
func onFour(p picture, lsn int) (api.Record, bool) {
	count := map[api.Record]int{}
	for _, g := range p.segments {
		for _, k := range g.Kept {
			if k.Lsn != lsn {
				continue
			}
			count[k]++
			if count[k] == api.Quorum {
				return k, true
			}
		}
	}
	return api.Record{}, false
}

// durableOnce is the first of P14's sentences, but for Read.
func (h *history) durableOnce(t *testing.T, b picture) {
	t.Helper()
	for i, x := range b.writers {
		for lsn := 1; lsn <= x.Durable; lsn++ {
			k, found := h.inLog(i+1, lsn)
			if !found {
				t.Fatalf("P14: writer %d is at %+v, and has no record %d", i+1, x, lsn)
			}
			if h.durable[lsn] == nil {
				h.durable[lsn] = &k
				h.with[lsn] = i + 1
			}
			if old := *h.durable[lsn]; old != k {
				t.Fatalf("P14: %+v was durable; with writer %d it is %+v", old, i+1, k)
			}
			h.with[lsn] = min(h.with[lsn], i+1)
		}
	}
	for lsn, old := range h.durable {
		if old == nil {
			continue
		}
		if k, found := onFour(b, lsn); !found || k != *old {
			t.Fatalf("P14: %+v was durable; four segments have %+v, %v", *old, k, found)
		}
		// a writer of a lesser number may open still, by what was sent to it long ago: it is not a later one
		for w := h.with[lsn] + 1; w <= len(b.writers); w++ {
			if k, found := h.inLog(w, lsn); h.opened[w] && (!found || k != *old) {
				t.Fatalf("P14: %+v was durable with writer %d; writer %d has %+v, %v", *old, h.with[lsn], w, k, found)
			}
		}
	}
}

// logsOfEarlier is the second: the log is that of the writer of its last record, as far as it goes.
func (h *history) logsOfEarlier(t *testing.T, a, b picture) {
	t.Helper()
	for w := 1; w <= len(b.writers); w++ {
		if !opens(a, b, w) || len(h.logs[w]) == 0 {
			continue
		}
		log := h.logs[w]
		e := log[len(log)-1].Epoch
		if e < 1 || e >= w || !h.opened[e] {
			t.Fatalf("P14: writer %d opens with the log %+v", w, log)
		}
		for i, k := range log {
			earlier, found := h.inLog(e, i+1)
			if !found || earlier != k {
				t.Fatalf("P14: writer %d opens with the log %+v; writer %d had %+v", w, log, e, earlier)
			}
		}
		if log[0].Epoch != e {
			h.mixed++
		}
	}
}

// oldStays is the third.
func (h *history) oldStays(t *testing.T, b picture) {
	t.Helper()
	for i, x := range b.writers {
		for n := i + 1; n < len(b.writers); n++ {
			if h.opened[n+1] && x.Durable > b.writers[n].Base {
				t.Fatalf("P14: writer %d is at %+v, though writer %d, %+v, has opened", i+1, x, n+1, b.writers[n])
			}
		}
	}
}

// bounded fails if a writer or a segment has what it can't have.
func (h *history) bounded(t *testing.T, p picture, window int) {
	t.Helper()
	for i, w := range p.writers {
		if w.Base > w.Next || w.Next > api.MaxLog || w.Durable > w.Next {
			t.Fatalf("writer %d is at %+v", i+1, w)
		}
		if w.Phase == api.Open && (w.Durable < w.Base || w.Next > w.Durable+window) {
			t.Fatalf("P9: writer %d is at %+v, with a window of %d", i+1, w, window)
		}
	}
	for s, g := range p.segments {
		had := map[int]bool{}
		for _, l := range [][]api.Record{g.Kept, g.Buffer} {
			for _, k := range l {
				value := h.appended[k.Epoch][k.Lsn]
				if value == nil || *value != k.Value || had[k.Lsn] {
					t.Fatalf("P9: segment %d has record %+v, which nobody appended, or has it twice", s, k)
				}
				had[k.Lsn] = true
			}
		}
	}
}

// steady fails if what may only rise has fallen, or a segment that is down has changed.
func steady(t *testing.T, a, b picture) {
	t.Helper()
	for s := range a.segments {
		x, y := a.segments[s], b.segments[s]
		if y.Epoch < x.Epoch {
			t.Fatalf("segment %d went from %+v to %+v", s, x, y)
		}
		for i := 1; i < len(y.Cuts); i++ {
			if y.Cuts[i].Epoch <= y.Cuts[i-1].Epoch {
				t.Fatalf("the epochs of segment %d do not rise: %v", s, y.Cuts)
			}
		}
		up := y.Up
		y.Up = false
		if !x.Up && !reflect.DeepEqual(x, y) {
			t.Fatalf("P4: segment %d, which is down, went from %+v to %+v", s, x, y)
		}
		if !up && len(y.Buffer) > 0 {
			t.Fatalf("P12: segment %d is down, and has %+v", s, y)
		}
	}
	for w := range a.writers {
		x, y := a.writers[w], b.writers[w]
		if y.Phase < x.Phase || y.Base < x.Base || y.Next < x.Next || y.Durable < x.Durable {
			t.Fatalf("writer %d went from %+v to %+v", w+1, x, y)
		}
		if x.Phase == api.Fenced && x != y {
			t.Fatalf("writer %d went from %+v to %+v", w+1, x, y)
		}
	}
}

// check looks at the volume, and fails if it has become what it may not be.
func (h *history) check(t *testing.T, v *Volume) {
	t.Helper()
	now := look(v)
	steady(t, h.last, now)
	h.bounded(t, now, v.window)
	h.note(t, h.last, now)
	h.durableOnce(t, now)
	h.logsOfEarlier(t, h.last, now)
	h.oldStays(t, now)
	h.last = now
}

// checkIfMoved spares the time for looking where no writer has moved.
func (h *history) checkIfMoved(t *testing.T, v *Volume) {
	t.Helper()
	for i, old := range h.last.writers {
		if x, _ := v.Writer(i + 1); x != old {
			h.check(t, v)
			return
		}
	}
}

// arriveAnyhow lets all arrive in an order that is drawn, some of it twice.
func (h *history) arriveAnyhow(t *testing.T, r *rand.Rand, v *Volume) {
	t.Helper()
	for n := 0; v.Flight() > 0; n++ {
		if n > 5000 {
			t.Fatalf("P4: there is no end of messages")
		}
		k := r.Intn(v.Flight())
		if n < 100 && r.Intn(5) == 0 {
			v.Copy(k)
		}
		deliver(t, v, k)
		h.checkIfMoved(t, v)
	}
}

// round is what P14's last sentence asks for, once.
func (h *history) round(t *testing.T, r *rand.Rand, v *Volume, w int) {
	t.Helper()
	resend(t, v, w, api.OK)
	h.arriveAnyhow(t, r, v)
	for _, a := range r.Perm(api.Segments) {
		for _, b := range r.Perm(api.Segments) {
			if a != b {
				gossip(t, v, a, b)
				h.arriveAnyhow(t, r, v)
			}
		}
	}
	for _, s := range r.Perm(api.Segments) {
		sync(t, v, s)
		h.arriveAnyhow(t, r, v)
	}
}

// settle fails if the newest writer does not open, or what it appended does not become durable, by rounds.
func (h *history) settle(t *testing.T, r *rand.Rand, v *Volume) {
	t.Helper()
	w := len(v.writers)
	for range 150 {
		x, _ := v.Writer(w)
		if x.Phase == api.Open && x.Durable == x.Next {
			return
		}
		h.round(t, r, v, w)
		h.check(t, v)
	}
	x, _ := v.Writer(w)
	t.Fatalf("P14: in the end the newest writer, %d, is at %+v", w, x)
}

// readsAll fails if the newest writer does not read the whole of what was durable once, or another one reads anything else.
func (h *history) readsAll(t *testing.T, v *Volume) {
	t.Helper()
	for lsn, k := range h.durable {
		if k != nil {
			reads(t, v, len(v.writers), lsn, k.Value, api.OK)
		}
		for w := 1; w <= len(v.writers); w++ {
			h.reads(t, v, w, lsn)
		}
	}
}

func TestP14Drawn(t *testing.T) {
	r := rand.New(rand.NewSource(7))
	all := history{}
	opened, durable := 0, 0
	for range 250 {
		room, window := 1+r.Intn(60), 1+r.Intn(api.MaxWindow)
		if r.Intn(10) == 0 {
			room = 1
		}
		v := freshWith(t, window, room)
		open(t, v, 1)
		h := &history{calm: r.Intn(2) == 0, last: look(v)}
		for range 600 {
			h.step(t, r, v)
			h.check(t, v)
			if n := len(h.last.messages); n > room || n != v.Flight() {
				t.Fatalf("P4: %d messages in flight, room for %d", n, room)
			}
		}
		for s := range api.Segments {
			v.Restart(s)
		}
		h.check(t, v)
		h.settle(t, r, v)
		w := len(v.writers)
		for value := range window {
			if lsn, e := v.Append(w, value); e == api.OK {
				h.appended[w][lsn] = &value
			}
		}
		h.settle(t, r, v)
		h.readsAll(t, v)
		x, _ := v.Writer(w)
		durable += x.Durable
		for _, o := range h.opened {
			if o {
				opened++
			}
		}
		all.read += h.read
		all.fenced += h.fenced
		all.lost += h.lost
		all.mixed += h.mixed
		all.further += h.further
	}
	few := opened < 500 || durable < 1500 || all.read < 1500 || all.fenced < 50 || all.lost < 500 || all.mixed < 80 || all.further < 150
	if few {
		t.Errorf("too little is drawn: %d writers open, %d records, %d read, %d fenced by Read, %d lost, %d mixed, %d further", opened, durable, all.read, all.fenced, all.lost, all.mixed, all.further)
	}
}

func TestSameStepsSameVolume(t *testing.T) {
	v, u := fresh(t, 30), fresh(t, 30)
	a, b := rand.New(rand.NewSource(3)), rand.New(rand.NewSource(3))
	open(t, v, 1)
	open(t, u, 1)
	x, y := &history{last: look(v)}, &history{last: look(u)}
	for range 500 {
		x.step(t, a, v)
		y.step(t, b, u)
		x.check(t, v)
		y.check(t, u)
		unchanged(t, u, look(v))
	}
}

// helps lets the segments gossip with one another, and keep what they get, until nothing more comes of it.
func helps(t *testing.T, v *Volume) {
	t.Helper()
	for range api.MaxLog {
		before := look(v)
		for a := range api.Segments {
			for b := range api.Segments {
				v.Gossip(a, b)
				arrive(t, v)
			}
			v.Sync(a)
			arrive(t, v)
		}
		if reflect.DeepEqual(before, look(v)) {
			return
		}
	}
}

func TestP14DurableOnce(t *testing.T) {
	// record 1 is durable by segments 0 to 3; record 2 is not; then any two segments are lost
	for a := range api.Segments {
		for b := range a {
			v := opened(t)
			deliver(t, v, 0, 0, 0, 0)
			sync(t, v, 0, 1, 2, 3)
			lose(t, v)
			sync(t, v, 0, 1, 2, 3)
			arrive(t, v)
			writerAt(t, v, 1, api.Open, 0, 2, 1)
			crash(t, v, a, b)
			open(t, v, 2)
			v.Copy(3)
			arrive(t, v)
			helps(t, v)
			writerAt(t, v, 2, api.Open, 1, 1, 1)
			reads(t, v, 2, 1, 70, api.OK)
			reads(t, v, 1, 1, 0, api.ErrFenced) // if two are lost, one of those that are asked is left
			restart(t, v, a, b)
			crash(t, v, (a+1)%api.Segments)
			open(t, v, 3)
			arrive(t, v)
			helps(t, v)
			writerAt(t, v, 3, api.Open, 1, 1, 1)
			reads(t, v, 3, 1, 70, api.OK)
			if k, found := onFour(look(v), 1); !found || k != (api.Record{Lsn: 1, Epoch: 1, Value: 70}) {
				t.Fatalf("P14: four segments have %+v, %v", k, found)
			}
		}
	}
}

func TestP14LogGoesFurther(t *testing.T) {
	// record 1 is durable; segment 0 has kept record 2, too, and segment 1 record 3; segment 5 has crashed, and lost its buffer
	for first, base := range []int{2, 1, 1} {
		v := freshWith(t, 8, 100)
		open(t, v, 1)
		arrive(t, v)
		appends(t, v, 1, 70, 1, api.OK)
		arrive(t, v)
		sync(t, v, 0, 1, 2, 3)
		arrive(t, v)
		appends(t, v, 1, 71, 2, api.OK)
		appends(t, v, 1, 72, 3, api.OK)
		deliver(t, v, 7) // record 3 at segment 1
		deliver(t, v, 0) // record 2 at segment 0
		deliver(t, v, 4) // record 2 at segment 5
		sync(t, v, 0, 1)
		lose(t, v)
		crash(t, v, 5)
		restart(t, v, 5)
		writerAt(t, v, 1, api.Open, 0, 3, 1)
		open(t, v, 2)
		deliver(t, v, first, first, first, first)
		deliver(t, v, 2, 2, 2, 2)
		writerAt(t, v, 2, api.Cutting, base, base, 0)
		arrive(t, v)
		helps(t, v)
		writerAt(t, v, 2, api.Open, base, base, base)
		for s := range api.Segments {
			want := api.Segment{Up: true, Epoch: 2, Scl: base, Cuts: []api.Cut{{Epoch: 1}, {Epoch: 2, At: base}}, Kept: records(1, 1, 70, 71)[:base]}
			segmentAt(t, v, s, want)
		}
		// its own records stand behind these
		appends(t, v, 2, 90, base+1, api.OK)
		arrive(t, v)
		helps(t, v)
		reads(t, v, 2, base, 69+base, api.OK)
		reads(t, v, 2, base+1, 90, api.OK)
		reads(t, v, 2, base+2, 0, api.ErrNone)
	}
}

func TestP14OldWriter(t *testing.T) {
	// four segments have kept record 1, and have got record 2; what they tell of it comes late, and twice
	v := opened(t)
	deliver(t, v, 0, 0, 0, 0)
	sync(t, v, 0, 1, 2, 3)
	deliver(t, v, 2, 2, 2, 2) // record 2
	for s := range 4 {
		segmentAt(t, v, s, at(1, records(1, 1, 70), records(1, 2, 71)))
	}
	var late []api.Message
	for k := range v.Flight() {
		if m, _ := v.Message(k); m.Kind == api.MStatus {
			late = append(late, m, m)
		}
	}
	lose(t, v)
	open(t, v, 2)
	deliver(t, v, 0, 0, 0, 0)
	sync(t, v, 0, 1, 2, 3) // behind the fence writer 1 is not told
	arrive(t, v)
	writerAt(t, v, 1, api.Open, 0, 2, 0)
	writerAt(t, v, 2, api.Open, 1, 1, 1)
	for _, m := range late {
		v.net.Send(m)
	}
	arrive(t, v)
	writerAt(t, v, 1, api.Open, 0, 2, 1)
	sync(t, v, 0, 1, 2, 3, 4, 5)
	helps(t, v)
	resend(t, v, 1, api.OK)
	arrive(t, v)
	writerAt(t, v, 1, api.Fenced, 0, 2, 1)
}

func TestP14LateOpening(t *testing.T) {
	// four segments have answered MCut of writer 1; before it hears of that, writer 2 has a record that is durable
	v := fresh(t, 100)
	open(t, v, 1)
	deliver(t, v, 0, 0, 0, 0, 0, 0)
	deliver(t, v, 0, 0, 0, 0)
	deliver(t, v, 2, 2, 2, 2)
	writerAt(t, v, 1, api.Cutting, 0, 0, 0)
	lose(t, v)
	open(t, v, 2)
	arrive(t, v)
	appends(t, v, 2, 80, 1, api.OK)
	arrive(t, v)
	sync(t, v, 0, 1, 2, 3)
	arrive(t, v)
	writerAt(t, v, 2, api.Open, 0, 1, 1)
	for s := range 4 {
		v.net.Send(status(s, 1, 0))
	}
	arrive(t, v)
	writerAt(t, v, 1, api.Open, 0, 0, 0) // P7
	reads(t, v, 1, 1, 0, api.ErrNone)
	// its own record 1 comes nowhere
	appends(t, v, 1, 70, 1, api.OK)
	arrive(t, v)
	writerAt(t, v, 1, api.Fenced, 0, 1, 0)
	reads(t, v, 1, 1, 0, api.ErrFenced)
	reads(t, v, 2, 1, 80, api.OK)
	if k, found := onFour(look(v), 1); !found || k != (api.Record{Lsn: 1, Epoch: 2, Value: 80}) {
		t.Fatalf("P14: four segments have %+v, %v", k, found)
	}
}

func TestP14Opens(t *testing.T) {
	// with as little room as there may be, behind a crash of all segments
	for _, flight := range []int{1, 2, 7} {
		r := rand.New(rand.NewSource(int64(flight)))
		v := freshWith(t, 3, flight)
		open(t, v, 1)
		h := &history{last: look(v)}
		for w := 1; w <= api.MaxWriters; w++ {
			if w > 1 {
				open(t, v, w)
			}
			crash(t, v, 0, 1, 2, 3, 4, 5)
			arrive(t, v)
			restart(t, v, 0, 1, 2, 3, 4, 5)
			h.check(t, v)
			h.settle(t, r, v)
			for i := range 3 {
				value := 100*w + i
				lsn, e := v.Append(w, value)
				if e != api.OK {
					t.Fatalf("P9: Append(%d, %d) = %d, %d", w, value, lsn, e)
				}
				h.appended[w][lsn] = &value
			}
			h.settle(t, r, v)
		}
		writerAt(t, v, api.MaxWriters, api.Open, 24, 27, 27)
		h.readsAll(t, v)
	}
}
