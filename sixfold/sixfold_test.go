package sixfold

import (
	"reflect"
	"testing"

	"sixfold/api"
)

const (
	least    = -1 << 63
	greatest = 1<<63 - 1
)

func fresh(t *testing.T, flight int) *Volume {
	t.Helper()
	return freshWith(t, 2, flight)
}

func freshWith(t *testing.T, window, flight int) *Volume {
	t.Helper()
	v, e := New(api.Config{Window: window, Flight: flight})
	if v == nil || e != api.OK {
		t.Fatalf("P3: New = %v, %d", v, e)
	}
	return v
}

func open(t *testing.T, v *Volume, want int) {
	t.Helper()
	if n, e := v.Open(); n != want || e != api.OK {
		t.Fatalf("P6: Open = %d, %d, want %d", n, e, want)
	}
}

func deliver(t *testing.T, v *Volume, l ...int) {
	t.Helper()
	for _, k := range l {
		if e := v.Deliver(k); e != api.OK {
			t.Fatalf("P4: Deliver(%d) = %d", k, e)
		}
	}
}

// arrive lets all arrive that is in flight or is sent about it.
func arrive(t *testing.T, v *Volume) {
	t.Helper()
	for n := 0; v.Flight() > 0; n++ {
		if n > 5000 {
			t.Fatalf("P4: there is no end of messages")
		}
		deliver(t, v, 0)
	}
}

// lose loses all that is in flight.
func lose(t *testing.T, v *Volume) {
	t.Helper()
	for v.Flight() > 0 {
		if e := v.Drop(0); e != api.OK {
			t.Fatalf("P4: Drop(0) = %d", e)
		}
	}
}

func appends(t *testing.T, v *Volume, w, value, lsn int, want api.Errno) {
	t.Helper()
	if n, e := v.Append(w, value); n != lsn || e != want {
		t.Fatalf("P9: Append(%d, %d) = %d, %d, want %d, %d", w, value, n, e, lsn, want)
	}
}

func sync(t *testing.T, v *Volume, l ...int) {
	t.Helper()
	for _, s := range l {
		if e := v.Sync(s); e != api.OK {
			t.Fatalf("P10: Sync(%d) = %d", s, e)
		}
	}
}

func gossip(t *testing.T, v *Volume, a, b int) {
	t.Helper()
	if e := v.Gossip(a, b); e != api.OK {
		t.Fatalf("P11: Gossip(%d, %d) = %d", a, b, e)
	}
}

func crash(t *testing.T, v *Volume, l ...int) {
	t.Helper()
	for _, s := range l {
		if e := v.Crash(s); e != api.OK {
			t.Fatalf("P12: Crash(%d) = %d", s, e)
		}
	}
}

func restart(t *testing.T, v *Volume, l ...int) {
	t.Helper()
	for _, s := range l {
		if e := v.Restart(s); e != api.OK {
			t.Fatalf("P12: Restart(%d) = %d", s, e)
		}
	}
}

func reads(t *testing.T, v *Volume, w, lsn, value int, want api.Errno) {
	t.Helper()
	if n, e := v.Read(w, lsn); n != value || e != want {
		t.Fatalf("P13: Read(%d, %d) = %d, %d, want %d, %d", w, lsn, n, e, value, want)
	}
}

func resend(t *testing.T, v *Volume, w int, want api.Errno) {
	t.Helper()
	if e := v.Resend(w); e != want {
		t.Fatalf("P8: Resend(%d) = %d, want %d", w, e, want)
	}
}

// inFlight checks all messages, and so their order.
func inFlight(t *testing.T, v *Volume, want ...api.Message) {
	t.Helper()
	if n := v.Flight(); n != len(want) {
		t.Fatalf("P4: Flight = %d, want %d", n, len(want))
	}
	for k, w := range want {
		if m, e := v.Message(k); e != api.OK || !reflect.DeepEqual(m, w) {
			t.Fatalf("P4: Message(%d) = %+v, %d, want %+v", k, m, e, w)
		}
	}
}

func writerAt(t *testing.T, v *Volume, w, phase, base, next, durable int) {
	t.Helper()
	want := api.Writer{Phase: phase, Base: base, Next: next, Durable: durable}
	if got, e := v.Writer(w); got != want || e != api.OK {
		t.Fatalf("P5: Writer(%d) = %+v, %d, want %+v", w, got, e, want)
	}
}

func segmentAt(t *testing.T, v *Volume, s int, want api.Segment) {
	t.Helper()
	if got, e := v.Segment(s); e != api.OK || !reflect.DeepEqual(got, want) {
		t.Fatalf("P5: Segment(%d) = %+v, %d, want %+v", s, got, e, want)
	}
}

// picture is all that can be seen of a volume.
type picture struct {
	segments [api.Segments]api.Segment
	writers  []api.Writer
	messages []api.Message
}

func look(v *Volume) picture {
	var p picture
	for s := range p.segments {
		p.segments[s], _ = v.Segment(s)
	}
	for w := 1; ; w++ {
		x, e := v.Writer(w)
		if e != api.OK {
			break
		}
		p.writers = append(p.writers, x)
	}
	for k := range v.Flight() {
		m, _ := v.Message(k)
		p.messages = append(p.messages, m)
	}
	return p
}

func unchanged(t *testing.T, v *Volume, before picture) {
	t.Helper()
	if after := look(v); !reflect.DeepEqual(before, after) {
		t.Fatalf("changed from %+v to %+v", before, after)
	}
}

func fence(w, s int) api.Message {
	return api.Message{Kind: api.MFence, From: w, To: s, Epoch: w}
}

func fenced(s, w int) api.Message {
	return api.Message{Kind: api.MFenced, From: s, To: w, Epoch: w}
}

func cut(w, s int, list ...api.Cut) api.Message {
	return api.Message{Kind: api.MCut, From: w, To: s, Epoch: w, Cuts: list}
}

func status(s, w, scl int) api.Message {
	return api.Message{Kind: api.MStatus, From: s, To: w, Epoch: w, Scl: scl}
}

func write(w, s, lsn, value int) api.Message {
	return api.Message{Kind: api.MWrite, From: w, To: s, Epoch: w, Lsn: lsn, Value: value}
}

func need(from, to, lsn int) api.Message {
	return api.Message{Kind: api.MNeed, From: from, To: to, Lsn: lsn}
}

func filled(from, to, lsn, epoch, value int) api.Message {
	return api.Message{Kind: api.MFill, From: from, To: to, Lsn: lsn, Epoch: epoch, Value: value}
}

func refused(s, w, epoch int) api.Message {
	return api.Message{Kind: api.MRefused, From: s, To: w, Epoch: epoch}
}

// writes is MWrite of one record to all segments.
func writes(w, lsn, value int) []api.Message {
	var list []api.Message
	for s := range api.Segments {
		list = append(list, write(w, s, lsn, value))
	}
	return list
}

func TestP1WrongNumbers(t *testing.T) {
	v := fresh(t, 20)
	open(t, v, 1)
	deliver(t, v, 0)
	open(t, v, 2)
	before := look(v)
	for _, k := range []int{least, -1, 12, 13, greatest} {
		if m, e := v.Message(k); !reflect.DeepEqual(m, api.Message{}) || e != api.ErrMessage {
			t.Errorf("P4: Message(%d) = %+v, %d", k, m, e)
		}
		for _, e := range []api.Errno{v.Deliver(k), v.Drop(k), v.Copy(k)} {
			if e != api.ErrMessage {
				t.Errorf("P4: at message %d: %d", k, e)
			}
		}
	}
	for _, s := range []int{least, -1, 6, 7, greatest} {
		if g, e := v.Segment(s); !reflect.DeepEqual(g, api.Segment{}) || e != api.ErrSegment {
			t.Errorf("P5: Segment(%d) = %+v, %d", s, g, e)
		}
		for _, e := range []api.Errno{v.Sync(s), v.Crash(s), v.Restart(s), v.Gossip(s, 0), v.Gossip(0, s), v.Gossip(s, s)} {
			if e != api.ErrSegment {
				t.Errorf("P10 to P12: at segment %d: %d", s, e)
			}
		}
	}
	for _, w := range []int{least, -1, 0, 3, 9, greatest} {
		if x, e := v.Writer(w); x != (api.Writer{}) || e != api.ErrWriter {
			t.Errorf("P5: Writer(%d) = %+v, %d", w, x, e)
		}
		resend(t, v, w, api.ErrWriter)
		appends(t, v, w, 70, 0, api.ErrWriter)
		for _, lsn := range []int{least, -1, 0, 1, 41, greatest} {
			reads(t, v, w, lsn, 0, api.ErrWriter)
		}
	}
	unchanged(t, v, before)
}

func TestP1CallsEnd(t *testing.T) {
	v := fresh(t, 20)
	open(t, v, 1)
	arrive(t, v)
	for _, n := range []int{least, -1, 0, 1, 5, 6, 40, 41, greatest} {
		for _, k := range []int{least, -1, 0, 1, 6, 41, greatest} {
			v.Append(n, k)
			v.Gossip(n, k)
			v.Read(n, k)
		}
		v.Sync(n)
		v.Crash(n)
		v.Deliver(n)
		v.Copy(n)
		v.Resend(n)
		v.Restart(n)
		v.Drop(n)
	}
	arrive(t, v)
}

func TestP2Lists(t *testing.T) {
	v := fresh(t, 100)
	open(t, v, 1)
	arrive(t, v)
	appends(t, v, 1, 70, 1, api.OK)
	appends(t, v, 1, 71, 2, api.OK)
	arrive(t, v)
	sync(t, v, 0, 1)
	lose(t, v)
	open(t, v, 2)
	deliver(t, v, 0, 0, 0, 0, 0, 0)
	v.Copy(0)
	before := look(v)
	a, b := look(v), look(v)
	for _, m := range a.messages {
		spoilCuts(m.Cuts)
		spoilMarks(m.Marks)
	}
	for _, s := range a.segments {
		spoilCuts(s.Cuts)
		spoilRecords(s.Kept)
		spoilRecords(s.Buffer)
	}
	unchanged(t, v, before)
	if !reflect.DeepEqual(b, before) {
		t.Errorf("P2: the lists of two calls share room")
	}
	deliver(t, v, 0, 0, 0, 0)
	if m, _ := v.Message(v.Flight() - 1); !reflect.DeepEqual(m, cut(2, 5, api.Cut{Epoch: 1}, api.Cut{Epoch: 2, At: 2})) {
		t.Errorf("P2: the writer's list is %+v", m)
	}
}

func TestP2ListsOfOneCall(t *testing.T) {
	// MCut of one writer to six segments: six lists
	v := fresh(t, 100)
	open(t, v, 1)
	deliver(t, v, 0, 0, 0, 0, 0, 0)
	deliver(t, v, 0, 0, 0, 0)
	before := look(v)
	m, _ := v.Message(2)
	spoilCuts(m.Cuts)
	unchanged(t, v, before)
	deliver(t, v, 2, 2)
	g, _ := v.Segment(0)
	spoilCuts(g.Cuts)
	segmentAt(t, v, 0, api.Segment{Up: true, Epoch: 1, Cuts: []api.Cut{{Epoch: 1}}})
	segmentAt(t, v, 1, api.Segment{Up: true, Epoch: 1, Cuts: []api.Cut{{Epoch: 1}}})
}

// spoilCuts writes into a list and into its spare room.
func spoilCuts(l []api.Cut) {
	l = l[:cap(l)]
	for i := range l {
		l[i] = api.Cut{Epoch: 77, At: 77}
	}
}

func spoilRecords(l []api.Record) {
	l = l[:cap(l)]
	for i := range l {
		l[i] = api.Record{Lsn: 77, Epoch: 77, Value: 77}
	}
}

func spoilMarks(l []int) {
	l = l[:cap(l)]
	for i := range l {
		l[i] = 77
	}
}

func TestP2Volumes(t *testing.T) {
	v, u := fresh(t, 100), fresh(t, 100)
	open(t, v, 1)
	arrive(t, v)
	appends(t, v, 1, 70, 1, api.OK)
	arrive(t, v)
	sync(t, v, 3)
	open(t, v, 2)
	unchanged(t, u, look(fresh(t, 100)))
	before := look(v)
	open(t, u, 1)
	deliver(t, u, 3, 2)
	unchanged(t, v, before)
}

func TestP3(t *testing.T) {
	for _, c := range []api.Config{
		{}, {Window: 0, Flight: 1}, {Window: 1, Flight: 0}, {Window: -1, Flight: 5}, {Window: 5, Flight: -1},
		{Window: api.MaxWindow + 1, Flight: 5}, {Window: 5, Flight: api.MaxFlight + 1},
		{Window: least, Flight: 5}, {Window: greatest, Flight: 5}, {Window: 5, Flight: least}, {Window: 5, Flight: greatest},
	} {
		if v, e := New(c); v != nil || e != api.ErrConfig {
			t.Errorf("P3: New(%+v) = %v, %d", c, v, e)
		}
	}
	for _, c := range []api.Config{{Window: 1, Flight: 1}, {Window: api.MaxWindow, Flight: api.MaxFlight}, {Window: 1, Flight: api.MaxFlight}, {Window: api.MaxWindow, Flight: 1}} {
		v, e := New(c)
		if v == nil || e != api.OK {
			t.Fatalf("P3: New(%+v) = %v, %d", c, v, e)
		}
		for s := range api.Segments {
			segmentAt(t, v, s, api.Segment{Up: true})
		}
		if _, e := v.Writer(1); e != api.ErrWriter {
			t.Errorf("P3: Writer(1) of a new volume is %d", e)
		}
		inFlight(t, v)
	}
}

func TestP4Network(t *testing.T) {
	v := fresh(t, 100)
	open(t, v, 1)
	inFlight(t, v, fence(1, 0), fence(1, 1), fence(1, 2), fence(1, 3), fence(1, 4), fence(1, 5))
	before := look(v)
	if e := v.Drop(1); e != api.OK {
		t.Fatalf("P4: Drop = %d", e)
	}
	inFlight(t, v, fence(1, 0), fence(1, 2), fence(1, 3), fence(1, 4), fence(1, 5))
	if after := look(v); !reflect.DeepEqual(after.segments, before.segments) || !reflect.DeepEqual(after.writers, before.writers) {
		t.Errorf("P4: what is dropped arrives")
	}
	if e := v.Copy(1); e != api.OK {
		t.Fatalf("P4: Copy = %d", e)
	}
	inFlight(t, v, fence(1, 0), fence(1, 2), fence(1, 3), fence(1, 4), fence(1, 5), fence(1, 2))
	deliver(t, v, 4)
	inFlight(t, v, fence(1, 0), fence(1, 2), fence(1, 3), fence(1, 4), fence(1, 2), fenced(5, 1))
	v.Drop(5)
	v.Drop(0)
	inFlight(t, v, fence(1, 2), fence(1, 3), fence(1, 4), fence(1, 2))
}

func TestP4Full(t *testing.T) {
	v := fresh(t, 8)
	open(t, v, 1)
	open(t, v, 2)
	all := []api.Message{fence(1, 0), fence(1, 1), fence(1, 2), fence(1, 3), fence(1, 4), fence(1, 5), fence(2, 0), fence(2, 1)}
	inFlight(t, v, all...)
	if e := v.Copy(3); e != api.OK {
		t.Errorf("P4: Copy into a full network = %d", e)
	}
	resend(t, v, 1, api.OK)
	inFlight(t, v, all...)
	// what arrives makes room for its answer
	deliver(t, v, 0)
	inFlight(t, v, append(all[1:len(all):len(all)], fenced(0, 1))...)
}

func TestP4MostFlight(t *testing.T) {
	v := fresh(t, api.MaxFlight)
	open(t, v, 1)
	for range api.MaxFlight {
		v.Copy(0)
	}
	if n := v.Flight(); n != api.MaxFlight {
		t.Fatalf("P4: Flight = %d, want %d", n, api.MaxFlight)
	}
	if m, e := v.Message(api.MaxFlight - 1); e != api.OK || !reflect.DeepEqual(m, fence(1, 0)) {
		t.Errorf("P4: the last message is %+v, %d", m, e)
	}
	if _, e := v.Message(api.MaxFlight); e != api.ErrMessage {
		t.Errorf("P4: Message(%d) = %d", api.MaxFlight, e)
	}
}

func TestP5Examples(t *testing.T) {
	// examples 1 and 2
	v := fresh(t, 100)
	open(t, v, 1)
	writerAt(t, v, 1, api.Fencing, 0, 0, 0)
	deliver(t, v, 2)
	inFlight(t, v, fence(1, 0), fence(1, 1), fence(1, 3), fence(1, 4), fence(1, 5), fenced(2, 1))
	segmentAt(t, v, 2, api.Segment{Up: true, Epoch: 1})
	arrive(t, v)
	writerAt(t, v, 1, api.Open, 0, 0, 0)
	for s := range api.Segments {
		segmentAt(t, v, s, api.Segment{Up: true, Epoch: 1, Cuts: []api.Cut{{Epoch: 1}}})
	}
}

func TestP6Many(t *testing.T) {
	v := fresh(t, api.MaxFlight)
	var want []api.Message
	for w := 1; w <= api.MaxWriters; w++ {
		open(t, v, w)
		for s := range api.Segments {
			want = append(want, fence(w, s))
		}
	}
	inFlight(t, v, want...)
	before := look(v)
	for range 2 {
		if n, e := v.Open(); n != 0 || e != api.ErrMany {
			t.Fatalf("P6: Open = %d, %d", n, e)
		}
	}
	unchanged(t, v, before)
	arrive(t, v)
	for w := 1; w < api.MaxWriters; w++ {
		writerAt(t, v, w, api.Fenced, 0, 0, 0)
	}
	writerAt(t, v, api.MaxWriters, api.Open, 0, 0, 0)
}

func TestP6Refused(t *testing.T) {
	v := fresh(t, 100)
	open(t, v, 1)
	open(t, v, 2)
	deliver(t, v, 6) // MFence of 2 at segment 0
	deliver(t, v, 0) // MFence of 1 there
	if m, _ := v.Message(v.Flight() - 1); !reflect.DeepEqual(m, refused(0, 1, 2)) {
		t.Fatalf("P6: an older MFence is answered by %+v", m)
	}
	segmentAt(t, v, 0, api.Segment{Up: true, Epoch: 2})
	writerAt(t, v, 1, api.Fencing, 0, 0, 0)
	deliver(t, v, v.Flight()-1)
	writerAt(t, v, 1, api.Fenced, 0, 0, 0)
	writerAt(t, v, 2, api.Fencing, 0, 0, 0)
	before := look(v)
	resend(t, v, 1, api.ErrFenced)
	unchanged(t, v, before)
	arrive(t, v)
	writerAt(t, v, 1, api.Fenced, 0, 0, 0)
	writerAt(t, v, 2, api.Open, 0, 0, 0)
}

func TestP6RefusedWhenOpen(t *testing.T) {
	v := fresh(t, 100)
	open(t, v, 1)
	arrive(t, v)
	open(t, v, 2)
	arrive(t, v)
	writerAt(t, v, 1, api.Open, 0, 0, 0) // it does not know yet
	v.net.Send(cut(1, 3, api.Cut{Epoch: 1}))
	deliver(t, v, 0)
	inFlight(t, v, refused(3, 1, 2))
	deliver(t, v, 0)
	writerAt(t, v, 1, api.Fenced, 0, 0, 0)
	segmentAt(t, v, 3, api.Segment{Up: true, Epoch: 2, Cuts: []api.Cut{{Epoch: 1}, {Epoch: 2}}})
}

func TestP7TakingOver(t *testing.T) {
	v := fresh(t, 100)
	open(t, v, 1)
	arrive(t, v)
	open(t, v, 2)
	lose(t, v)
	// as if three segments had kept records of writer 1
	for s, marks := range [][]int{{1}, {1, 1, 1}, {1, 1}, nil} {
		writerAt(t, v, 2, api.Fencing, 0, 0, 0)
		m := fenced(s, 2)
		m.Cuts = []api.Cut{{Epoch: 1}}
		m.Marks = marks
		v.net.Send(m)
		deliver(t, v, 0)
	}
	writerAt(t, v, 2, api.Cutting, 3, 3, 0)
	var want []api.Message
	for s := range api.Segments {
		want = append(want, cut(2, s, api.Cut{Epoch: 1}, api.Cut{Epoch: 2, At: 3}))
	}
	inFlight(t, v, want...)
	for s := range api.Segments {
		deliver(t, v, 0)
		segmentAt(t, v, s, api.Segment{Up: true, Epoch: 2, Cuts: []api.Cut{{Epoch: 1}, {Epoch: 2, At: 3}}})
	}
	arrive(t, v)
	// all have answered, none has the three records
	writerAt(t, v, 2, api.Cutting, 3, 3, 0)
	for s, scl := range []int{3, 2, 3, 3, 3} {
		writerAt(t, v, 2, api.Cutting, 3, 3, 0)
		v.net.Send(status(s, 2, scl))
		deliver(t, v, 0)
	}
	writerAt(t, v, 2, api.Open, 3, 3, 3)
}

func TestP7Chain(t *testing.T) {
	// writer 1 cuts segments 4 and 5 alone; writer 2 hears of one of these
	v := fresh(t, 100)
	open(t, v, 1)
	deliver(t, v, 0, 0, 0, 0, 0, 0)
	deliver(t, v, 0, 0, 0, 0)
	deliver(t, v, 7, 6)
	lose(t, v)
	open(t, v, 2)
	deliver(t, v, 1, 1, 1, 1) // segments 1 to 4
	deliver(t, v, 2, 2, 2, 2)
	writerAt(t, v, 2, api.Cutting, 0, 0, 0)
	arrive(t, v)
	for s := range api.Segments {
		segmentAt(t, v, s, api.Segment{Up: true, Epoch: 2, Cuts: []api.Cut{{Epoch: 1}, {Epoch: 2}}})
	}
	writerAt(t, v, 2, api.Open, 0, 0, 0)
}

func TestP7CutsOverrun(t *testing.T) {
	// only as many MCut are sent as there is room for
	v := fresh(t, 4)
	open(t, v, 1)
	deliver(t, v, 0, 0, 0, 0)
	deliver(t, v, 0, 0, 0)
	v.Copy(0)
	inFlight(t, v, fenced(3, 1), fenced(3, 1))
	deliver(t, v, 0)
	inFlight(t, v, fenced(3, 1), cut(1, 0, api.Cut{Epoch: 1}), cut(1, 1, api.Cut{Epoch: 1}), cut(1, 2, api.Cut{Epoch: 1}))
}

func TestP8(t *testing.T) {
	v := fresh(t, 100)
	open(t, v, 1)
	deliver(t, v, 0, 3) // MFence at segments 0 and 4
	deliver(t, v, 5, 4) // their answers
	lose(t, v)
	resend(t, v, 1, api.OK)
	inFlight(t, v, fence(1, 1), fence(1, 2), fence(1, 3), fence(1, 5))
	writerAt(t, v, 1, api.Fencing, 0, 0, 0)
	deliver(t, v, 0, 0) // MFence at segments 1 and 2
	deliver(t, v, 2, 2) // their answers
	inFlight(t, v, fence(1, 3), fence(1, 5), cut(1, 0, api.Cut{Epoch: 1}), cut(1, 1, api.Cut{Epoch: 1}), cut(1, 2, api.Cut{Epoch: 1}), cut(1, 3, api.Cut{Epoch: 1}), cut(1, 4, api.Cut{Epoch: 1}), cut(1, 5, api.Cut{Epoch: 1}))
	deliver(t, v, 6, 6) // MCut at segments 4 and 5
	deliver(t, v, 6)    // the answer of segment 4
	lose(t, v)
	resend(t, v, 1, api.OK)
	inFlight(t, v, cut(1, 0, api.Cut{Epoch: 1}), cut(1, 1, api.Cut{Epoch: 1}), cut(1, 2, api.Cut{Epoch: 1}), cut(1, 3, api.Cut{Epoch: 1}), cut(1, 5, api.Cut{Epoch: 1}))
	deliver(t, v, 0, 0, 0) // MCut at segments 0, 1 and 2
	deliver(t, v, 2, 2, 2) // their answers
	writerAt(t, v, 1, api.Open, 0, 0, 0)
	lose(t, v)
	resend(t, v, 1, api.OK)
	inFlight(t, v, cut(1, 3, api.Cut{Epoch: 1}), cut(1, 5, api.Cut{Epoch: 1})) // 5's answer was lost, 3's not yet given
	arrive(t, v)
	resend(t, v, 1, api.OK)
	inFlight(t, v)
}

func TestP8LittleRoom(t *testing.T) {
	// example 7
	v := fresh(t, 1)
	open(t, v, 1)
	inFlight(t, v, fence(1, 0))
	deliver(t, v, 0)
	inFlight(t, v, fenced(0, 1))
	deliver(t, v, 0)
	inFlight(t, v)
	resend(t, v, 1, api.OK)
	inFlight(t, v, fence(1, 1))
	for range 40 {
		arrive(t, v)
		resend(t, v, 1, api.OK)
	}
	writerAt(t, v, 1, api.Open, 0, 0, 0)
}

// records are those of one writer, one after the other, by their values.
func records(epoch, first int, values ...int) []api.Record {
	var list []api.Record
	for i, value := range values {
		list = append(list, api.Record{Lsn: first + i, Epoch: epoch, Value: value})
	}
	return list
}

func TestExamples3To5(t *testing.T) {
	v := fresh(t, 100)
	one := []api.Cut{{Epoch: 1}}
	open(t, v, 1)
	arrive(t, v)
	appends(t, v, 1, 70, 1, api.OK)
	inFlight(t, v, writes(1, 1, 70)...)
	writerAt(t, v, 1, api.Open, 0, 1, 0)
	appends(t, v, 1, 71, 2, api.OK)
	both := append(writes(1, 1, 70), writes(1, 2, 71)...)
	inFlight(t, v, both...)
	appends(t, v, 1, 72, 0, api.ErrWindow)
	inFlight(t, v, both...)
	arrive(t, v)
	for s := range api.Segments {
		segmentAt(t, v, s, api.Segment{Up: true, Epoch: 1, Cuts: one, Buffer: records(1, 1, 70, 71)})
	}
	writerAt(t, v, 1, api.Open, 0, 2, 0)
	sync(t, v, 0, 1, 2)
	inFlight(t, v, status(0, 1, 2), status(1, 1, 2), status(2, 1, 2))
	arrive(t, v)
	writerAt(t, v, 1, api.Open, 0, 2, 0)
	appends(t, v, 1, 72, 0, api.ErrWindow)
	sync(t, v, 3)
	writerAt(t, v, 1, api.Open, 0, 2, 0)
	segmentAt(t, v, 3, api.Segment{Up: true, Epoch: 1, Scl: 2, Cuts: one, Kept: records(1, 1, 70, 71)})
	arrive(t, v)
	writerAt(t, v, 1, api.Open, 0, 2, 2)
	reads(t, v, 1, 2, 71, api.OK)
	reads(t, v, 1, 3, 0, api.ErrNone)
	// example 4
	crash(t, v, 5)
	segmentAt(t, v, 5, api.Segment{Epoch: 1, Cuts: one})
	restart(t, v, 5)
	segmentAt(t, v, 5, api.Segment{Up: true, Epoch: 1, Cuts: one})
	gossip(t, v, 5, 0)
	inFlight(t, v, need(5, 0, 1))
	deliver(t, v, 0)
	inFlight(t, v, filled(0, 5, 1, 1, 70))
	arrive(t, v)
	segmentAt(t, v, 5, api.Segment{Up: true, Epoch: 1, Cuts: one, Buffer: records(1, 1, 70)})
	gossip(t, v, 5, 4)
	inFlight(t, v, need(5, 4, 1))
	deliver(t, v, 0)
	inFlight(t, v)
	segmentAt(t, v, 4, api.Segment{Up: true, Epoch: 1, Cuts: one, Buffer: records(1, 1, 70, 71)})
	segmentAt(t, v, 5, api.Segment{Up: true, Epoch: 1, Cuts: one, Buffer: records(1, 1, 70)})
	// example 5
	open(t, v, 2)
	deliver(t, v, 0, 0, 0, 0)
	deliver(t, v, 2, 2, 2, 2)
	writerAt(t, v, 2, api.Cutting, 2, 2, 0)
	appends(t, v, 2, 73, 0, api.ErrClosed)
	arrive(t, v)
	writerAt(t, v, 2, api.Open, 2, 2, 2)
	two := []api.Cut{{Epoch: 1}, {Epoch: 2, At: 2}}
	segmentAt(t, v, 4, api.Segment{Up: true, Epoch: 2, Cuts: two, Buffer: records(1, 1, 70, 71)})
	appends(t, v, 1, 73, 3, api.OK)
	writerAt(t, v, 1, api.Open, 0, 3, 2)
	deliver(t, v, 0)
	if m, _ := v.Message(5); !reflect.DeepEqual(m, refused(0, 1, 2)) {
		t.Fatalf("P9: MWrite of an older writer is answered by %+v", m)
	}
	arrive(t, v)
	writerAt(t, v, 1, api.Fenced, 0, 3, 2)
	appends(t, v, 1, 74, 0, api.ErrFenced)
	inFlight(t, v)
	for s := range 4 {
		segmentAt(t, v, s, api.Segment{Up: true, Epoch: 2, Scl: 2, Cuts: two, Kept: records(1, 1, 70, 71)})
	}
	segmentAt(t, v, 5, api.Segment{Up: true, Epoch: 2, Cuts: two, Buffer: records(1, 1, 70)})
}

func TestExample6(t *testing.T) {
	for _, first := range []int{1, 0} {
		v := fresh(t, 100)
		open(t, v, 1)
		arrive(t, v)
		appends(t, v, 1, 80, 1, api.OK)
		deliver(t, v, 0)
		sync(t, v, 0)
		lose(t, v)
		open(t, v, 2)
		deliver(t, v, first, first, first, first)
		deliver(t, v, 2, 2, 2, 2)
		base := 1 - first
		writerAt(t, v, 2, api.Cutting, base, base, 0)
		arrive(t, v)
		g := api.Segment{Up: true, Epoch: 2, Cuts: []api.Cut{{Epoch: 1}, {Epoch: 2, At: base}}}
		segmentAt(t, v, 1, g)
		if base == 0 {
			segmentAt(t, v, 0, g)
			writerAt(t, v, 2, api.Open, 0, 0, 0)
			continue
		}
		g.Scl, g.Kept = 1, records(1, 1, 80)
		segmentAt(t, v, 0, g)
		// one segment alone has the record
		sync(t, v, 0, 1, 2, 3, 4, 5)
		arrive(t, v)
		writerAt(t, v, 2, api.Cutting, 1, 1, 0)
		// what an earlier writer appended is not sent again
		resend(t, v, 2, api.OK)
		inFlight(t, v)
		for _, s := range []int{5, 2, 4} {
			writerAt(t, v, 2, api.Cutting, 1, 1, 0)
			gossip(t, v, s, 0)
			arrive(t, v)
			segmentAt(t, v, s, api.Segment{Up: true, Epoch: 2, Cuts: g.Cuts, Buffer: records(1, 1, 80)})
			writerAt(t, v, 2, api.Cutting, 1, 1, 0)
			sync(t, v, s)
			arrive(t, v)
			segmentAt(t, v, s, g)
		}
		writerAt(t, v, 2, api.Open, 1, 1, 1)
		reads(t, v, 2, 1, 80, api.OK)
	}
}

func TestP9Errors(t *testing.T) {
	v := freshWith(t, 1, 100)
	appends(t, v, 1, 70, 0, api.ErrWriter)
	open(t, v, 1)
	appends(t, v, 1, 70, 0, api.ErrClosed)
	writerAt(t, v, 1, api.Fencing, 0, 0, 0)
	arrive(t, v)
	appends(t, v, 1, least, 1, api.OK)
	arrive(t, v)
	open(t, v, 2)
	arrive(t, v)
	// of a writer that is fenced off and does not know yet: its window is full
	before := look(v)
	appends(t, v, 1, 71, 0, api.ErrWindow)
	unchanged(t, v, before)
	resend(t, v, 1, api.OK)
	arrive(t, v)
	before = look(v)
	for _, value := range []int{least, 0, greatest} {
		appends(t, v, 1, value, 0, api.ErrFenced)
	}
	unchanged(t, v, before)
	writerAt(t, v, 1, api.Fenced, 0, 1, 0)
}

// fill appends until the log is full; the segments keep all.
func fill(t *testing.T, v *Volume, w, from int) {
	t.Helper()
	for lsn := from; lsn <= api.MaxLog; lsn++ {
		appends(t, v, w, 100+lsn, lsn, api.OK)
		arrive(t, v)
		sync(t, v, 1, 2, 4, 5)
		arrive(t, v)
	}
}

func TestP9Full(t *testing.T) {
	v := freshWith(t, api.MaxWindow, 100)
	open(t, v, 1)
	arrive(t, v)
	for lsn := 1; lsn <= api.MaxLog-api.MaxWindow; lsn++ {
		appends(t, v, 1, 100+lsn, lsn, api.OK)
		arrive(t, v)
		sync(t, v, 1, 2, 4, 5)
		arrive(t, v)
	}
	writerAt(t, v, 1, api.Open, 0, 32, 32)
	for lsn := 33; lsn <= api.MaxLog; lsn++ {
		appends(t, v, 1, 100+lsn, lsn, api.OK)
	}
	// the log and the window are full
	before := look(v)
	appends(t, v, 1, 99, 0, api.ErrFull)
	unchanged(t, v, before)
	writerAt(t, v, 1, api.Open, 0, 40, 32)
	arrive(t, v)
	sync(t, v, 1, 2, 4, 5)
	arrive(t, v)
	writerAt(t, v, 1, api.Open, 0, 40, 40)
	appends(t, v, 1, 99, 0, api.ErrFull)
	g, _ := v.Segment(5)
	if g.Scl != api.MaxLog || len(g.Kept) != api.MaxLog || g.Kept[39] != (api.Record{Lsn: 40, Epoch: 1, Value: 140}) {
		t.Fatalf("P10: segment 5 is at %+v", g)
	}
	// the next writer has the full log from the beginning
	open(t, v, 2)
	arrive(t, v)
	writerAt(t, v, 2, api.Open, 40, 40, 40)
	appends(t, v, 2, 99, 0, api.ErrFull)
	// of a writer that is fenced that is what is told
	v.net.Send(cut(1, 0, api.Cut{Epoch: 1}))
	arrive(t, v)
	appends(t, v, 1, 99, 0, api.ErrFenced)
}

func TestP9FullBehindTheBase(t *testing.T) {
	v := freshWith(t, 1, 100)
	open(t, v, 1)
	arrive(t, v)
	appends(t, v, 1, 101, 1, api.OK)
	arrive(t, v)
	sync(t, v, 1, 2, 4, 5)
	arrive(t, v)
	open(t, v, 2)
	arrive(t, v)
	writerAt(t, v, 2, api.Open, 1, 1, 1)
	fill(t, v, 2, 2)
	writerAt(t, v, 2, api.Open, 1, 40, 40)
	appends(t, v, 2, 99, 0, api.ErrFull)
	inFlight(t, v)
}

func TestP9Window(t *testing.T) {
	for window := 1; window <= api.MaxWindow; window++ {
		v := freshWith(t, window, 100)
		open(t, v, 1)
		arrive(t, v)
		for lsn := 1; lsn <= window; lsn++ {
			appends(t, v, 1, lsn, lsn, api.OK)
		}
		before := look(v)
		appends(t, v, 1, 99, 0, api.ErrWindow)
		unchanged(t, v, before)
		writerAt(t, v, 1, api.Open, 0, window, 0)
		// record 1 at four segments: the window moves on by one
		for s := range 4 {
			deliver(t, v, 0)
			sync(t, v, s)
		}
		for range 4 {
			appends(t, v, 1, 99, 0, api.ErrWindow)
			deliver(t, v, v.Flight()-1)
		}
		writerAt(t, v, 1, api.Open, 0, window, 1)
		appends(t, v, 1, 99, window+1, api.OK)
		appends(t, v, 1, 99, 0, api.ErrWindow)
	}
}

func TestP9NetworkFull(t *testing.T) {
	// with room for four of the six
	v := fresh(t, 6)
	open(t, v, 1)
	arrive(t, v)
	resend(t, v, 1, api.OK) // MCut to segments 4 and 5 had no room
	arrive(t, v)
	sync(t, v, 0, 1)
	appends(t, v, 1, 70, 1, api.OK)
	inFlight(t, v, status(0, 1, 0), status(1, 1, 0), write(1, 0, 1, 70), write(1, 1, 1, 70), write(1, 2, 1, 70), write(1, 3, 1, 70))
	// with no room at all: the record is in the log all the same
	appends(t, v, 1, 71, 2, api.OK)
	writerAt(t, v, 1, api.Open, 0, 2, 0)
	appends(t, v, 1, 72, 0, api.ErrWindow)
	lose(t, v)
	for range 2 {
		resend(t, v, 1, api.OK)
		arrive(t, v)
		sync(t, v, 0, 1, 2, 3, 4, 5)
		arrive(t, v)
	}
	writerAt(t, v, 1, api.Open, 0, 2, 2)
	for s := range api.Segments {
		segmentAt(t, v, s, api.Segment{Up: true, Epoch: 1, Scl: 2, Cuts: []api.Cut{{Epoch: 1}}, Kept: records(1, 1, 70, 71)})
	}
}

func TestP9Arrivals(t *testing.T) {
	v := fresh(t, 100)
	one := []api.Cut{{Epoch: 1}}
	open(t, v, 1)
	arrive(t, v)
	appends(t, v, 1, 70, 1, api.OK)
	appends(t, v, 1, 71, 2, api.OK)
	// record 2 ahead of record 1, and twice
	v.Copy(6)
	deliver(t, v, 6)
	segmentAt(t, v, 0, api.Segment{Up: true, Epoch: 1, Cuts: one, Buffer: records(1, 2, 71)})
	deliver(t, v, 11) // the copy
	if n := v.Flight(); n != 11 {
		t.Fatalf("P9: a record that is in the buffer is answered: %d messages", n)
	}
	segmentAt(t, v, 0, api.Segment{Up: true, Epoch: 1, Cuts: one, Buffer: records(1, 2, 71)})
	sync(t, v, 0)
	v.net.Send(write(1, 0, 2, 99))
	segmentAt(t, v, 0, api.Segment{Up: true, Epoch: 1, Cuts: one, Kept: records(1, 2, 71)})
	deliver(t, v, v.Flight()-1)
	if m, _ := v.Message(v.Flight() - 1); !reflect.DeepEqual(m, status(0, 1, 0)) {
		t.Fatalf("P9: a record that is kept is answered by %+v", m)
	}
	segmentAt(t, v, 0, api.Segment{Up: true, Epoch: 1, Cuts: one, Kept: records(1, 2, 71)})
	deliver(t, v, 0)
	segmentAt(t, v, 0, api.Segment{Up: true, Epoch: 1, Cuts: one, Kept: records(1, 2, 71), Buffer: records(1, 1, 70)})
	sync(t, v, 0)
	segmentAt(t, v, 0, api.Segment{Up: true, Epoch: 1, Scl: 2, Cuts: one, Kept: records(1, 1, 70, 71)})
}

func TestP9Epochs(t *testing.T) {
	v := fresh(t, 100)
	open(t, v, 1)
	arrive(t, v)
	appends(t, v, 1, 70, 1, api.OK)
	open(t, v, 2)
	deliver(t, v, 6) // segment 0 is fenced by writer 2, and not yet cut
	lose(t, v)
	g := api.Segment{Up: true, Epoch: 2, Cuts: []api.Cut{{Epoch: 1}}}
	segmentAt(t, v, 0, g)
	// above the top, and at the segment's epoch
	v.net.Send(write(2, 0, 1, 80))
	deliver(t, v, 0)
	inFlight(t, v)
	segmentAt(t, v, 0, g)
	// below the segment's epoch, and at the top
	resend(t, v, 1, api.OK)
	deliver(t, v, 0)
	if m, _ := v.Message(v.Flight() - 1); !reflect.DeepEqual(m, refused(0, 1, 2)) {
		t.Fatalf("P9: an older MWrite is answered by %+v", m)
	}
	segmentAt(t, v, 0, g)
	lose(t, v)
	// above the segment's epoch
	v.net.Send(write(2, 1, 1, 80))
	deliver(t, v, 0)
	inFlight(t, v)
	segmentAt(t, v, 1, api.Segment{Up: true, Epoch: 1, Cuts: []api.Cut{{Epoch: 1}}})
}

func TestP9Resend(t *testing.T) {
	// P8: what is one above what is noted is sent again
	v := fresh(t, 100)
	open(t, v, 1)
	arrive(t, v)
	appends(t, v, 1, 70, 1, api.OK)
	appends(t, v, 1, 71, 2, api.OK)
	deliver(t, v, 8, 2) // both records at segment 2
	deliver(t, v, 0)    // record 1 at segment 0
	sync(t, v, 2, 0)
	deliver(t, v, 9, 9) // what they tell
	lose(t, v)
	resend(t, v, 1, api.OK)
	inFlight(t, v, write(1, 0, 2, 71), write(1, 1, 1, 70), write(1, 3, 1, 70), write(1, 4, 1, 70), write(1, 5, 1, 70))
	writerAt(t, v, 1, api.Open, 0, 2, 0)
}

func TestP10(t *testing.T) {
	v := fresh(t, 100)
	sync(t, v, 0, 1, 2, 3, 4, 5)
	inFlight(t, v) // the epoch is 0
	open(t, v, 1)
	deliver(t, v, 0)
	lose(t, v)
	sync(t, v, 0)
	inFlight(t, v) // fenced, without a cut
	resend(t, v, 1, api.OK)
	arrive(t, v)
	for s := range api.Segments {
		sync(t, v, s)
		inFlight(t, v, status(s, 1, 0))
		lose(t, v)
	}
	appends(t, v, 1, 70, 1, api.OK)
	deliver(t, v, 0)
	open(t, v, 2)
	deliver(t, v, 5)
	lose(t, v)
	sync(t, v, 0)
	inFlight(t, v) // its epoch is 2, its top 1
	segmentAt(t, v, 0, api.Segment{Up: true, Epoch: 2, Scl: 1, Cuts: []api.Cut{{Epoch: 1}}, Kept: records(1, 1, 70)})
	resend(t, v, 2, api.OK)
	arrive(t, v)
	sync(t, v, 0)
	inFlight(t, v, status(0, 2, 1)) // to the writer of the epoch alone
}

func TestP10Errors(t *testing.T) {
	v := fresh(t, 100)
	open(t, v, 1)
	arrive(t, v)
	appends(t, v, 1, 70, 1, api.OK)
	arrive(t, v)
	crash(t, v, 3)
	before := look(v)
	if e := v.Sync(3); e != api.ErrDown {
		t.Errorf("P10: Sync of a segment that is down = %d", e)
	}
	for _, s := range []int{least, -1, 6, 7, greatest} {
		if e := v.Sync(s); e != api.ErrSegment {
			t.Errorf("P10: Sync(%d) = %d", s, e)
		}
	}
	unchanged(t, v, before)
	sync(t, v, 2, 4)
	inFlight(t, v, status(2, 1, 1), status(4, 1, 1))
}

func TestP10NetworkFull(t *testing.T) {
	// what it has is kept, though the writer is not told
	v := freshWith(t, 8, 6)
	open(t, v, 1)
	arrive(t, v)
	resend(t, v, 1, api.OK) // MCut to segments 4 and 5 had no room
	arrive(t, v)
	appends(t, v, 1, 70, 1, api.OK)
	arrive(t, v)
	appends(t, v, 1, 71, 2, api.OK)
	all := writes(1, 2, 71)
	sync(t, v, 0, 1, 2, 3)
	inFlight(t, v, all...)
	for s := range 4 {
		segmentAt(t, v, s, api.Segment{Up: true, Epoch: 1, Scl: 1, Cuts: []api.Cut{{Epoch: 1}}, Kept: records(1, 1, 70)})
	}
	lose(t, v)
	writerAt(t, v, 1, api.Open, 0, 2, 0)
	// told when the record comes once more
	resend(t, v, 1, api.OK)
	inFlight(t, v, writes(1, 1, 70)...)
	arrive(t, v)
	writerAt(t, v, 1, api.Open, 0, 2, 1)
}
