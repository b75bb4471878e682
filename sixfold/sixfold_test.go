package sixfold

import (
	"math/rand"
	"reflect"
	"testing"

	"sixfold/api"
)

const (
	least    = -1 << 63
	greatest = 1<<63 - 1
)

func fresh(t *testing.T, flight int) *Volume {
	t.Helper()
	v, e := New(api.Config{Window: 2, Flight: flight})
	if v == nil || e != api.OK {
		t.Fatalf("P3: New = %v, %d", v, e)
	}
	return v
}

func open(t *testing.T, v *Volume, want int) {
	t.Helper()
	if n, e := v.Open(); n != want || e != api.OK {
		t.Fatalf("P6: Open = %d, %d, want %d", n, e, want)
	}
}

func deliver(t *testing.T, v *Volume, l ...int) {
	t.Helper()
	for _, k := range l {
		if e := v.Deliver(k); e != api.OK {
			t.Fatalf("P4: Deliver(%d) = %d", k, e)
		}
	}
}

// arrive lets all arrive that is in flight or is sent about it.
func arrive(t *testing.T, v *Volume) {
	t.Helper()
	for n := 0; v.Flight() > 0; n++ {
		if n > 5000 {
			t.Fatalf("P4: there is no end of messages")
		}
		deliver(t, v, 0)
	}
}

func resend(t *testing.T, v *Volume, w int, want api.Errno) {
	t.Helper()
	if e := v.Resend(w); e != want {
		t.Fatalf("P8: Resend(%d) = %d, want %d", w, e, want)
	}
}

// inFlight checks all messages, and so their order.
func inFlight(t *testing.T, v *Volume, want ...api.Message) {
	t.Helper()
	if n := v.Flight(); n != len(want) {
		t.Fatalf("P4: Flight = %d, want %d", n, len(want))
	}
	for k, w := range want {
		if m, e := v.Message(k); e != api.OK || !reflect.DeepEqual(m, w) {
			t.Fatalf("P4: Message(%d) = %+v, %d, want %+v", k, m, e, w)
		}
	}
}

func writerAt(t *testing.T, v *Volume, w, phase, base, next, durable int) {
	t.Helper()
	want := api.Writer{Phase: phase, Base: base, Next: next, Durable: durable}
	if got, e := v.Writer(w); got != want || e != api.OK {
		t.Fatalf("P5: Writer(%d) = %+v, %d, want %+v", w, got, e, want)
	}
}

func segmentAt(t *testing.T, v *Volume, s int, want api.Segment) {
	t.Helper()
	if got, e := v.Segment(s); e != api.OK || !reflect.DeepEqual(got, want) {
		t.Fatalf("P5: Segment(%d) = %+v, %d, want %+v", s, got, e, want)
	}
}

// picture is all that can be seen of a volume.
type picture struct {
	segments [api.Segments]api.Segment
	writers  []api.Writer
	messages []api.Message
}

func look(v *Volume) picture {
	var p picture
	for s := range p.segments {
		p.segments[s], _ = v.Segment(s)
	}
	for w := 1; ; w++ {
		x, e := v.Writer(w)
		if e != api.OK {
			break
		}
		p.writers = append(p.writers, x)
	}
	for k := range v.Flight() {
		m, _ := v.Message(k)
		p.messages = append(p.messages, m)
	}
	return p
}

func unchanged(t *testing.T, v *Volume, before picture) {
	t.Helper()
	if after := look(v); !reflect.DeepEqual(before, after) {
		t.Fatalf("changed from %+v to %+v", before, after)
	}
}

func fence(w, s int) api.Message {
	return api.Message{Kind: api.MFence, From: w, To: s, Epoch: w}
}

func fenced(s, w int) api.Message {
	return api.Message{Kind: api.MFenced, From: s, To: w, Epoch: w}
}

func cut(w, s int, list ...api.Cut) api.Message {
	return api.Message{Kind: api.MCut, From: w, To: s, Epoch: w, Cuts: list}
}

func status(s, w, scl int) api.Message {
	return api.Message{Kind: api.MStatus, From: s, To: w, Epoch: w, Scl: scl}
}

func TestP1WrongNumbers(t *testing.T) {
	v := fresh(t, 20)
	open(t, v, 1)
	deliver(t, v, 0)
	open(t, v, 2)
	before := look(v)
	for _, k := range []int{least, -1, 12, 13, greatest} {
		if m, e := v.Message(k); !reflect.DeepEqual(m, api.Message{}) || e != api.ErrMessage {
			t.Errorf("P4: Message(%d) = %+v, %d", k, m, e)
		}
		for _, e := range []api.Errno{v.Deliver(k), v.Drop(k), v.Copy(k)} {
			if e != api.ErrMessage {
				t.Errorf("P4: at message %d: %d", k, e)
			}
		}
	}
	for _, s := range []int{least, -1, 6, 7, greatest} {
		if g, e := v.Segment(s); !reflect.DeepEqual(g, api.Segment{}) || e != api.ErrSegment {
			t.Errorf("P5: Segment(%d) = %+v, %d", s, g, e)
		}
	}
	for _, w := range []int{least, -1, 0, 3, 9, greatest} {
		if x, e := v.Writer(w); x != (api.Writer{}) || e != api.ErrWriter {
			t.Errorf("P5: Writer(%d) = %+v, %d", w, x, e)
		}
		resend(t, v, w, api.ErrWriter)
	}
	unchanged(t, v, before)
}

func TestP1OtherCallsEnd(t *testing.T) {
	v := fresh(t, 20)
	open(t, v, 1)
	for _, n := range []int{least, -1, 0, 1, 5, 6, 40, 41, greatest} {
		for _, k := range []int{least, -1, 0, 1, 6, 41, greatest} {
			v.Append(n, k)
			v.Gossip(n, k)
			v.Read(n, k)
		}
		v.Sync(n)
		v.Crash(n)
		v.Restart(n)
	}
}

func TestP2Lists(t *testing.T) {
	v := fresh(t, 100)
	open(t, v, 1)
	arrive(t, v)
	open(t, v, 2)
	deliver(t, v, 0, 0, 0, 0, 0, 0)
	v.Copy(0)
	v.net.Send(api.Message{Kind: api.MFenced, From: 5, To: 1, Epoch: 1, Cuts: []api.Cut{{Epoch: 1}}, Marks: []int{1, 1, 1}})
	before := look(v)
	a, b := look(v), look(v)
	for _, m := range a.messages {
		spoilCuts(m.Cuts)
		spoilMarks(m.Marks)
	}
	for _, s := range a.segments {
		spoilCuts(s.Cuts)
	}
	unchanged(t, v, before)
	if !reflect.DeepEqual(b, before) {
		t.Errorf("P2: the lists of two calls share room")
	}
	deliver(t, v, 0, 0, 0, 0)
	if m, _ := v.Message(v.Flight() - 1); !reflect.DeepEqual(m, cut(2, 5, api.Cut{Epoch: 1}, api.Cut{Epoch: 2})) {
		t.Errorf("P2: the writer's list is %+v", m)
	}
}

func TestP2ListsOfOneCall(t *testing.T) {
	// MCut of one writer to six segments: six lists
	v := fresh(t, 100)
	open(t, v, 1)
	deliver(t, v, 0, 0, 0, 0, 0, 0)
	deliver(t, v, 0, 0, 0, 0)
	before := look(v)
	m, _ := v.Message(2)
	spoilCuts(m.Cuts)
	unchanged(t, v, before)
	deliver(t, v, 2, 2)
	g, _ := v.Segment(0)
	spoilCuts(g.Cuts)
	segmentAt(t, v, 0, api.Segment{Up: true, Epoch: 1, Cuts: []api.Cut{{Epoch: 1}}})
	segmentAt(t, v, 1, api.Segment{Up: true, Epoch: 1, Cuts: []api.Cut{{Epoch: 1}}})
}

// spoilCuts writes into a list and into its spare room.
func spoilCuts(l []api.Cut) {
	l = l[:cap(l)]
	for i := range l {
		l[i] = api.Cut{Epoch: 77, At: 77}
	}
}

func spoilMarks(l []int) {
	l = l[:cap(l)]
	for i := range l {
		l[i] = 77
	}
}

func TestP2Volumes(t *testing.T) {
	v, u := fresh(t, 100), fresh(t, 100)
	open(t, v, 1)
	arrive(t, v)
	open(t, v, 2)
	unchanged(t, u, look(fresh(t, 100)))
	before := look(v)
	open(t, u, 1)
	deliver(t, u, 3, 2)
	unchanged(t, v, before)
}

func TestP3(t *testing.T) {
	for _, c := range []api.Config{
		{}, {Window: 0, Flight: 1}, {Window: 1, Flight: 0}, {Window: -1, Flight: 5}, {Window: 5, Flight: -1},
		{Window: api.MaxWindow + 1, Flight: 5}, {Window: 5, Flight: api.MaxFlight + 1},
		{Window: least, Flight: 5}, {Window: greatest, Flight: 5}, {Window: 5, Flight: least}, {Window: 5, Flight: greatest},
	} {
		if v, e := New(c); v != nil || e != api.ErrConfig {
			t.Errorf("P3: New(%+v) = %v, %d", c, v, e)
		}
	}
	for _, c := range []api.Config{{Window: 1, Flight: 1}, {Window: api.MaxWindow, Flight: api.MaxFlight}, {Window: 1, Flight: api.MaxFlight}, {Window: api.MaxWindow, Flight: 1}} {
		v, e := New(c)
		if v == nil || e != api.OK {
			t.Fatalf("P3: New(%+v) = %v, %d", c, v, e)
		}
		for s := range api.Segments {
			segmentAt(t, v, s, api.Segment{Up: true})
		}
		if _, e := v.Writer(1); e != api.ErrWriter {
			t.Errorf("P3: Writer(1) of a new volume is %d", e)
		}
		inFlight(t, v)
	}
}

func TestP4Network(t *testing.T) {
	v := fresh(t, 100)
	open(t, v, 1)
	inFlight(t, v, fence(1, 0), fence(1, 1), fence(1, 2), fence(1, 3), fence(1, 4), fence(1, 5))
	before := look(v)
	if e := v.Drop(1); e != api.OK {
		t.Fatalf("P4: Drop = %d", e)
	}
	inFlight(t, v, fence(1, 0), fence(1, 2), fence(1, 3), fence(1, 4), fence(1, 5))
	if after := look(v); !reflect.DeepEqual(after.segments, before.segments) || !reflect.DeepEqual(after.writers, before.writers) {
		t.Errorf("P4: what is dropped arrives")
	}
	if e := v.Copy(1); e != api.OK {
		t.Fatalf("P4: Copy = %d", e)
	}
	inFlight(t, v, fence(1, 0), fence(1, 2), fence(1, 3), fence(1, 4), fence(1, 5), fence(1, 2))
	deliver(t, v, 4)
	inFlight(t, v, fence(1, 0), fence(1, 2), fence(1, 3), fence(1, 4), fence(1, 2), fenced(5, 1))
	v.Drop(5)
	v.Drop(0)
	inFlight(t, v, fence(1, 2), fence(1, 3), fence(1, 4), fence(1, 2))
}

func TestP4Full(t *testing.T) {
	v := fresh(t, 8)
	open(t, v, 1)
	open(t, v, 2)
	all := []api.Message{fence(1, 0), fence(1, 1), fence(1, 2), fence(1, 3), fence(1, 4), fence(1, 5), fence(2, 0), fence(2, 1)}
	inFlight(t, v, all...)
	if e := v.Copy(3); e != api.OK {
		t.Errorf("P4: Copy into a full network = %d", e)
	}
	resend(t, v, 1, api.OK)
	inFlight(t, v, all...)
	// what arrives makes room for its answer
	deliver(t, v, 0)
	inFlight(t, v, append(all[1:len(all):len(all)], fenced(0, 1))...)
}

func TestP4MostFlight(t *testing.T) {
	v := fresh(t, api.MaxFlight)
	open(t, v, 1)
	for range api.MaxFlight {
		v.Copy(0)
	}
	if n := v.Flight(); n != api.MaxFlight {
		t.Fatalf("P4: Flight = %d, want %d", n, api.MaxFlight)
	}
	if m, e := v.Message(api.MaxFlight - 1); e != api.OK || !reflect.DeepEqual(m, fence(1, 0)) {
		t.Errorf("P4: the last message is %+v, %d", m, e)
	}
	if _, e := v.Message(api.MaxFlight); e != api.ErrMessage {
		t.Errorf("P4: Message(%d) = %d", api.MaxFlight, e)
	}
}

func TestP5Examples(t *testing.T) {
	// examples 1 and 2
	v := fresh(t, 100)
	open(t, v, 1)
	writerAt(t, v, 1, api.Fencing, 0, 0, 0)
	deliver(t, v, 2)
	inFlight(t, v, fence(1, 0), fence(1, 1), fence(1, 3), fence(1, 4), fence(1, 5), fenced(2, 1))
	segmentAt(t, v, 2, api.Segment{Up: true, Epoch: 1})
	arrive(t, v)
	writerAt(t, v, 1, api.Open, 0, 0, 0)
	for s := range api.Segments {
		segmentAt(t, v, s, api.Segment{Up: true, Epoch: 1, Cuts: []api.Cut{{Epoch: 1}}})
	}
}

func TestP6Many(t *testing.T) {
	v := fresh(t, api.MaxFlight)
	var want []api.Message
	for w := 1; w <= api.MaxWriters; w++ {
		open(t, v, w)
		for s := range api.Segments {
			want = append(want, fence(w, s))
		}
	}
	inFlight(t, v, want...)
	before := look(v)
	for range 2 {
		if n, e := v.Open(); n != 0 || e != api.ErrMany {
			t.Fatalf("P6: Open = %d, %d", n, e)
		}
	}
	unchanged(t, v, before)
	arrive(t, v)
	for w := 1; w < api.MaxWriters; w++ {
		writerAt(t, v, w, api.Fenced, 0, 0, 0)
	}
	writerAt(t, v, api.MaxWriters, api.Open, 0, 0, 0)
}

func TestP6Refused(t *testing.T) {
	v := fresh(t, 100)
	open(t, v, 1)
	open(t, v, 2)
	deliver(t, v, 6) // MFence of 2 at segment 0
	deliver(t, v, 0) // MFence of 1 there
	refused := api.Message{Kind: api.MRefused, From: 0, To: 1, Epoch: 2}
	if m, _ := v.Message(v.Flight() - 1); !reflect.DeepEqual(m, refused) {
		t.Fatalf("P6: an older MFence is answered by %+v", m)
	}
	segmentAt(t, v, 0, api.Segment{Up: true, Epoch: 2})
	writerAt(t, v, 1, api.Fencing, 0, 0, 0)
	deliver(t, v, v.Flight()-1)
	writerAt(t, v, 1, api.Fenced, 0, 0, 0)
	writerAt(t, v, 2, api.Fencing, 0, 0, 0)
	before := look(v)
	resend(t, v, 1, api.ErrFenced)
	unchanged(t, v, before)
	arrive(t, v)
	writerAt(t, v, 1, api.Fenced, 0, 0, 0)
	writerAt(t, v, 2, api.Open, 0, 0, 0)
}

func TestP6RefusedWhenOpen(t *testing.T) {
	v := fresh(t, 100)
	open(t, v, 1)
	arrive(t, v)
	open(t, v, 2)
	arrive(t, v)
	writerAt(t, v, 1, api.Open, 0, 0, 0) // it does not know yet
	v.net.Send(cut(1, 3, api.Cut{Epoch: 1}))
	deliver(t, v, 0)
	inFlight(t, v, api.Message{Kind: api.MRefused, From: 3, To: 1, Epoch: 2})
	deliver(t, v, 0)
	writerAt(t, v, 1, api.Fenced, 0, 0, 0)
	segmentAt(t, v, 3, api.Segment{Up: true, Epoch: 2, Cuts: []api.Cut{{Epoch: 1}, {Epoch: 2}}})
}

func TestP7TakingOver(t *testing.T) {
	v := fresh(t, 100)
	open(t, v, 1)
	arrive(t, v)
	open(t, v, 2)
	for v.Flight() > 0 {
		v.Drop(0)
	}
	// as if three segments had kept records of writer 1
	for s, marks := range [][]int{{1}, {1, 1, 1}, {1, 1}, nil} {
		writerAt(t, v, 2, api.Fencing, 0, 0, 0)
		m := fenced(s, 2)
		m.Cuts = []api.Cut{{Epoch: 1}}
		m.Marks = marks
		v.net.Send(m)
		deliver(t, v, 0)
	}
	writerAt(t, v, 2, api.Cutting, 3, 3, 0)
	var want []api.Message
	for s := range api.Segments {
		want = append(want, cut(2, s, api.Cut{Epoch: 1}, api.Cut{Epoch: 2, At: 3}))
	}
	inFlight(t, v, want...)
	for s := range api.Segments {
		deliver(t, v, 0)
		segmentAt(t, v, s, api.Segment{Up: true, Epoch: 2, Cuts: []api.Cut{{Epoch: 1}, {Epoch: 2, At: 3}}})
	}
	arrive(t, v)
	// all have answered, none has the three records
	writerAt(t, v, 2, api.Cutting, 3, 3, 0)
	for s, scl := range []int{3, 2, 3, 3, 3} {
		writerAt(t, v, 2, api.Cutting, 3, 3, 0)
		v.net.Send(status(s, 2, scl))
		deliver(t, v, 0)
	}
	writerAt(t, v, 2, api.Open, 3, 3, 3)
}

func TestP7Chain(t *testing.T) {
	// writer 1 cuts segments 4 and 5 alone; writer 2 hears of one of these
	v := fresh(t, 100)
	open(t, v, 1)
	deliver(t, v, 0, 0, 0, 0, 0, 0)
	deliver(t, v, 0, 0, 0, 0)
	deliver(t, v, 7, 6)
	for v.Flight() > 0 {
		v.Drop(0)
	}
	open(t, v, 2)
	deliver(t, v, 1, 1, 1, 1) // segments 1 to 4
	deliver(t, v, 2, 2, 2, 2)
	writerAt(t, v, 2, api.Cutting, 0, 0, 0)
	arrive(t, v)
	for s := range api.Segments {
		segmentAt(t, v, s, api.Segment{Up: true, Epoch: 2, Cuts: []api.Cut{{Epoch: 1}, {Epoch: 2}}})
	}
	writerAt(t, v, 2, api.Open, 0, 0, 0)
}

func TestP7CutsOverrun(t *testing.T) {
	// only as many MCut are sent as there is room for
	v := fresh(t, 4)
	open(t, v, 1)
	deliver(t, v, 0, 0, 0, 0)
	deliver(t, v, 0, 0, 0)
	v.Copy(0)
	inFlight(t, v, fenced(3, 1), fenced(3, 1))
	deliver(t, v, 0)
	inFlight(t, v, fenced(3, 1), cut(1, 0, api.Cut{Epoch: 1}), cut(1, 1, api.Cut{Epoch: 1}), cut(1, 2, api.Cut{Epoch: 1}))
}

func TestP8(t *testing.T) {
	v := fresh(t, 100)
	open(t, v, 1)
	deliver(t, v, 0, 3) // MFence at segments 0 and 4
	deliver(t, v, 5, 4) // their answers
	for v.Flight() > 0 {
		v.Drop(0)
	}
	resend(t, v, 1, api.OK)
	inFlight(t, v, fence(1, 1), fence(1, 2), fence(1, 3), fence(1, 5))
	writerAt(t, v, 1, api.Fencing, 0, 0, 0)
	deliver(t, v, 0, 0) // MFence at segments 1 and 2
	deliver(t, v, 2, 2) // their answers
	inFlight(t, v, fence(1, 3), fence(1, 5), cut(1, 0, api.Cut{Epoch: 1}), cut(1, 1, api.Cut{Epoch: 1}), cut(1, 2, api.Cut{Epoch: 1}), cut(1, 3, api.Cut{Epoch: 1}), cut(1, 4, api.Cut{Epoch: 1}), cut(1, 5, api.Cut{Epoch: 1}))
	deliver(t, v, 6, 6) // MCut at segments 4 and 5
	deliver(t, v, 6)    // the answer of segment 4
	for v.Flight() > 0 {
		v.Drop(0)
	}
	resend(t, v, 1, api.OK)
	inFlight(t, v, cut(1, 0, api.Cut{Epoch: 1}), cut(1, 1, api.Cut{Epoch: 1}), cut(1, 2, api.Cut{Epoch: 1}), cut(1, 3, api.Cut{Epoch: 1}), cut(1, 5, api.Cut{Epoch: 1}))
	deliver(t, v, 0, 0, 0) // MCut at segments 0, 1 and 2
	deliver(t, v, 2, 2, 2) // their answers
	writerAt(t, v, 1, api.Open, 0, 0, 0)
	for v.Flight() > 0 {
		v.Drop(0)
	}
	resend(t, v, 1, api.OK)
	inFlight(t, v, cut(1, 3, api.Cut{Epoch: 1}), cut(1, 5, api.Cut{Epoch: 1})) // 5's answer was lost, 3's not yet given
	arrive(t, v)
	resend(t, v, 1, api.OK)
	inFlight(t, v)
}

func TestP8LittleRoom(t *testing.T) {
	// example 7
	v := fresh(t, 1)
	open(t, v, 1)
	inFlight(t, v, fence(1, 0))
	deliver(t, v, 0)
	inFlight(t, v, fenced(0, 1))
	deliver(t, v, 0)
	inFlight(t, v)
	resend(t, v, 1, api.OK)
	inFlight(t, v, fence(1, 1))
	for range 40 {
		arrive(t, v)
		resend(t, v, 1, api.OK)
	}
	writerAt(t, v, 1, api.Open, 0, 0, 0)
}

// steady fails if what may only rise has fallen.
func steady(t *testing.T, a, b picture) {
	t.Helper()
	for s := range a.segments {
		x, y := a.segments[s], b.segments[s]
		if y.Epoch < x.Epoch || !y.Up {
			t.Fatalf("segment %d went from %+v to %+v", s, x, y)
		}
		for i := 1; i < len(y.Cuts); i++ {
			if y.Cuts[i].Epoch <= y.Cuts[i-1].Epoch {
				t.Fatalf("the epochs of segment %d do not rise: %v", s, y.Cuts)
			}
		}
	}
	for w := range a.writers {
		x, y := a.writers[w], b.writers[w]
		if y.Phase < x.Phase || y.Base < x.Base || y.Next < x.Next || y.Durable < x.Durable {
			t.Fatalf("writer %d went from %+v to %+v", w+1, x, y)
		}
		if x.Phase == api.Fenced && x != y {
			t.Fatalf("writer %d went from %+v to %+v", w+1, x, y)
		}
	}
}

// step does one thing that is drawn.
func step(r *rand.Rand, v *Volume) {
	k := r.Intn(v.Flight() + 1)
	switch r.Intn(12) {
	case 0:
		v.Drop(k)
	case 1:
		v.Copy(k)
	case 2:
		v.Resend(r.Intn(api.MaxWriters + 2))
	case 3:
		if r.Intn(4) == 0 {
			v.Open()
		}
	default:
		v.Deliver(k)
	}
}

func TestDrawn(t *testing.T) {
	r := rand.New(rand.NewSource(7))
	for range 100 {
		room := 1 + r.Intn(50)
		v := fresh(t, room)
		open(t, v, 1)
		last := look(v)
		for range 300 {
			step(r, v)
			now := look(v)
			steady(t, last, now)
			if n := len(now.messages); n > room || n != v.Flight() {
				t.Fatalf("P4: %d messages in flight, room for %d", n, room)
			}
			last = now
		}
		n := len(last.writers)
		for range 40 {
			arrive(t, v)
			resend(t, v, n, api.OK)
		}
		arrive(t, v)
		writerAt(t, v, n, api.Open, 0, 0, 0)
	}
}

func TestSameStepsSameVolume(t *testing.T) {
	v, u := fresh(t, 30), fresh(t, 30)
	a, b := rand.New(rand.NewSource(3)), rand.New(rand.NewSource(3))
	open(t, v, 1)
	open(t, u, 1)
	for range 500 {
		step(a, v)
		step(b, u)
		unchanged(t, u, look(v))
	}
}
