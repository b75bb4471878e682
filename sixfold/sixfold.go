// Package sixfold: a log that one writer keeps on six stores, any two of which may be lost: see DOC.md.
package sixfold

import (
	"sixfold/api"
	"sixfold/network"
	"sixfold/segment"
	"sixfold/writer"
)

// Volume is six segments, the writers, and the network between them.
type Volume struct {
	window   int
	net      network.Network
	segments [api.Segments]segment.Segment
	writers  []writer.Writer
}

// New makes a volume (P3).
func New(c api.Config) (*Volume, api.Errno) {
	if c.Window < 1 || c.Window > api.MaxWindow {
		return nil, api.ErrConfig
	}
	if c.Flight < 1 || c.Flight > api.MaxFlight {
		return nil, api.ErrConfig
	}
	v := &Volume{window: c.Window}
	v.net = network.New(c.Flight)
	for s := 0; s < api.Segments; s++ {
		v.segments[s] = segment.New()
	}
	return v, api.OK
}

// Flight tells how many messages are in flight (P4).
func (v *Volume) Flight() int {
	return v.net.Flight()
}

// Message tells the k-th message in flight (P4).
func (v *Volume) Message(k int) (api.Message, api.Errno) {
	m, found := v.net.Look(k)
	if !found {
		return api.Message{}, api.ErrMessage
	}
	return m, api.OK
}

// Deliver lets the k-th message arrive (P4).
func (v *Volume) Deliver(k int) api.Errno {
	m, found := v.net.Take(k)
	if !found {
		return api.ErrMessage
	}
	switch m.Kind {
	case api.MFenced, api.MStatus, api.MRefused:
		v.arriveAtWriter(m)
	default:
		v.arriveAtSegment(m)
	}
	return api.OK
}

// Drop loses the k-th message (P4).
func (v *Volume) Drop(k int) api.Errno {
	_, found := v.net.Take(k)
	if !found {
		return api.ErrMessage
	}
	return api.OK
}

// Copy sends the k-th message once more (P4).
func (v *Volume) Copy(k int) api.Errno {
	m, found := v.net.Look(k)
	if !found {
		return api.ErrMessage
	}
	v.net.Send(m)
	return api.OK
}

// Segment tells what a segment is at (P5).
func (v *Volume) Segment(s int) (api.Segment, api.Errno) {
	if !isSegment(s) {
		return api.Segment{}, api.ErrSegment
	}
	return v.segments[s].State(), api.OK
}

// Writer tells what a writer is at (P5).
func (v *Volume) Writer(w int) (api.Writer, api.Errno) {
	if !v.isWriter(w) {
		return api.Writer{}, api.ErrWriter
	}
	return v.writers[w-1].State(), api.OK
}

// Open begins a new writer (P6).
func (v *Volume) Open() (int, api.Errno) {
	if len(v.writers) >= api.MaxWriters {
		return 0, api.ErrMany
	}
	number := len(v.writers) + 1
	w := writer.New(number)
	v.writers = append(v.writers, w)
	// Of a new writer MFence is due to all six.
	due := w.Due()
	v.sendAll(due)
	return number, api.OK
}

// Resend sends once more what a writer has no answer to (P8).
func (v *Volume) Resend(w int) api.Errno {
	if !v.isWriter(w) {
		return api.ErrWriter
	}
	if v.writers[w-1].Fenced() {
		return api.ErrFenced
	}
	due := v.writers[w-1].Due()
	v.sendAll(due)
	return api.OK
}

// Append writes a record (P9).
func (v *Volume) Append(w int, value int) (int, api.Errno) {
	if !v.isWriter(w) {
		return 0, api.ErrWriter
	}
	lsn, e := v.writers[w-1].Append(value, v.window)
	if e != api.OK {
		return 0, e
	}
	writes := v.writers[w-1].Writes(lsn)
	v.sendAll(writes)
	return lsn, api.OK
}

// Sync keeps what a segment has in its buffer (P10).
func (v *Volume) Sync(s int) api.Errno {
	if !isSegment(s) {
		return api.ErrSegment
	}
	if v.segments[s].Down() {
		return api.ErrDown
	}
	m, sent := v.segments[s].Sync(s)
	if sent {
		v.net.Send(m)
	}
	return api.OK
}

// Gossip lets segment a ask segment b for its next record (P11).
func (v *Volume) Gossip(a int, b int) api.Errno {
	if !isSegment(a) || !isSegment(b) || a == b {
		return api.ErrSegment
	}
	if v.segments[a].Down() {
		return api.ErrDown
	}
	m := v.segments[a].Need(a, b)
	v.net.Send(m)
	return api.OK
}

// Crash takes a segment down (P12).
func (v *Volume) Crash(s int) api.Errno {
	if !isSegment(s) {
		return api.ErrSegment
	}
	if v.segments[s].Down() {
		return api.ErrDown
	}
	v.segments[s].Crash()
	return api.OK
}

// Restart takes a segment up (P12).
func (v *Volume) Restart(s int) api.Errno {
	if !isSegment(s) {
		return api.ErrSegment
	}
	if !v.segments[s].Down() {
		return api.ErrUp
	}
	v.segments[s].Restart()
	return api.OK
}

// Read tells the value of a record (P13).
func (v *Volume) Read(w int, lsn int) (int, api.Errno) {
	if !v.isWriter(w) {
		return 0, api.ErrWriter
	}
	e := v.writers[w-1].Readable(lsn)
	if e != api.OK {
		return 0, e
	}
	for s := 0; s < api.Segments; s++ {
		reaches := v.writers[w-1].Reaches(s, lsn)
		if !reaches || v.segments[s].Down() {
			continue
		}
		if v.segments[s].Newer(w) {
			v.writers[w-1].Stop()
			return 0, api.ErrFenced
		}
		return v.segments[s].Value(lsn), api.OK
	}
	return 0, api.ErrDown
}

func isSegment(s int) bool {
	return s >= 0 && s < api.Segments
}

func (v *Volume) isWriter(w int) bool {
	return w >= 1 && w <= len(v.writers)
}

func (v *Volume) arriveAtSegment(m api.Message) {
	if !isSegment(m.To) {
		return
	}
	answer, sent := v.segments[m.To].Arrive(m)
	if sent {
		v.net.Send(answer)
	}
}

func (v *Volume) arriveAtWriter(m api.Message) {
	if !v.isWriter(m.To) {
		return
	}
	sent := v.writers[m.To-1].Arrive(m)
	v.sendAll(sent)
}

func (v *Volume) sendAll(list []api.Message) {
	for _, m := range list {
		v.net.Send(m)
	}
}
