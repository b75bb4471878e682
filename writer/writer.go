// Package writer is one writer of the log: what it is at, and what it does with a message.
package writer

import (
	"sixfold/api"
	"sixfold/cuts"
)

// note is what one segment told by MFenced.
type note struct {
	from  int
	cuts  []api.Cut
	marks []int
}

// Writer is one writer. The values are those of the records that it appended, base+1 to next; heard and noted are of MStatus, by segments.
type Writer struct {
	number                     int
	phase, base, next, durable int
	notes                      []note
	cuts                       []api.Cut
	values                     []int
	heard                      [api.Segments]bool
	noted                      [api.Segments]int
}

// New makes a writer that is Fencing and has heard of no segment.
func New(number int) Writer {
	return Writer{number: number, phase: api.Fencing}
}

// State tells what the writer is at.
func (w *Writer) State() api.Writer {
	return api.Writer{Phase: w.phase, Base: w.base, Next: w.next, Durable: w.durable}
}

// Fenced tells whether a newer writer has fenced this one off.
func (w *Writer) Fenced() bool {
	return w.phase == api.Fenced
}

// Stop fences the writer off. It sends nothing any more, so what it would send is not kept.
func (w *Writer) Stop() {
	w.phase = api.Fenced
	w.notes = nil
	w.cuts = nil
	w.values = nil
}

// Due is what the writer has no answer to yet, in the order of the segments.
func (w *Writer) Due() []api.Message {
	var list []api.Message
	for s := 0; s < api.Segments; s++ {
		m, due := w.dueTo(s)
		if due {
			list = append(list, m)
		}
	}
	return list
}

// Append puts a record at the end of the log, and gives its number. The window is how many records may be under way.
func (w *Writer) Append(value int, window int) (int, api.Errno) {
	if w.phase == api.Fenced {
		return 0, api.ErrFenced
	}
	if w.phase != api.Open {
		return 0, api.ErrClosed
	}
	if w.next >= api.MaxLog {
		return 0, api.ErrFull
	}
	if w.next >= w.durable+window {
		return 0, api.ErrWindow
	}
	w.values = append(w.values, value)
	w.next++
	return w.next, api.OK
}

// Writes is MWrite of a record to each segment, if this writer has appended the record.
func (w *Writer) Writes(lsn int) []api.Message {
	var list []api.Message
	for s := 0; s < api.Segments; s++ {
		m, appended := w.write(s, lsn)
		if appended {
			list = append(list, m)
		}
	}
	return list
}

// Readable is OK if the record is durable by what the writer knows, else what stands against reading it.
func (w *Writer) Readable(lsn int) api.Errno {
	if w.phase == api.Fenced {
		return api.ErrFenced
	}
	if w.phase != api.Open {
		return api.ErrClosed
	}
	if lsn < 1 || lsn > w.durable {
		return api.ErrNone
	}
	return api.OK
}

// Reaches tells whether the writer has noted that a segment goes as far as this record.
func (w *Writer) Reaches(s int, lsn int) bool {
	if s < 0 || s >= api.Segments {
		return false
	}
	return w.noted[s] >= lsn
}

// Arrive does what a message does at the writer, and gives what is to be sent then.
func (w *Writer) Arrive(m api.Message) []api.Message {
	if m.From < 0 || m.From >= api.Segments {
		return nil
	}
	switch m.Kind {
	case api.MFenced:
		return w.hearFenced(m)
	case api.MStatus:
		w.hearStatus(m)
	case api.MRefused:
		w.Stop()
	}
	return nil
}

func (w *Writer) hearFenced(m api.Message) []api.Message {
	if w.phase != api.Fencing || w.hasNote(m.From) {
		return nil
	}
	n := note{from: m.From}
	n.cuts = cuts.Copy(m.Cuts)
	n.marks = cuts.CopyMarks(m.Marks)
	w.notes = append(w.notes, n)
	if len(w.notes) < api.Quorum {
		return nil
	}
	w.decide()
	// Nobody has answered MCut yet, so it is due to all six.
	return w.Due()
}

func (w *Writer) hasNote(s int) bool {
	for _, n := range w.notes {
		if n.from == s {
			return true
		}
	}
	return false
}

// decide finds out how far the log goes, and begins cutting there.
func (w *Writer) decide() {
	list := newest(w.notes)
	base := 0
	for _, n := range w.notes {
		reach := cuts.Reach(list, n.marks)
		if reach > base {
			base = reach
		}
	}
	list = append(list, api.Cut{Epoch: w.number, At: base})
	w.cuts = list
	w.base = base
	w.next = base
	w.phase = api.Cutting
	w.notes = nil
}

// newest is a copy of a noted list of cuts with the greatest top.
func newest(notes []note) []api.Cut {
	var list []api.Cut
	for _, n := range notes {
		if cuts.Top(n.cuts) > cuts.Top(list) {
			list = n.cuts
		}
	}
	return cuts.Copy(list)
}

func (w *Writer) hearStatus(m api.Message) {
	if w.phase != api.Cutting && w.phase != api.Open {
		return
	}
	w.heard[m.From] = true
	if m.Scl > w.noted[m.From] {
		w.noted[m.From] = m.Scl
	}
	if w.phase == api.Cutting && w.ready() {
		w.phase = api.Open
	}
	if w.phase == api.Open {
		w.durable = w.agreed()
	}
}

// ready tells whether enough segments have answered MCut and have the whole log. That 0 is noted at first is no answer.
func (w *Writer) ready() bool {
	count := 0
	for s := 0; s < api.Segments; s++ {
		if w.heard[s] && w.noted[s] >= w.base {
			count++
		}
	}
	return count >= api.Quorum
}

// agreed is the greatest number that enough segments reach.
func (w *Writer) agreed() int {
	best := 0
	for _, n := range w.noted {
		if n > best && w.reaching(n) >= api.Quorum {
			best = n
		}
	}
	return best
}

func (w *Writer) reaching(n int) int {
	count := 0
	for _, scl := range w.noted {
		if scl >= n {
			count++
		}
	}
	return count
}

// dueTo is what the writer has no answer to yet from one segment.
func (w *Writer) dueTo(s int) (api.Message, bool) {
	switch w.phase {
	case api.Fencing:
		return api.Message{Kind: api.MFence, From: w.number, To: s, Epoch: w.number}, !w.hasNote(s)
	case api.Cutting, api.Open:
		if !w.heard[s] {
			return api.Message{Kind: api.MCut, From: w.number, To: s, Epoch: w.number, Cuts: w.cuts}, true
		}
		return w.write(s, w.noted[s]+1)
	}
	return api.Message{}, false
}

// write is MWrite of a record to a segment, if this writer has appended the record.
func (w *Writer) write(s int, lsn int) (api.Message, bool) {
	i := lsn - w.base - 1
	if i < 0 || i >= len(w.values) {
		return api.Message{}, false
	}
	return api.Message{Kind: api.MWrite, From: w.number, To: s, Epoch: w.number, Lsn: lsn, Value: w.values[i]}, true
}
