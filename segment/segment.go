// Package segment is one of the six stores: what it has, and what it does with a message.
package segment

import (
	"sixfold/api"
	"sixfold/cuts"
)

// Where the record of a place is; 0 is nowhere. One place for both: a segment never has two records of one number.
const (
	buffered = 1
	kept     = 2
)

type place struct {
	state, epoch, value int
}

// Segment is one store. The record n stands at places[n-1].
type Segment struct {
	up     bool
	epoch  int
	cuts   []api.Cut
	places [api.MaxLog]place
}

// New makes a segment that is up and has nothing.
func New() Segment {
	return Segment{up: true}
}

// State tells what the segment is at, in fresh lists.
func (s *Segment) State() api.Segment {
	state := api.Segment{Up: s.up, Epoch: s.epoch}
	state.Scl = s.scl()
	state.Cuts = cuts.Copy(s.cuts)
	state.Kept = s.records(kept)
	state.Buffer = s.records(buffered)
	return state
}

// Arrive does what a message does at the segment, and gives the answer, if there is one to be sent.
func (s *Segment) Arrive(m api.Message) (api.Message, bool) {
	if !s.up {
		return api.Message{}, false
	}
	switch m.Kind {
	case api.MFence:
		return s.fence(m), true
	case api.MCut:
		return s.cut(m), true
	case api.MWrite:
		return s.write(m)
	}
	return api.Message{}, false
}

// Down tells whether the segment is down.
func (s *Segment) Down() bool {
	return !s.up
}

// Sync keeps what is in the buffer, and gives the status that is to be sent, if the writer of the segment's epoch has cut here. A segment does not know its own number.
func (s *Segment) Sync(number int) (api.Message, bool) {
	for i := 0; i < api.MaxLog; i++ {
		if s.places[i].state == buffered {
			s.places[i].state = kept
		}
	}
	if s.epoch == 0 || s.epoch != cuts.Top(s.cuts) {
		return api.Message{}, false
	}
	return s.status(number, s.epoch), true
}

func (s *Segment) fence(m api.Message) api.Message {
	if m.Epoch < s.epoch {
		return s.refusal(m)
	}
	s.epoch = m.Epoch
	answer := api.Message{Kind: api.MFenced, From: m.To, To: m.From, Epoch: m.Epoch}
	answer.Cuts = s.cuts
	answer.Marks = s.marks()
	return answer
}

func (s *Segment) cut(m api.Message) api.Message {
	if m.Epoch < s.epoch {
		return s.refusal(m)
	}
	s.epoch = m.Epoch
	if cuts.Top(s.cuts) != m.Epoch {
		s.cuts = cuts.Copy(m.Cuts)
		s.forget()
	}
	return s.status(m.To, m.From)
}

// write takes a record into the buffer, and gives the answer, if there is one to be sent.
func (s *Segment) write(m api.Message) (api.Message, bool) {
	if m.Epoch < s.epoch {
		return s.refusal(m), true
	}
	if m.Epoch != s.epoch || m.Epoch != cuts.Top(s.cuts) {
		return api.Message{}, false
	}
	if m.Lsn < 1 || m.Lsn > api.MaxLog {
		return api.Message{}, false
	}
	i := m.Lsn - 1
	if s.places[i].state == kept {
		// The writer may have missed that it is kept.
		return s.status(m.To, m.From), true
	}
	if s.places[i].state != buffered {
		s.places[i] = place{state: buffered, epoch: m.Epoch, value: m.Value}
	}
	return api.Message{}, false
}

func (s *Segment) refusal(m api.Message) api.Message {
	return api.Message{Kind: api.MRefused, From: m.To, To: m.From, Epoch: s.epoch}
}

func (s *Segment) status(number int, writer int) api.Message {
	return api.Message{Kind: api.MStatus, From: number, To: writer, Epoch: writer, Scl: s.scl()}
}

// forget drops all records that are not good by the segment's list.
func (s *Segment) forget() {
	for i := 0; i < api.MaxLog; i++ {
		if !cuts.Good(s.cuts, i+1, s.places[i].epoch) {
			s.places[i] = place{}
		}
	}
}

// scl is the greatest n such that the records 1 to n are kept.
func (s *Segment) scl() int {
	n := 0
	for n < api.MaxLog && s.places[n].state == kept {
		n++
	}
	return n
}

// marks are the epochs of the kept records 1 to the segment's SCL.
func (s *Segment) marks() []int {
	var list []int
	for i := 0; i < api.MaxLog && s.places[i].state == kept; i++ {
		list = append(list, s.places[i].epoch)
	}
	return list
}

// records are those of one state, by rising numbers.
func (s *Segment) records(state int) []api.Record {
	var list []api.Record
	for i, p := range s.places {
		if p.state == state {
			list = append(list, api.Record{Lsn: i + 1, Epoch: p.epoch, Value: p.value})
		}
	}
	return list
}
