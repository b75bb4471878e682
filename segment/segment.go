// Package segment is one of the six stores: what it has, and what it does with a message.
package segment

import (
	"sixfold/api"
	"sixfold/cuts"
)

// Where the record of a place is; 0 is nowhere. One place for both: a segment never has two records of one number.
const (
	buffered = 1
	kept     = 2
)

type place struct {
	state, epoch, value int
}

// Segment is one store. The record n stands at places[n-1].
type Segment struct {
	up     bool
	epoch  int
	cuts   []api.Cut
	places [api.MaxLog]place
}

// New makes a segment that is up and has nothing.
func New() Segment {
	return Segment{up: true}
}

// State tells what the segment is at, in fresh lists.
func (s *Segment) State() api.Segment {
	state := api.Segment{Up: s.up, Epoch: s.epoch}
	state.Scl = s.scl()
	state.Cuts = cuts.Copy(s.cuts)
	state.Kept = s.records(kept)
	state.Buffer = s.records(buffered)
	return state
}

// Arrive does what a message does at the segment, and gives the answer, if there is one to be sent.
func (s *Segment) Arrive(m api.Message) (api.Message, bool) {
	if !s.up {
		return api.Message{}, false
	}
	switch m.Kind {
	case api.MFence:
		return s.fence(m), true
	case api.MCut:
		return s.cut(m), true
	case api.MWrite:
		return s.write(m)
	case api.MNeed:
		return s.give(m)
	case api.MFill:
		s.fill(m)
	}
	return api.Message{}, false
}

// Down tells whether the segment is down.
func (s *Segment) Down() bool {
	return !s.up
}

// Crash takes the segment down; only what is kept outlasts it.
func (s *Segment) Crash() {
	s.up = false
	for i := 0; i < api.MaxLog; i++ {
		if s.places[i].state == buffered {
			s.places[i] = place{}
		}
	}
}

// Restart takes the segment up.
func (s *Segment) Restart() {
	s.up = true
}

// Newer tells whether a writer above this number has been here.
func (s *Segment) Newer(writer int) bool {
	return s.epoch > writer
}

// Value is the value of a record that the segment has kept, 0 if it has not.
func (s *Segment) Value(lsn int) int {
	p := s.at(lsn)
	if p.state != kept {
		return 0
	}
	return p.value
}

// Need asks another segment for the first record that is not kept here; of a full log that is one that nobody has.
func (s *Segment) Need(number int, other int) api.Message {
	return api.Message{Kind: api.MNeed, From: number, To: other, Lsn: s.scl() + 1}
}

// Sync keeps what is in the buffer, and gives the status that is to be sent, if the writer of the segment's epoch has cut here. A segment does not know its own number.
func (s *Segment) Sync(number int) (api.Message, bool) {
	for i := 0; i < api.MaxLog; i++ {
		if s.places[i].state == buffered {
			s.places[i].state = kept
		}
	}
	if s.epoch == 0 || s.epoch != cuts.Top(s.cuts) {
		return api.Message{}, false
	}
	return s.status(number, s.epoch), true
}

func (s *Segment) fence(m api.Message) api.Message {
	if m.Epoch < s.epoch {
		return s.refusal(m)
	}
	s.epoch = m.Epoch
	answer := api.Message{Kind: api.MFenced, From: m.To, To: m.From, Epoch: m.Epoch}
	answer.Cuts = s.cuts
	answer.Marks = s.marks()
	return answer
}

func (s *Segment) cut(m api.Message) api.Message {
	if m.Epoch < s.epoch {
		return s.refusal(m)
	}
	s.epoch = m.Epoch
	if cuts.Top(s.cuts) != m.Epoch {
		s.cuts = cuts.Copy(m.Cuts)
		s.forget()
	}
	return s.status(m.To, m.From)
}

// write takes a record into the buffer, and gives the answer, if there is one to be sent.
func (s *Segment) write(m api.Message) (api.Message, bool) {
	if m.Epoch < s.epoch {
		return s.refusal(m), true
	}
	if m.Epoch != s.epoch || m.Epoch != cuts.Top(s.cuts) {
		return api.Message{}, false
	}
	p := s.at(m.Lsn)
	if p.state == kept {
		// The writer may have missed that it is kept.
		return s.status(m.To, m.From), true
	}
	s.take(m)
	return api.Message{}, false
}

// give sends a record to the segment that needs it, if it is kept here: what is only in the buffer may be lost yet.
func (s *Segment) give(m api.Message) (api.Message, bool) {
	p := s.at(m.Lsn)
	if p.state != kept {
		return api.Message{}, false
	}
	return api.Message{Kind: api.MFill, From: m.To, To: m.From, Lsn: m.Lsn, Epoch: p.epoch, Value: p.value}, true
}

// fill takes a record from another segment, unless it has been cut off here, or is of a writer that is unknown here.
func (s *Segment) fill(m api.Message) {
	if cuts.Good(s.cuts, m.Lsn, m.Epoch) {
		s.take(m)
	}
}

// take puts the record of a message into the buffer, if the segment has none of its number.
func (s *Segment) take(m api.Message) {
	if m.Lsn < 1 || m.Lsn > api.MaxLog {
		return
	}
	if s.places[m.Lsn-1].state == 0 {
		s.places[m.Lsn-1] = place{state: buffered, epoch: m.Epoch, value: m.Value}
	}
}

// at is the place of a number, an empty one if there is no such number.
func (s *Segment) at(lsn int) place {
	if lsn < 1 || lsn > api.MaxLog {
		return place{}
	}
	return s.places[lsn-1]
}

func (s *Segment) refusal(m api.Message) api.Message {
	return api.Message{Kind: api.MRefused, From: m.To, To: m.From, Epoch: s.epoch}
}

func (s *Segment) status(number int, writer int) api.Message {
	return api.Message{Kind: api.MStatus, From: number, To: writer, Epoch: writer, Scl: s.scl()}
}

// forget drops all records that are not good by the segment's list.
func (s *Segment) forget() {
	for i := 0; i < api.MaxLog; i++ {
		if !cuts.Good(s.cuts, i+1, s.places[i].epoch) {
			s.places[i] = place{}
		}
	}
}

// scl is the greatest n such that the records 1 to n are kept.
func (s *Segment) scl() int {
	n := 0
	for n < api.MaxLog && s.places[n].state == kept {
		n++
	}
	return n
}

// marks are the epochs of the kept records 1 to the segment's SCL.
func (s *Segment) marks() []int {
	var list []int
	for i := 0; i < api.MaxLog && s.places[i].state == kept; i++ {
		list = append(list, s.places[i].epoch)
	}
	return list
}

// records are those of one state, by rising numbers.
func (s *Segment) records(state int) []api.Record {
	var list []api.Record
	for i, p := range s.places {
		if p.state == state {
			list = append(list, api.Record{Lsn: i + 1, Epoch: p.epoch, Value: p.value})
		}
	}
	return list
}
