// Package network holds the messages that were sent and have not arrived.
package network

import (
	"sixfold/api"
	"sixfold/cuts"
)

// Network is the messages in flight, in the order in which they were sent.
type Network struct {
	room     int
	messages []api.Message
}

// New makes an empty network with room for so many messages.
func New(room int) Network {
	return Network{room: room}
}

// Flight tells how many messages are in flight.
func (n *Network) Flight() int {
	return len(n.messages)
}

// Look gives a copy of the k-th message, and whether there is one.
func (n *Network) Look(k int) (api.Message, bool) {
	if k < 0 || k >= len(n.messages) {
		return api.Message{}, false
	}
	return fresh(n.messages[k]), true
}

// Send puts a message at the end; if the network is full, the message is lost.
func (n *Network) Send(m api.Message) {
	if len(n.messages) >= n.room {
		return
	}
	n.messages = append(n.messages, fresh(m))
}

// Take takes the k-th message out, and tells whether there was one.
func (n *Network) Take(k int) (api.Message, bool) {
	if k < 0 || k >= len(n.messages) {
		return api.Message{}, false
	}
	m := n.messages[k]
	last := len(n.messages) - 1
	for i := k; i < last; i++ {
		n.messages[i] = n.messages[i+1]
	}
	// The place left over would else hold on to the lists of a message that is gone.
	n.messages[last] = api.Message{}
	n.messages = n.messages[:last]
	return m, true
}

// fresh is the same message with lists of its own: a message tells what was so when it was sent, whatever becomes of the sender's lists.
func fresh(m api.Message) api.Message {
	m.Cuts = cuts.Copy(m.Cuts)
	m.Marks = cuts.CopyMarks(m.Marks)
	return m
}
