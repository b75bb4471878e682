package network

import (
	"testing"

	"sixfold/api"
)

// order tells the values of the messages in flight.
func order(t *testing.T, n *Network, want ...int) {
	t.Helper()
	if n.Flight() != len(want) {
		t.Fatalf("P4: %d messages in flight, want %d", n.Flight(), len(want))
	}
	for k, value := range want {
		if m, found := n.Look(k); !found || m.Value != value {
			t.Fatalf("P4: message %d is %+v, %v, want value %d", k, m, found, value)
		}
	}
}

func TestOrder(t *testing.T) {
	n := New(4)
	order(t, &n)
	for i := range 6 {
		n.Send(api.Message{Value: i})
	}
	order(t, &n, 0, 1, 2, 3) // the others are lost
	for _, c := range []struct {
		k, value int
		rest     []int
	}{{1, 1, []int{0, 2, 3}}, {2, 3, []int{0, 2}}, {0, 0, []int{2}}} {
		if m, found := n.Take(c.k); !found || m.Value != c.value {
			t.Fatalf("P4: Take(%d) = %+v, %v", c.k, m, found)
		}
		order(t, &n, c.rest...)
	}
	n.Send(api.Message{Value: 7})
	order(t, &n, 2, 7)
	n.Take(0)
	n.Take(0)
	order(t, &n)
}

func TestNoMessage(t *testing.T) {
	n := New(3)
	n.Send(api.Message{Value: 1})
	n.Send(api.Message{Value: 2})
	for _, k := range []int{-1, 2, 3, 1<<63 - 1, -1 << 63} {
		if m, found := n.Look(k); found || m.Value != 0 {
			t.Errorf("P4: Look(%d) = %+v, %v", k, m, found)
		}
		if m, found := n.Take(k); found || m.Value != 0 {
			t.Errorf("P4: Take(%d) = %+v, %v", k, m, found)
		}
	}
	order(t, &n, 1, 2)
}

func TestOwnLists(t *testing.T) {
	n := New(3)
	m := api.Message{Cuts: []api.Cut{{Epoch: 1}}, Marks: []int{1}}
	n.Send(m)
	n.Send(m)
	m.Cuts[0].Epoch = 5
	m.Marks[0] = 5
	a, _ := n.Look(0)
	a.Cuts[0].Epoch = 6
	a.Marks[0] = 6
	for k := range 2 {
		if m, _ := n.Look(k); m.Cuts[0].Epoch != 1 || m.Marks[0] != 1 {
			t.Errorf("P2: message %d has become %+v", k, m)
		}
	}
}
