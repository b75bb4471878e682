package cuts

import (
	"slices"
	"testing"

	"sixfold/api"
)

func TestTop(t *testing.T) {
	if n := Top(nil); n != 0 {
		t.Errorf("the top of no cuts is %d", n)
	}
	if n := Top([]api.Cut{{Epoch: 2, At: 9}, {Epoch: 5, At: 1}}); n != 5 {
		t.Errorf("the top is %d, want 5", n)
	}
}

func TestGood(t *testing.T) {
	list := []api.Cut{{Epoch: 1, At: 0}, {Epoch: 3, At: 4}, {Epoch: 6, At: 2}, {Epoch: 7, At: 5}}
	for _, c := range []struct {
		lsn, epoch int
		want       bool
	}{
		{1, 1, true}, {2, 1, true}, {3, 1, false}, {4, 1, false}, {5, 1, false}, // the lowest of the later cuts counts
		{2, 3, true}, {3, 3, false},
		{1, 6, true}, {5, 6, true}, {6, 6, false}, // a cut of the record's own epoch does not matter
		{1, 7, true}, {40, 7, true},
		{1, 0, false}, {1, 2, false}, {1, 8, false}, {1, -1, false}, // no cut of this epoch
	} {
		if got := Good(list, c.lsn, c.epoch); got != c.want {
			t.Errorf("record %d of %d: good is %v, want %v", c.lsn, c.epoch, got, c.want)
		}
	}
	if Good(nil, 1, 1) || Good(nil, 1, 0) {
		t.Errorf("a record is good by no cuts")
	}
}

func TestReach(t *testing.T) {
	list := []api.Cut{{Epoch: 1, At: 0}, {Epoch: 3, At: 2}}
	for _, c := range []struct {
		marks []int
		want  int
	}{
		{nil, 0}, {[]int{1}, 1}, {[]int{1, 1}, 2}, {[]int{1, 1, 1}, 2}, {[]int{1, 1, 3, 3}, 4},
		{[]int{1, 1, 1, 3}, 2}, {[]int{2, 1, 3}, 0}, {[]int{1, 2, 3}, 1}, {[]int{3, 3, 3}, 3},
	} {
		if got := Reach(list, c.marks); got != c.want {
			t.Errorf("the reach of %v is %d, want %d", c.marks, got, c.want)
		}
	}
	if n := Reach(nil, []int{1, 1}); n != 0 {
		t.Errorf("the reach by no cuts is %d", n)
	}
}

func TestCopies(t *testing.T) {
	list := make([]api.Cut, 2, 8)
	list[1] = api.Cut{Epoch: 1, At: 2}
	c := Copy(list)
	if !slices.Equal(c, list) {
		t.Fatalf("the copy of %v is %v", list, c)
	}
	c[0].At = 5
	list[1].At = 6
	if list[0].At != 0 || c[1].At != 2 {
		t.Errorf("a list of cuts and its copy share room")
	}
	marks := make([]int, 2, 8)
	m := CopyMarks(marks)
	if !slices.Equal(m, marks) {
		t.Fatalf("the copy of %v is %v", marks, m)
	}
	m[0] = 5
	marks[1] = 6
	if marks[0] != 0 || m[1] != 0 {
		t.Errorf("a list of marks and its copy share room")
	}
}
