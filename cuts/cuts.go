// Package cuts judges records by lists of cuts.
package cuts

import "sixfold/api"

// Top is the epoch of a list's last cut, 0 if the list is empty.
func Top(list []api.Cut) int {
	if len(list) == 0 {
		return 0
	}
	return list[len(list)-1].Epoch
}

// Good tells whether a record of this number and epoch is good by a list.
func Good(list []api.Cut, lsn int, epoch int) bool {
	found := false
	for _, c := range list {
		if c.Epoch == epoch {
			found = true
		}
		if c.Epoch > epoch && c.At < lsn {
			return false
		}
	}
	return found
}

// Reach tells how far the records 1, 2, 3 .. with these epochs go, up to the first that is not good by a list.
func Reach(list []api.Cut, marks []int) int {
	for i, epoch := range marks {
		if !Good(list, i+1, epoch) {
			return i
		}
	}
	return len(marks)
}

// Copy is the same list of cuts in a room of its own.
func Copy(list []api.Cut) []api.Cut {
	var fresh []api.Cut
	for _, c := range list {
		fresh = append(fresh, c)
	}
	return fresh
}

// CopyMarks is the same list of epochs in a room of its own.
func CopyMarks(marks []int) []int {
	var fresh []int
	for _, epoch := range marks {
		fresh = append(fresh, epoch)
	}
	return fresh
}
