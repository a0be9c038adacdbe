package tests

import (
	"slices"
	"testing"
)

const spareSign = 7777

// withSpare is x with room behind its length; what fills that room is told apart from all numbers of the tests.
func withSpare(x []int) []int {
	room := make([]int, len(x)+16)
	for i := range room {
		room[i] = spareSign
	}
	copy(room, x)
	return room[:len(x)]
}

// checkKept fails where x, or the room behind it, is no longer as withSpare made it of want.
func checkKept(t *testing.T, name string, x, want []int) {
	t.Helper()
	if !slices.Equal(x, want) {
		t.Errorf("%s: the argument %v has become %v", name, want, x)
	}
	for _, a := range x[len(x):cap(x)] {
		if a != spareSign {
			t.Errorf("%s: %d is written behind the argument %v", name, a, want)
			return
		}
	}
}

// overwrite changes all of a list, and the room behind it.
func overwrite(x []int, sign int) {
	x = x[:cap(x)]
	for i := range x {
		x[i] = sign
	}
}
