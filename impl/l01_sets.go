package impl

import (
	"iter"
	"math/bits"
	"slices"
	"strconv"
	"strings"
)

const MaxAtoms = 12

// An atomSet is a set of atoms in one word: its value is the number that
// SetNum tells, so that neither SetNum nor SetOf has anything to work out.
type atomSet uint16

const allAtoms atomSet = 1<<MaxAtoms - 1

// atomBit has no bit for a number that is no atom. All lists are read by way
// of it, so that such a number counts nowhere.
func atomBit(a int) atomSet {
	if a < 1 || a > MaxAtoms {
		return 0
	}
	return 1 << (a - 1)
}

// atomsUpTo asks for an n in 0 .. MaxAtoms.
func atomsUpTo(n int) atomSet {
	return 1<<n - 1
}

func atomsIn(x []int) atomSet {
	var s atomSet
	for _, a := range x {
		s |= atomBit(a)
	}
	return s
}

func (s atomSet) has(a int) bool {
	return s&atomBit(a) != 0
}

func (s atomSet) join(t atomSet) atomSet {
	return s | t
}

func (s atomSet) meet(t atomSet) atomSet {
	return s & t
}

func (s atomSet) less(t atomSet) atomSet {
	return s &^ t
}

func (s atomSet) in(t atomSet) bool {
	return s.less(t) == 0
}

func (s atomSet) size() int {
	return bits.OnesCount16(uint16(s))
}

// first is the least atom, and 0 of the empty set.
func (s atomSet) first() int {
	return bits.Len16(uint16(s & -s))
}

func (s atomSet) atoms() iter.Seq[int] {
	return func(yield func(int) bool) {
		for a := 1; a <= MaxAtoms; a++ {
			if s.has(a) && !yield(a) {
				return
			}
		}
	}
}

func (s atomSet) list() []int {
	return slices.AppendSeq(make([]int, 0, s.size()), s.atoms())
}

func (s atomSet) text() string {
	words := make([]string, 0, s.size())
	for a := range s.atoms() {
		words = append(words, NumText(a))
	}
	return strings.Join(words, " ")
}

func SetOk(x []int, n int) bool {
	if n < 0 || n > MaxAtoms {
		return false
	}
	last := 0
	for _, a := range x {
		if a <= last || a > n {
			return false
		}
		last = a
	}
	return true
}

func SetHas(x []int, a int) bool {
	return atomsIn(x).has(a)
}

func SetJoin(x []int, y []int) []int {
	return atomsIn(x).join(atomsIn(y)).list()
}

func SetMeet(x []int, y []int) []int {
	return atomsIn(x).meet(atomsIn(y)).list()
}

func SetLess(x []int, y []int) []int {
	return atomsIn(x).less(atomsIn(y)).list()
}

func SetIn(x []int, y []int) bool {
	return atomsIn(x).in(atomsIn(y))
}

func SetNum(x []int) int {
	return int(atomsIn(x))
}

func SetOf(num int) []int {
	// Checked ahead of the conversion, which would drop the upper bits.
	if num < 0 || num > int(allAtoms) {
		return nil
	}
	return atomSet(num).list()
}

func SetText(x []int) string {
	return atomsIn(x).text()
}

func NumText(n int) string {
	return strconv.Itoa(n)
}
