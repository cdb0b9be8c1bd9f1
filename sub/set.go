package sub

import (
	"iter"
	"math/bits"

	"trestle/api"
)

const wordSize = 64

// set is indices of types, each of which is a bit.
type set [(api.MaxTypes + wordSize - 1) / wordSize]uint64

func (s *set) add(i int) { s[i/wordSize] |= 1 << (i % wordSize) }

func (s *set) has(i int) bool { return s[i/wordSize]>>(i%wordSize)&1 == 1 }

func (s *set) addAll(other set) {
	for k, word := range other {
		s[k] |= word
	}
}

// and returns what is in both sets.
func (s set) and(other set) set {
	for k, word := range other {
		s[k] &= word
	}
	return s
}

// all yields the indices, ascending.
func (s set) all() iter.Seq[int] {
	return func(yield func(int) bool) {
		for k, word := range s {
			for ; word != 0; word &= word - 1 {
				if !yield(k*wordSize + bits.TrailingZeros64(word)) {
					return
				}
			}
		}
	}
}

// complete adds, to the sets of where one comes from each index at once, where one comes from there, and so on.
func complete(sets []set) {
	for through := range sets {
		for from := range sets {
			if sets[from].has(through) {
				sets[from].addAll(sets[through])
			}
		}
	}
}
