// Package nt is layer 1: letters, and rows of them.
package nt

import (
	"bytes"
	"iter"
	"slices"

	"helix/api"
)

// letters are the four, each at the place of its code.
var letters = [4]byte{'A', 'C', 'G', 'T'}

// none is told in place of a code, of a byte that is no letter.
const none = -1

// code is the letter's code, or none.
func code(c byte) int {
	for n, l := range letters {
		if l == c {
			return n
		}
	}
	return none
}

// codes goes along the row: each byte's code, or none.
func codes(s []byte) iter.Seq[int] {
	return func(yield func(int) bool) {
		for _, c := range s {
			if !yield(code(c)) {
				return
			}
		}
	}
}

// Valid: P1.1.
func Valid(s []byte) bool {
	for n := range codes(s) {
		if n == none {
			return false
		}
	}
	return true
}

// Code: P1.1.
func Code(c byte) (int, api.Errno) {
	n := code(c)
	if n == none {
		return 0, api.ErrLetter
	}
	return n, api.OK
}

// Letter: P1.1.
func Letter(n int) byte {
	// The two lowest bits are the rest by 4 of numbers below 0, too.
	return letters[n&3]
}

// Codes: P1.1.
func Codes(s []byte) ([]int, api.Errno) {
	l := make([]int, 0, len(s))
	e := api.OK
row:
	for n := range codes(s) {
		switch n {
		case none:
			l, e = nil, api.ErrLetter
			break row
		default:
			l = append(l, n)
		}
	}
	return l, e
}

// Text: P1.1.
func Text(l []int) []byte {
	s := make([]byte, 0, len(l))
	for _, n := range l {
		s = append(s, Letter(n))
	}
	return s
}

// Rc: P1.2.
func Rc(s []byte) ([]byte, api.Errno) {
	l, e := Codes(s)
	if e != api.OK {
		return nil, e
	}
	turned := make([]byte, 0, len(l))
	for _, n := range slices.Backward(l) {
		// The codes of a letter and of its other one make 3 together.
		turned = append(turned, Letter(3-n))
	}
	return turned, api.OK
}

// Run: P1.3.
func Run(s []byte) int {
	most, run := 0, 0
	for i, c := range s {
		if i == 0 || c != s[i-1] {
			run = 0
		}
		run++
		most = max(most, run)
	}
	return most
}

// Gc: P1.3.
func Gc(s []byte) int {
	strong := 0
	for _, c := range s {
		if c == 'C' || c == 'G' {
			strong++
		}
	}
	return strong
}

// Least: P1.2.
func Least(s []byte) ([]byte, bool) {
	turned, e := Rc(s)
	if e == api.OK && bytes.Compare(turned, s) < 0 {
		return turned, true
	}
	return bytes.Clone(s), false
}

// Sort: P1.4.
func Sort(l [][]byte) [][]byte {
	sorted := make([][]byte, 0, len(l))
	for _, s := range l {
		sorted = append(sorted, bytes.Clone(s))
	}
	slices.SortFunc(sorted, bytes.Compare)
	return sorted
}
