package swap_test

import (
	"bytes"
	"math"
	"math/rand"
	"strings"
	"testing"

	"helix/api"
	"helix/swap"
)

// word is n letters of the first many of ACGT.
func word(r *rand.Rand, n, many int) []byte {
	s := make([]byte, n)
	for i := range s {
		s[i] = "ACGT"[r.Intn(many)]
	}
	return s
}

// sums are the sums S and W of x.
func sums(x []byte) (s, w int) {
	for i, c := range x {
		code := strings.IndexByte("ACGT", c)
		s += code
		w += code * (i + 1)
	}
	return s % 4, w % (6*len(x) + 1)
}

var long = strings.Repeat("A", 1001)

func TestP15_1By(t *testing.T) {
	for _, c := range []struct {
		y    string
		at   int
		c    byte
		want string
		e    api.Errno
	}{
		{"AC", 0, 'T', "TC", api.OK}, {"AC", 1, 'T', "AT", api.OK}, {"ACG", 1, 'C', "ACG", api.OK}, {long[1:], 999, 'G', long[2:] + "G", api.OK},
		{"", 0, 'A', "", api.ErrArg}, {"A", 0, 'A', "", api.ErrArg}, {long, 0, 'A', "", api.ErrArg}, {"AC", 2, 'A', "", api.ErrArg}, {"AC", -1, 'A', "", api.ErrArg},
		{"AC", math.MaxInt, 'A', "", api.ErrArg}, {"AC", math.MinInt, 'A', "", api.ErrArg}, {"N", 0, 'A', "", api.ErrArg}, {"N", 0, 'x', "", api.ErrArg},
		{"AN", 2, 'x', "", api.ErrArg}, {long + "N", 0, 'x', "", api.ErrArg}, {"AN", 0, 'A', "", api.ErrLetter}, {"AN", 1, 'A', "", api.ErrLetter},
		{"NA", 1, 'A', "", api.ErrLetter}, {"AC", 0, 'x', "", api.ErrLetter}, {"AC", 0, 0, "", api.ErrLetter}, {"AC", 1, 'c', "", api.ErrLetter},
	} {
		whole := []byte(c.y + "spare")
		x, e := swap.By(whole[:len(c.y)], c.at, c.c)
		if e != c.e || string(x) != c.want {
			t.Errorf("By(%.9s, %d, %c): %.9s, %d", c.y, c.at, c.c, x, e)
		}
		clear(append(x, "more"...))
		clear(x)
		if string(whole) != c.y+"spare" {
			t.Error("By shares memory")
		}
	}
}

func TestP15_2Find(t *testing.T) {
	for _, c := range []struct {
		y    string
		s, w int
		at   int
		c    byte
		e    api.Errno
	}{
		{"AC", 1, 2, -1, 0, api.OK}, {"AA", 1, 2, 1, 'C', api.OK}, {"AA", 1, 1, 0, 'C', api.OK}, {"AA", 3, 6, 1, 'T', api.OK}, {"TT", 3, 6, 0, 'A', api.OK},
		{"AA", 0, 1, 0, 0, api.ErrNone}, {"AA", 1, 0, 0, 0, api.ErrNone}, {"AA", 1, 12, 0, 0, api.ErrNone}, {"AA", 5, 2, 0, 0, api.ErrNone}, {"AA", -3, 2, 0, 0, api.ErrNone},
		{"AA", 1, 15, 0, 0, api.ErrNone}, {"AA", 1, -11, 0, 0, api.ErrNone}, {"AC", 5, 2, 0, 0, api.ErrNone}, {"AC", 1, 15, 0, 0, api.ErrNone}, {"AC", 1, -11, 0, 0, api.ErrNone},
		{"AC", math.MaxInt, 2, 0, 0, api.ErrNone}, {"AC", 1, math.MaxInt, 0, 0, api.ErrNone}, {"AC", math.MinInt, math.MinInt, 0, 0, api.ErrNone},
		{"", 0, 0, 0, 0, api.ErrArg}, {"A", 0, 0, 0, 0, api.ErrArg}, {long, 0, 0, 0, 0, api.ErrArg}, {"N", 9, 9, 0, 0, api.ErrArg}, {long + "N", 0, 0, 0, 0, api.ErrArg},
		{"AN", 0, 0, 0, 0, api.ErrLetter}, {"NA", 9, 9, 0, 0, api.ErrLetter}, {"aC", 1, 2, 0, 0, api.ErrLetter}, {long[1:], 3, 3000, 999, 'T', api.OK}, {long[1:], 0, 0, -1, 0, api.OK},
	} {
		at, letter, e := swap.Find([]byte(c.y), c.s, c.w)
		if e != c.e || at != c.at || letter != c.c {
			t.Errorf("Find(%.9s, %d, %d): %d, %c, %d", c.y, c.s, c.w, at, letter, e)
		}
		x, e := swap.Swap([]byte(c.y), c.s, c.w)
		want := []byte(c.y)
		if c.at >= 0 && c.e == api.OK {
			want[c.at] = c.c
		}
		if e != c.e || e == api.OK && !bytes.Equal(x, want) || e != api.OK && len(x) != 0 {
			t.Errorf("Swap(%.9s, %d, %d): %.9s, %d", c.y, c.s, c.w, x, e)
		}
	}
}

// TestP15_2All holds Find against all letters at all places of short words.
func TestP15_2All(t *testing.T) {
	r := rand.New(rand.NewSource(1))
	for i := range 80 {
		y := word(r, 2+i%6, 1+i%4)
		type swapped struct {
			at int
			c  byte
		}
		words := map[[2]int]swapped{}
		for p := range y {
			for _, c := range []byte("ACGT") {
				if c == y[p] {
					continue
				}
				x := bytes.Clone(y)
				x[p] = c
				s, w := sums(x)
				if was, ok := words[[2]int{s, w}]; ok {
					t.Fatalf("%s: %v, and %c at %d", y, was, c, p)
				}
				words[[2]int{s, w}] = swapped{p, c}
			}
		}
		s, w := sums(y)
		words[[2]int{s, w}] = swapped{-1, 0}
		for s := -2; s < 7; s++ {
			for w := -3; w < 6*len(y)+5; w++ {
				want, ok := words[[2]int{s, w}]
				at, c, e := swap.Find(y, s, w)
				if ok && (e != api.OK || at != want.at || c != want.c) || !ok && (e != api.ErrNone || at != 0 || c != 0) {
					t.Fatalf("Find(%s, %d, %d): %d, %c, %d", y, s, w, at, c, e)
				}
			}
		}
	}
}

func TestP15_4ComesBack(t *testing.T) {
	r := rand.New(rand.NewSource(2))
	for i := range 800 {
		n := 2 + i%70
		if i%100 == 99 {
			n = 1000
		}
		x := word(r, n, 1+i%4)
		s, w := sums(x)
		whole := append(bytes.Clone(x), "spare"...)
		at, c := r.Intn(n), "ACGT"[r.Intn(4)]
		whole[at] = c
		was := bytes.Clone(whole)
		back, e := swap.Swap(whole[:n], s, w)
		if e != api.OK || !bytes.Equal(back, x) {
			t.Fatalf("%s with %c at %d: %s, %d", x, c, at, back, e)
		}
		place, letter, e := swap.Find(whole[:n], s, w)
		if c == x[at] {
			at, x[at] = -1, 0
			if place != -1 || letter != 0 || e != api.OK {
				t.Fatalf("as it was: %d, %c, %d", place, letter, e)
			}
		} else if place != at || letter != x[at] || e != api.OK {
			t.Fatalf("%s with %c at %d: %d, %c, %d", x, c, at, place, letter, e)
		}
		clear(append(back, "more"...))
		clear(back)
		if !bytes.Equal(whole, was) {
			t.Fatal("an argument was changed")
		}
	}
}
