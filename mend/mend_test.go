package mend_test

import (
	"bytes"
	"math"
	"math/rand"
	"slices"
	"testing"

	"helix/api"
	"helix/gf"
	"helix/mend"
	"helix/poly"
	"helix/rs"
)

// some are n bytes.
func some(r *rand.Rand, n int) []byte {
	b := make([]byte, n)
	for i := range b {
		b[i] = byte(r.Intn(256))
	}
	return b
}

// right is a right word of n bytes, p of them put behind.
func right(t *testing.T, r *rand.Rand, n, p int) []byte {
	t.Helper()
	word, e := rs.Word(some(r, n-p), p)
	if e != api.OK {
		t.Fatal(e)
	}
	return word
}

func TestP6_1Locator(t *testing.T) {
	for _, c := range []struct {
		n      int
		places []int
		want   []byte
	}{
		{5, nil, []byte{1}}, {1, []int{0}, []byte{1, 1}}, {2, []int{0}, []byte{1, 2}}, {2, []int{1}, []byte{1, 1}},
		{2, []int{0, 1}, []byte{1, 3, 2}}, {2, []int{1, 0}, []byte{1, 3, 2}}, {3, []int{0}, []byte{1, 4}},
		{3, []int{-1, 3, 0, 4, math.MinInt, math.MaxInt}, []byte{1, 4}}, {0, []int{0, -1, 1}, []byte{1}}, {-5, []int{0, -7}, []byte{1}},
		{math.MinInt, []int{math.MinInt}, []byte{1}}, {2, []int{1, 1}, []byte{1, 0, 1}}, {256, []int{0}, []byte{1, 1}}, {257, []int{0, 256}, []byte{1, 3, 2}},
	} {
		if o := mend.Locator(c.n, c.places); !bytes.Equal(o, c.want) {
			t.Errorf("Locator(%d, %v): %v", c.n, c.places, o)
		}
	}
	r := rand.New(rand.NewSource(1))
	for range 50 {
		n := 1 + r.Intn(255)
		places := r.Perm(n)[:r.Intn(min(n, 20)+1)]
		locator := mend.Locator(n, places)
		if len(locator) != len(places)+1 || locator[0] != 1 {
			t.Fatalf("Locator(%d, %v): %v", n, places, locator)
		}
		for place := range n {
			if (poly.Eval(locator, gf.Exp(-(n-1-place))) == 0) != slices.Contains(places, place) {
				t.Fatalf("Locator(%d, %v) at the place %d", n, places, place)
			}
		}
	}
}

func TestP6_1Place(t *testing.T) {
	for _, n := range []int{1, 2, 3, 100, 254, 255} {
		told := 0
		for root := range 256 {
			place := mend.Place(n, byte(root))
			want := -1
			for i := range n {
				if poly.Eval(mend.Locator(n, []int{i}), byte(root)) == 0 {
					want = i
				}
			}
			if place != want {
				t.Errorf("Place(%d, %d): %d, not %d", n, root, place, want)
			}
			if place >= 0 {
				told++
			}
		}
		if told != n {
			t.Errorf("of %d places %d have a root", n, told)
		}
	}
	if mend.Place(2, 1) != 1 || mend.Place(2, 0x8e) != 0 || mend.Place(2, 2) != -1 || mend.Place(255, 2) != 0 {
		t.Error("places of roots", mend.Place(2, 1), mend.Place(2, 0x8e), mend.Place(2, 2), mend.Place(255, 2))
	}
	for _, n := range []int{0, -1, 256, 300, math.MinInt, math.MaxInt} {
		for root := range 256 {
			if place := mend.Place(n, byte(root)); place != -1 {
				t.Fatalf("Place(%d, %d): %d", n, root, place)
			}
		}
	}
}

func TestP6_2Arguments(t *testing.T) {
	for _, c := range []struct {
		n, p int
		lost []int
		e    api.Errno
	}{
		{0, 0, nil, api.ErrArg}, {0, 0, []int{0}, api.ErrArg}, {256, 2, nil, api.ErrArg}, {5, -1, nil, api.ErrArg}, {5, 6, nil, api.ErrArg},
		{5, math.MinInt, nil, api.ErrArg}, {5, math.MaxInt, nil, api.ErrArg}, {5, 2, []int{-1}, api.ErrArg}, {5, 2, []int{5}, api.ErrArg},
		{5, 4, []int{1, 2, 1}, api.ErrArg}, {5, 0, []int{3, 3}, api.ErrArg}, {5, 0, []int{0, 1, 2, 3, 4, 0}, api.ErrArg}, {5, 1, []int{math.MaxInt, 0}, api.ErrArg},
		{5, 1, []int{0, 9}, api.ErrArg}, {5, 1, []int{0, 1}, api.ErrMany}, {5, 0, []int{0}, api.ErrMany}, {5, 2, []int{4, 0}, api.OK}, {5, 5, []int{4, 0, 2, 1, 3}, api.OK},
		{1, 0, nil, api.OK}, {1, 1, []int{0}, api.OK}, {255, 255, nil, api.OK}, {255, 0, nil, api.OK},
	} {
		word := make([]byte, c.n)
		o, wrong, e := mend.Mend(word, c.p, c.lost)
		if e != c.e || wrong != 0 || e == api.OK && !bytes.Equal(o, word) || e != api.OK && len(o) != 0 {
			t.Errorf("%d noughts, %d behind, lost %v: %v, %d, %d", c.n, c.p, c.lost, o, wrong, e)
		}
	}
}

func TestP6_2NoneBehind(t *testing.T) {
	word := []byte{7, 8, 9}
	if o, wrong, e := mend.Mend(word, 0, nil); e != api.OK || wrong != 0 || !bytes.Equal(o, word) {
		t.Error(o, wrong, e)
	}
	if o, wrong, e := mend.Mend([]byte{7, 8}, 1, nil); e != api.ErrMany || wrong != 0 || len(o) != 0 {
		t.Error("one byte behind tells of a wrong one, but not which", o, wrong, e)
	}
	if o, wrong, e := mend.Mend([]byte{7, 8}, 1, []int{0}); e != api.OK || wrong != 0 || !bytes.Equal(o, []byte{8, 8}) {
		t.Error("one byte behind mends a lost one", o, wrong, e)
	}
	if o, wrong, e := mend.Mend([]byte{1, 3, 77}, 2, nil); e != api.OK || wrong != 1 || !bytes.Equal(o, []byte{1, 3, 2}) {
		t.Error("two bytes behind mend a wrong one", o, wrong, e)
	}
}

// TestP6_2All holds Mend against all right words of p bytes and one more.
func TestP6_2All(t *testing.T) {
	r := rand.New(rand.NewSource(2))
	for i := range 4000 {
		p := i % 9
		n := p + 1
		word := right(t, r, n, p)
		for range r.Intn(p/2 + 3) {
			word[r.Intn(n)] = byte(r.Intn(256))
		}
		lost := r.Perm(n)[:r.Intn(min(p, 3)+1)]
		want, least := []byte(nil), n+1
		for b := range 256 {
			other, _ := rs.Word([]byte{byte(b)}, p)
			unlike := 0
			for place := range other {
				if other[place] != word[place] && !slices.Contains(lost, place) {
					unlike++
				}
			}
			if 2*unlike+len(lost) <= p {
				want, least = other, unlike
			}
		}
		o, wrong, e := mend.Mend(word, p, lost)
		if want == nil && (e != api.ErrMany || len(o) != 0 || wrong != 0) || want != nil && (e != api.OK || !bytes.Equal(o, want) || wrong != least) {
			t.Fatalf("%v, %d behind, lost %v: %v, %d, %d, not %v, %d", word, p, lost, o, wrong, e, want, least)
		}
	}
}

// TestP6_2Nought: of words all of whose bytes were put behind just noughts are right.
func TestP6_2Nought(t *testing.T) {
	r := rand.New(rand.NewSource(3))
	for range 3000 {
		n := 1 + r.Intn(32)
		word := make([]byte, n)
		for _, place := range r.Perm(n)[:r.Intn(n/2+2)] {
			word[place] = byte(1 + r.Intn(255))
		}
		lost := r.Perm(n)[:r.Intn(n+1)]
		amiss := 0
		for place, b := range word {
			if b != 0 && !slices.Contains(lost, place) {
				amiss++
			}
		}
		o, wrong, e := mend.Mend(word, n, lost)
		near := 2*amiss+len(lost) <= n
		if near && (e != api.OK || wrong != amiss || !bytes.Equal(o, make([]byte, n))) || !near && (e != api.ErrMany || wrong != 0 || len(o) != 0) {
			t.Fatalf("%v, lost %v: %v, %d, %d", word, lost, o, wrong, e)
		}
	}
}

func TestP6_3ToldAgain(t *testing.T) {
	r := rand.New(rand.NewSource(4))
	for range 600 {
		n := 1 + r.Intn(255)
		p := r.Intn(min(n, 40) + 1)
		word := right(t, r, n, p)
		many := r.Intn(p + 1)
		others := r.Intn((p-many)/2 + 1)
		if r.Intn(3) == 0 {
			others = (p - many) / 2
		}
		places := r.Perm(n)
		lost, amiss := places[:many], places[many:many+others]
		read := bytes.Clone(word)
		for _, place := range lost {
			read[place] = byte(r.Intn(256))
		}
		for _, place := range amiss {
			read[place] ^= byte(1 + r.Intn(255))
		}
		was, lostWas := bytes.Clone(read), slices.Clone(lost)
		o, wrong, e := mend.Mend(read, p, lost)
		if e != api.OK || wrong != others || !bytes.Equal(o, word) {
			t.Fatalf("%d bytes, %d behind, %d lost, %d others: %d, %d", n, p, many, others, wrong, e)
		}
		clear(o)
		if !bytes.Equal(read, was) || !slices.Equal(lost, lostWas) {
			t.Fatal("an argument was changed")
		}
	}
}

func TestP6_3WhatIsToldIsRight(t *testing.T) {
	r := rand.New(rand.NewSource(5))
	mended := 0
	for range 3000 {
		n := 2 + r.Intn(20)
		p := r.Intn(min(n, 6) + 1)
		word := some(r, n)
		lost := r.Perm(n)[:r.Intn(p+1)]
		o, wrong, e := mend.Mend(word, p, lost)
		if e == api.ErrMany {
			continue
		}
		mended++
		unlike := 0
		for place := range o {
			if o[place] != word[place] && !slices.Contains(lost, place) {
				unlike++
			}
		}
		if e != api.OK || !rs.Right(o, p) || unlike != wrong || 2*wrong+len(lost) > p {
			t.Fatalf("%v, %d behind, lost %v: %v, %d, %d", word, p, lost, o, wrong, e)
		}
	}
	if mended == 0 {
		t.Error("nothing was mended")
	}
}
