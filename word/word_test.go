package word_test

import (
	"bytes"
	"math"
	"math/bits"
	"math/rand"
	"strings"
	"testing"

	"helix/api"
	"helix/edit"
	"helix/word"
)

// row is n letters of the first many of ACGT.
func row(r *rand.Rand, n, many int) []byte {
	s := make([]byte, n)
	for i := range s {
		s[i] = "ACGT"[r.Intn(many)]
	}
	return s
}

// field is the field of x, as the document tells it.
func field(x []byte) string {
	n := len(x)
	t, s, w := 0, 0, 0
	for i, c := range x {
		code := strings.IndexByte("ACGT", c)
		if i > 0 && c >= x[i-1] {
			t += i
		}
		s += code
		w += code * (i + 1)
	}
	digits := ""
	put := func(x, most int) {
		for i := bits.Len(uint(most)) - 1; i >= 0; i-- {
			digits += string("01"[x>>i&1])
		}
	}
	put(t%n, n-1)
	put(s%4, 3)
	put(w%(6*n+1), 6*n)
	if len(digits)%2 == 1 {
		digits = "0" + digits
	}
	f := ""
	for i, bit := range digits {
		f += string([]string{"AT", "CG"}[i%2][bit-'0'])
	}
	return f
}

// made is the word of x, as the document tells it.
func made(x []byte) string {
	f := field(x)
	junction := ""
	for _, c := range "ACGT" {
		if junction == "" && byte(c) != x[len(x)-1] && byte(c) != f[0] {
			junction = string(c)
		}
	}
	return string(x) + junction + f + f + f
}

var long = strings.Repeat("A", 801)

func TestP16_1Long(t *testing.T) {
	for n, want := range map[int]int{2: 27, 3: 34, 32: 81, 58: 113, 800: 879, 1: -1, 0: -1, -1: -1, 801: -1, 1000: -1, math.MaxInt: -1, math.MinInt: -1} {
		if word.Long(n) != want {
			t.Errorf("Long(%d): %d, not %d", n, word.Long(n), want)
		}
	}
}

func TestP16_1Junction(t *testing.T) {
	for a := range 256 {
		for b := range 256 {
			want := byte(0)
			for _, c := range []byte("TGCA") {
				if c != byte(a) && c != byte(b) {
					want = c
				}
			}
			if word.Junction(byte(a), byte(b)) != want {
				t.Fatalf("Junction(%d, %d): %c", a, b, word.Junction(byte(a), byte(b)))
			}
		}
	}
	if word.Junction('A', 'C') != 'G' || word.Junction('C', 'T') != 'A' || word.Junction('A', 'A') != 'C' {
		t.Error("junctions")
	}
}

func TestP16_1Make(t *testing.T) {
	if w, e := word.Make([]byte("AC")); e != api.OK || string(w) != "ACGAGAGACTCAGAGACTCAGAGACTC" {
		t.Errorf("Make(AC): %s, %d", w, e)
	}
	r := rand.New(rand.NewSource(1))
	for i := range 300 {
		n := 2 + i%150
		if i == 299 {
			n = 800
		}
		x := row(r, n, 2+i%3)
		whole := append(bytes.Clone(x), "spare"...)
		w, e := word.Make(whole[:n])
		f, e2 := word.Field(whole[:n])
		if e != api.OK || e2 != api.OK || string(w) != made(x) || string(f) != field(x) || len(w) != word.Long(n) {
			t.Fatalf("Make(%s): %s, %d, %d", x, w, e, e2)
		}
		clear(append(w, "more"...))
		clear(w)
		clear(f)
		if string(whole) != string(x)+"spare" {
			t.Fatal("an argument was changed")
		}
	}
}

func TestP16_1MakeWrong(t *testing.T) {
	for x, want := range map[string]api.Errno{
		"": api.ErrArg, "A": api.ErrArg, "N": api.ErrArg, long: api.ErrArg, long + "N": api.ErrArg, long[1:] + "N": api.ErrArg, "AN": api.ErrLetter, "NA": api.ErrLetter, "ac": api.ErrLetter,
		long[2:] + "N": api.ErrLetter, long[1:]: api.OK, "AA": api.OK,
	} {
		w, e := word.Make([]byte(x))
		f, e2 := word.Field([]byte(x))
		if e != want || e2 != want || (e == api.OK) != (len(w) > 0) || (e == api.OK) != (len(f) > 0) {
			t.Errorf("%.9s, %d letters: %d, %d", x, len(x), e, e2)
		}
	}
}

func TestP16_2Told(t *testing.T) {
	for _, c := range []struct {
		f    string
		n    int
		want api.Sums
		e    api.Errno
	}{
		{"AGAGACTC", 2, api.Sums{T: 1, S: 1, W: 2}, api.OK}, {"ACACACAC", 2, api.Sums{}, api.OK}, {"AGTGTGAC", 2, api.Sums{T: 1, S: 3, W: 12}, api.OK},
		{"TGAGACTC", 2, api.Sums{}, api.ErrNone}, {"AGTGTGAG", 2, api.Sums{}, api.ErrNone}, {"AGAGACT", 2, api.Sums{}, api.ErrNone}, {"AGAGACTCA", 2, api.Sums{}, api.ErrNone},
		{"", 2, api.Sums{}, api.ErrNone}, {"AGAGACTN", 2, api.Sums{}, api.ErrNone}, {"GAGACTCA", 2, api.Sums{}, api.ErrNone}, {"AGAGACTC", 3, api.Sums{}, api.ErrNone},
		{"AGAGACTC", 1, api.Sums{}, api.ErrNone}, {"", 1, api.Sums{}, api.ErrNone}, {"", 0, api.Sums{}, api.ErrNone}, {"", -1, api.Sums{}, api.ErrNone},
		{strings.Repeat("AC", 13), 800, api.Sums{}, api.OK}, {strings.Repeat("AC", 13), 801, api.Sums{}, api.ErrNone}, {strings.Repeat("AC", 13), 1000, api.Sums{}, api.ErrNone},
		{"", math.MaxInt, api.Sums{}, api.ErrNone}, {"", math.MinInt, api.Sums{}, api.ErrNone},
	} {
		if s, e := word.Told([]byte(c.f), c.n); e != c.e || s != c.want {
			t.Errorf("Told(%s, %d): %v, %d", c.f, c.n, s, e)
		}
	}
}

func TestP16_2RightAndInner(t *testing.T) {
	r := rand.New(rand.NewSource(2))
	for i := range 40 {
		n := 2 + i%20
		x := row(r, n, 4)
		w := []byte(made(x))
		whole := append(bytes.Clone(w), "spare"...)
		o, e := word.Inner(whole[:len(w)], n)
		if !word.Right(w, n) || e != api.OK || !bytes.Equal(o, x) {
			t.Fatalf("Inner(%s, %d): %s, %d", w, n, o, e)
		}
		clear(append(o, "more"...))
		clear(o)
		if !bytes.HasPrefix(whole, w) {
			t.Fatal("Inner shares memory")
		}
		for _, other := range []int{n - 1, n + 1, 0, -1, 801, math.MaxInt, math.MinInt} {
			if o, e := word.Inner(w, other); word.Right(w, other) || e != api.ErrNone || len(o) != 0 {
				t.Fatalf("Inner(%s, %d): %s, %d", w, other, o, e)
			}
		}
		for _, x := range edit.Edits(w)[1:] {
			other := edit.Apply(w, x)
			if o, e := word.Inner(other, n); word.Right(other, n) || e != api.ErrNone || len(o) != 0 {
				t.Fatalf("%s with %v is a word", w, x)
			}
		}
	}
	for _, w := range []string{"", "A", "AC", "NC", "ACNAGAGACTCAGAGACTCAGAGACTC", "acgagagactcagagactcagagactc"} {
		for n := -1; n < 5; n++ {
			if o, e := word.Inner([]byte(w), n); word.Right([]byte(w), n) || e != api.ErrNone || len(o) != 0 {
				t.Errorf("Inner(%s, %d): %s, %d", w, n, o, e)
			}
		}
	}
}

func TestP16_3FarApart(t *testing.T) {
	r := rand.New(rand.NewSource(3))
	for i := range 300 {
		n := 2 + i%24
		x := row(r, n, 1+i%4)
		w, _ := word.Make(x)
		seen := 0
		for _, one := range edit.Edits(x) {
			near := edit.Apply(x, one)
			two := edit.Edits(near)
			other := edit.Apply(near, two[r.Intn(len(two))])
			if len(other) != n || bytes.Equal(other, x) {
				continue
			}
			seen++
			v, _ := word.Make(other)
			if edit.Distance(w, v) < 3 {
				t.Fatalf("the words of %s and %s are %d apart", x, other, edit.Distance(w, v))
			}
		}
		if seen == 0 {
			t.Fatalf("%s: nothing was tried", x)
		}
	}
}

func TestP16_3AllShort(t *testing.T) {
	var l [][]byte
	for i := range 64 {
		l = append(l, []byte{"ACGT"[i/16], "ACGT"[i/4%4], "ACGT"[i%4]})
	}
	for i, x := range l {
		w, _ := word.Make(x)
		for _, other := range l[i+1:] {
			v, _ := word.Make(other)
			if n := edit.Distance(w, v); n < 3 {
				t.Fatalf("the words of %s and %s are %d apart", x, other, n)
			}
		}
	}
}
