package sums_test

import (
	"bytes"
	"math"
	"math/bits"
	"math/rand"
	"slices"
	"strings"
	"testing"

	"helix/api"
	"helix/sums"
)

// word is n letters of the first many of ACGT.
func word(r *rand.Rand, n, many int) []byte {
	s := make([]byte, n)
	for i := range s {
		s[i] = "ACGT"[r.Intn(many)]
	}
	return s
}

// of are a word's sums, as the document tells them.
func of(x []byte) api.Sums {
	n := len(x)
	t, s, w := 0, 0, 0
	for i, c := range x {
		code := strings.IndexByte("ACGT", c)
		if i > 0 && c >= x[i-1] {
			t += i
		}
		s += code
		w += code * (i + 1)
	}
	return api.Sums{T: t % n, S: s % 4, W: w % (6*n + 1)}
}

// number is the number of bits, the highest first.
func number(b []byte) int {
	x := 0
	for _, bit := range b {
		x = 2*x + int(bit)
	}
	return x
}

func TestP12_1Of(t *testing.T) {
	for x, want := range map[string]api.Sums{
		"AC": {T: 1, S: 1, W: 2}, "AA": {T: 1, S: 0, W: 0}, "CA": {T: 0, S: 1, W: 1}, "TT": {T: 1, S: 2, W: 9},
		"TTT": {T: 0, S: 1, W: 18}, "ACGT": {T: 2, S: 2, W: 20}, "TGCA": {T: 0, S: 2, W: 10}, "AATT": {T: 2, S: 2, W: 21},
	} {
		if s, e := sums.Of([]byte(x)); e != api.OK || s != want {
			t.Errorf("Of(%s): %v, %d", x, s, e)
		}
	}
	r := rand.New(rand.NewSource(1))
	for _, n := range []int{2, 3, 4, 5, 30, 58, 100, 999, 1000} {
		for range 20 {
			x := word(r, n, 4)
			if s, e := sums.Of(x); e != api.OK || s != of(x) || !sums.Right(s, n) {
				t.Fatalf("Of(%s): %v, %d, not %v", x, s, e, of(x))
			}
		}
	}
}

func TestP12_1OfWrong(t *testing.T) {
	long := strings.Repeat("A", 1001)
	for x, want := range map[string]api.Errno{
		"": api.ErrArg, "A": api.ErrArg, "N": api.ErrArg, long: api.ErrArg, long[1:] + "N": api.ErrArg, "AN": api.ErrLetter, "NA": api.ErrLetter,
		"ac": api.ErrLetter, "ACG\x00": api.ErrLetter, long[2:] + "N": api.ErrLetter, long[1:]: api.OK,
	} {
		s, e := sums.Of([]byte(x))
		if e != want || e != api.OK && s != (api.Sums{}) {
			t.Errorf("Of(%.9s.., %d letters): %v, %d", x, len(x), s, e)
		}
	}
}

func TestP12_1Rises(t *testing.T) {
	for x, want := range map[string][]bool{
		"": nil, "A": {false}, "AC": {false, true}, "AA": {false, true}, "CA": {false, false}, "ACGT": {false, true, true, true},
		"TGCA": {false, false, false, false}, "\x00\xff\xfe": {false, true, false}, "nNN": {false, false, true},
	} {
		if l := sums.Rises([]byte(x)); !slices.Equal(l, want) {
			t.Errorf("Rises(%q): %v", x, l)
		}
	}
	l := sums.Rises(bytes.Repeat([]byte("AC"), 1000))
	if len(l) != 2000 || l[1998] || !l[1999] {
		t.Error("Rises of a long row")
	}
}

func TestP12_1Right(t *testing.T) {
	for _, c := range []struct {
		t, s, w, n int
		right      bool
	}{
		{0, 0, 0, 2, true}, {1, 3, 12, 2, true}, {2, 0, 0, 2, false}, {0, 4, 0, 2, false}, {0, 0, 13, 2, false}, {-1, 0, 0, 2, false}, {0, -1, 0, 2, false},
		{0, 0, -1, 2, false}, {0, 0, 0, 1, false}, {0, 0, 0, 0, false}, {0, 0, 0, -3, false}, {0, 0, 0, 1001, false}, {999, 3, 6000, 1000, true},
		{1000, 3, 6000, 1000, false}, {999, 3, 6001, 1000, false}, {math.MinInt, 0, 0, 9, false}, {0, math.MaxInt, 0, 9, false}, {0, 0, math.MaxInt, 9, false},
		{0, 0, 0, math.MaxInt, false}, {0, 0, 0, math.MinInt, false},
	} {
		s := api.Sums{T: c.t, S: c.s, W: c.w}
		if sums.Right(s, c.n) != c.right {
			t.Errorf("Right(%v, %d)", s, c.n)
		}
		b, e := sums.Pack(s, c.n)
		if c.right && (e != api.OK || len(b) != sums.Long(c.n)) || !c.right && (e != api.ErrArg || len(b) != 0) {
			t.Errorf("Pack(%v, %d): %v, %d", s, c.n, b, e)
		}
	}
}

func TestP12_2Long(t *testing.T) {
	for n, want := range map[int]int{2: 8, 3: 10, 32: 16, 58: 18, 800: 26, 1000: 26, 1: -1, 0: -1, -1: -1, 1001: -1, math.MaxInt: -1, math.MinInt: -1} {
		if sums.Long(n) != want {
			t.Errorf("Long(%d): %d, not %d", n, sums.Long(n), want)
		}
	}
	for n := 2; n <= 1000; n++ {
		all := bits.Len(uint(n-1)) + 2 + bits.Len(uint(6*n))
		if sums.Long(n) != all+all%2 {
			t.Fatalf("Long(%d): %d", n, sums.Long(n))
		}
	}
}

func TestP12_2Pack(t *testing.T) {
	if b, e := sums.Pack(api.Sums{T: 1, S: 2, W: 5}, 2); e != api.OK || !bytes.Equal(b, []byte{0, 1, 1, 0, 0, 1, 0, 1}) {
		t.Error("with a 0 ahead", b, e)
	}
	if b, e := sums.Pack(api.Sums{T: 2, S: 1, W: 18}, 3); e != api.OK || !bytes.Equal(b, []byte{0, 1, 0, 0, 1, 1, 0, 0, 1, 0}) {
		t.Error("of 3", b, e)
	}
	r := rand.New(rand.NewSource(2))
	for range 2000 {
		n := 2 + r.Intn(999)
		s := api.Sums{T: r.Intn(n), S: r.Intn(4), W: r.Intn(6*n + 1)}
		b, e := sums.Pack(s, n)
		if e != api.OK || len(b) != sums.Long(n) {
			t.Fatalf("Pack(%v, %d): %v, %d", s, n, b, e)
		}
		ofT, ofW := bits.Len(uint(n-1)), bits.Len(uint(6*n))
		ahead := len(b) - ofT - 2 - ofW
		if ahead > 1 || number(b[:ahead+ofT]) != s.T || number(b[ahead+ofT:ahead+ofT+2]) != s.S || number(b[len(b)-ofW:]) != s.W {
			t.Fatalf("Pack(%v, %d): %v", s, n, b)
		}
		if back, e := sums.Unpack(b, n); e != api.OK || back != s {
			t.Fatalf("Unpack(%v, %d): %v, %d", b, n, back, e)
		}
		clear(b)
	}
}

func TestP12_2Unpack(t *testing.T) {
	for _, c := range []struct {
		digits string
		n      int
		want   api.Sums
		e      api.Errno
	}{
		{"01100101", 2, api.Sums{T: 1, S: 2, W: 5}, api.OK}, {"00000000", 2, api.Sums{}, api.OK}, {"01111100", 2, api.Sums{T: 1, S: 3, W: 12}, api.OK},
		{"11100101", 2, api.Sums{}, api.ErrArg}, {"01101101", 2, api.Sums{}, api.ErrArg}, {"01101111", 2, api.Sums{}, api.ErrArg},
		{"0110010", 2, api.Sums{}, api.ErrArg}, {"011001010", 2, api.Sums{}, api.ErrArg}, {"", 2, api.Sums{}, api.ErrArg}, {"", 1, api.Sums{}, api.ErrArg},
		{"", -1, api.Sums{}, api.ErrArg}, {"", math.MaxInt, api.Sums{}, api.ErrArg}, {"", math.MinInt, api.Sums{}, api.ErrArg},
		{"01200101", 2, api.Sums{}, api.ErrArg}, {"01100102", 2, api.Sums{}, api.ErrArg}, {"21100101", 2, api.Sums{}, api.ErrArg}, {"00000200", 2, api.Sums{}, api.ErrArg},
		{"0100000000", 3, api.Sums{T: 2}, api.OK}, {"0110000000", 3, api.Sums{}, api.ErrArg}, {"0100010011", 3, api.Sums{}, api.ErrArg},
		{"0101110010", 3, api.Sums{T: 2, S: 3, W: 18}, api.OK}, {"1101110010", 3, api.Sums{}, api.ErrArg},
		{"1000000000", 5, api.Sums{T: 4}, api.OK}, {"1010000000", 5, api.Sums{}, api.ErrArg}, {"1000011111", 5, api.Sums{}, api.ErrArg},
		{"1001111110", 5, api.Sums{T: 4, S: 3, W: 30}, api.OK},
	} {
		b := []byte(c.digits)
		for i := range b {
			b[i] -= '0'
		}
		was := bytes.Clone(b)
		if s, e := sums.Unpack(b, c.n); e != c.e || s != c.want || !bytes.Equal(b, was) {
			t.Errorf("Unpack(%s, %d): %v, %d", c.digits, c.n, s, e)
		}
	}
}

// all are all words of n letters.
func all(n int) [][]byte {
	if n == 0 {
		return [][]byte{nil}
	}
	var l [][]byte
	for _, x := range all(n - 1) {
		for _, c := range []byte("ACGT") {
			l = append(l, append(bytes.Clone(x), c))
		}
	}
	return l
}

// without are the words that x is with one letter left out.
func without(x []byte) map[string]bool {
	l := map[string]bool{}
	for i := range x {
		l[string(x[:i])+string(x[i+1:])] = true
	}
	return l
}

func TestP12_3TheSame(t *testing.T) {
	for n := 2; n <= 5; n++ {
		like := map[api.Sums][][]byte{}
		for _, x := range all(n) {
			s, _ := sums.Of(x)
			like[s] = append(like[s], x)
		}
		for s, l := range like {
			for i, x := range l {
				shorter := without(x)
				for _, y := range l[i+1:] {
					unlike := 0
					for k := range x {
						if x[k] != y[k] {
							unlike++
						}
					}
					if unlike <= 2 {
						t.Fatalf("%s and %s: %v", x, y, s)
					}
					for z := range without(y) {
						if shorter[z] {
							t.Fatalf("%s and %s, with %s in common: %v", x, y, z, s)
						}
					}
				}
			}
		}
	}
}

func TestArgumentsStay(t *testing.T) {
	whole := []byte("ACGTACspare")
	sums.Of(whole[:6])
	sums.Rises(whole[:6])
	if string(whole) != "ACGTACspare" {
		t.Errorf("%q", whole)
	}
}
