package balance_test

import (
	"bytes"
	"math"
	"math/rand"
	"strings"
	"testing"

	"helix/api"
	"helix/balance"
)

// word is n letters; apart: no two alike side by side.
func word(r *rand.Rand, n int, apart bool) []byte {
	s := make([]byte, n)
	for i := range s {
		s[i] = "ACGT"[r.Intn(4)]
		for apart && i > 0 && s[i] == s[i-1] {
			s[i] = "ACGT"[r.Intn(4)]
		}
	}
	return s
}

// flipped is s flipped at k, k from 0 to all of it.
func flipped(s []byte, k int) []byte {
	return append([]byte(strings.NewReplacer("A", "C", "C", "A", "G", "T", "T", "G").Replace(string(s[:k]))), s[k:]...)
}

// strong is how many letters are strong.
func strong(s []byte) int {
	return bytes.Count(s, []byte("C")) + bytes.Count(s, []byte("G"))
}

func TestP10_1Flip(t *testing.T) {
	for _, c := range []struct {
		s    string
		k    int
		want string
		e    api.Errno
	}{
		{"AT", 1, "CT", api.OK}, {"ACGT", 4, "CATG", api.OK}, {"ACGT", 0, "ACGT", api.OK}, {"ACGT", 2, "CAGT", api.OK}, {"ACGT", -1, "ACGT", api.OK},
		{"ACGT", 5, "CATG", api.OK}, {"ACGT", math.MaxInt, "CATG", api.OK}, {"ACGT", math.MinInt, "ACGT", api.OK}, {"", 3, "", api.OK}, {"T", 1, "G", api.OK},
		{"ACGN", 1, "", api.ErrLetter}, {"ACGN", -1, "", api.ErrLetter}, {"aCGT", 0, "", api.ErrLetter}, {"\x00", 1, "", api.ErrLetter},
	} {
		if o, e := balance.Flip([]byte(c.s), c.k); e != c.e || string(o) != c.want {
			t.Errorf("Flip(%q, %d): %s, %d", c.s, c.k, o, e)
		}
	}
}

func TestP10_1Right(t *testing.T) {
	for s, want := range map[string]bool{
		"": true, "A": false, "C": false, "AC": true, "AT": false, "CG": false, "GT": true, "ACGT": true, "AACC": true, "ACGTA": false,
		"ACN": false, "NC": false, "Ac": false, "NNCC": false, "CCCG": false, "AAAC": false,
	} {
		if balance.Right([]byte(s)) != want {
			t.Errorf("Right(%q)", s)
		}
	}
}

func TestP10_1Width(t *testing.T) {
	for n, want := range map[int]int{
		math.MinInt: 2, -1: 2, 0: 2, 1: 2, 2: 2, 3: 2, 4: 4, 15: 4, 16: 6, 26: 6, 52: 6, 63: 6, 64: 8, 255: 8, 256: 10, 1<<60 - 1: 60, 1 << 60: 62,
		1<<62 - 1: 62, 1 << 62: 62, 1<<62 + 1: 62, math.MaxInt: 62,
	} {
		if balance.Width(n) != want {
			t.Errorf("Width(%d): %d, not %d", n, balance.Width(n), want)
		}
	}
	for n := range 5000 {
		w := balance.Width(n)
		if w%2 != 0 || w < 2 || n >= 1<<w || w > 2 && n < 1<<(w-2) {
			t.Errorf("Width(%d): %d", n, w)
		}
	}
}

func TestP10_2Find(t *testing.T) {
	for _, c := range []struct {
		s    string
		want string
		k    int
		e    api.Errno
	}{
		{"AT", "CT", 1, api.OK}, {"", "", 0, api.OK}, {"AC", "AC", 0, api.OK}, {"AAAA", "CCAA", 2, api.OK}, {"GGGG", "TTGG", 2, api.OK},
		{"CCCCAA", "ACCCAA", 1, api.OK}, {"ATTACG", "CTTACG", 1, api.OK}, {"AGAAAA", "CTCCAA", 4, api.OK},
		{"A", "", 0, api.ErrArg}, {"ACG", "", 0, api.ErrArg}, {"AN", "", 0, api.ErrLetter}, {"ACN", "", 0, api.ErrLetter}, {"N", "", 0, api.ErrLetter},
		{"ACGTn", "", 0, api.ErrLetter}, {"ACNA", "", 0, api.ErrLetter}, {"ATCx", "", 0, api.ErrLetter}, {"ACACx ", "", 0, api.ErrLetter},
	} {
		if k, e := balance.Find([]byte(c.s)); e != c.e || k != c.k {
			t.Errorf("Find(%q): %d, %d", c.s, k, e)
		}
		if o, k, e := balance.Balance([]byte(c.s)); e != c.e || k != c.k || string(o) != c.want {
			t.Errorf("Balance(%q): %s, %d, %d", c.s, o, k, e)
		}
	}
}

func TestP10_2Least(t *testing.T) {
	r := rand.New(rand.NewSource(1))
	for i := range 800 {
		n := i % 50
		s := word(r, n, false)
		if i%5 == 0 {
			s = bytes.Repeat([]byte("G"), n)
		}
		o, k, e := balance.Balance(s)
		if n%2 == 1 {
			if e != api.ErrArg || k != 0 || len(o) != 0 {
				t.Fatalf("Balance(%s): %s, %d, %d", s, o, k, e)
			}
			continue
		}
		least := 0
		for 2*strong(flipped(s, least)) != n {
			least++
		}
		if e != api.OK || k != least || !bytes.Equal(o, flipped(s, least)) || !balance.Right(o) {
			t.Fatalf("Balance(%s): %s, %d, %d, not %d", s, o, k, e, least)
		}
		if f, e := balance.Find(s); f != least || e != api.OK {
			t.Fatalf("Find(%s): %d, %d", s, f, e)
		}
	}
}

func TestP10_3Flipped(t *testing.T) {
	r := rand.New(rand.NewSource(2))
	for range 300 {
		n := r.Intn(40)
		s := word(r, n, true)
		k := r.Intn(n + 1)
		o, e := balance.Flip(s, k)
		if e != api.OK || !bytes.Equal(o, flipped(s, k)) {
			t.Fatalf("Flip(%s, %d): %s, %d", s, k, o, e)
		}
		if back, e := balance.Flip(o, k); e != api.OK || !bytes.Equal(back, s) {
			t.Fatalf("%s, flipped twice at %d: %s", s, k, back)
		}
		for i := 1; i < n; i++ {
			if o[i] == o[i-1] && i != k {
				t.Fatalf("%s: two alike at %d, flipped at %d", o, i, k)
			}
		}
	}
}

func TestOwnMemory(t *testing.T) {
	whole := []byte("ACCATTspare")
	for _, k := range []int{0, 3, 6} {
		o, _ := balance.Flip(whole[:6], k)
		clear(append(o, "more"...))
		clear(o)
	}
	o, _, _ := balance.Balance(whole[:6])
	clear(o)
	o, _, _ = balance.Balance(whole[:2])
	clear(o)
	balance.Find(whole[:6])
	if string(whole) != "ACCATTspare" {
		t.Errorf("an argument was changed: %q", whole)
	}
}
