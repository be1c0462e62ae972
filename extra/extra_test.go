package extra_test

import (
	"bytes"
	"math"
	"math/rand"
	"slices"
	"strings"
	"testing"

	"helix/api"
	"helix/extra"
	"helix/sums"
)

// word is n letters of the first many of ACGT.
func word(r *rand.Rand, n, many int) []byte {
	s := make([]byte, n)
	for i := range s {
		s[i] = "ACGT"[r.Intn(many)]
	}
	return s
}

// without is y without the letter at p.
func without(y []byte, p int) []byte {
	return append(bytes.Clone(y[:p]), y[p+1:]...)
}

// of are the sums of x.
func of(t *testing.T, x []byte) api.Sums {
	t.Helper()
	s, e := sums.Of(x)
	if e != api.OK {
		t.Fatal(string(x), e)
	}
	return s
}

func TestP14_1Find(t *testing.T) {
	for _, c := range []struct {
		y  string
		x  string
		at int
	}{{"ACC", "AC", 1}, {"AAC", "AC", 0}, {"GAC", "AC", 0}, {"AGC", "AC", 1}, {"ACT", "AC", 2}, {"AAA", "AA", 0}, {"CAAAT", "CAAT", 1}, {"CAAAT", "CAAA", 4}, {"CAAAT", "AAAT", 0}} {
		x, at, e := extra.Find([]byte(c.y), of(t, []byte(c.x)))
		if e != api.OK || string(x) != c.x || at != c.at {
			t.Errorf("Find(%s, sums of %s): %s, %d, %d", c.y, c.x, x, at, e)
		}
	}
	// Of short words, all sums: just those of a word that y is with one letter left out are found.
	r := rand.New(rand.NewSource(1))
	for i := range 60 {
		y := word(r, 3+i%5, 2+i%3)
		n := len(y) - 1
		first := map[api.Sums]int{}
		for p := len(y) - 1; p >= 0; p-- {
			first[of(t, without(y, p))] = p
		}
		for a := range n {
			for b := range 4 {
				for c := range 6*n + 1 {
					s := api.Sums{T: a, S: b, W: c}
					x, at, e := extra.Find(y, s)
					p, ok := first[s]
					if ok && (e != api.OK || at != p || !bytes.Equal(x, without(y, p))) || !ok && (e != api.ErrNone || at != 0 || len(x) != 0) {
						t.Fatalf("Find(%s, %v): %s, %d, %d", y, s, x, at, e)
					}
				}
			}
		}
	}
}

func TestP14_1Wrong(t *testing.T) {
	long := strings.Repeat("A", 1001)
	none := api.Sums{}
	for _, c := range []struct {
		y string
		s api.Sums
		e api.Errno
	}{
		{"", none, api.ErrArg}, {"A", none, api.ErrArg}, {"AC", none, api.ErrArg}, {long, none, api.ErrArg}, {"N", none, api.ErrArg}, {long[1:] + "N", none, api.ErrArg},
		{"ACC", api.Sums{T: 2}, api.ErrArg}, {"ACC", api.Sums{T: -1}, api.ErrArg}, {"ACC", api.Sums{S: 4}, api.ErrArg}, {"ACC", api.Sums{S: -1}, api.ErrArg},
		{"ACC", api.Sums{W: 13}, api.ErrArg}, {"ACC", api.Sums{W: -1}, api.ErrArg}, {"ACN", api.Sums{W: 13}, api.ErrArg}, {"ACN", api.Sums{T: math.MaxInt}, api.ErrArg},
		{"ACN", none, api.ErrLetter}, {"NAC", none, api.ErrLetter}, {"AcC", none, api.ErrLetter}, {"AC\x00", api.Sums{T: 1, S: 1, W: 2}, api.ErrLetter},
		{"NAC", api.Sums{T: 1, S: 1, W: 2}, api.ErrLetter}, {"ACC", api.Sums{T: 0, S: 0, W: 0}, api.ErrNone}, {"ACC", api.Sums{T: 1, S: 3, W: 12}, api.ErrNone},
		{long[1:], api.Sums{S: 1}, api.ErrNone},
	} {
		if x, at, e := extra.Find([]byte(c.y), c.s); e != c.e || len(x) != 0 || at != 0 {
			t.Errorf("Find(%.9s, %d letters, %v): %s, %d, %d", c.y, len(c.y), c.s, x, at, e)
		}
	}
}

func TestP14_2Without(t *testing.T) {
	for _, c := range []struct {
		y    string
		at   int
		want string
	}{
		{"ACG", 0, "CG"}, {"ACG", 1, "AG"}, {"ACG", 2, "AC"}, {"ACG", 3, "ACG"}, {"ACG", -1, "ACG"}, {"ACG", math.MaxInt, "ACG"}, {"ACG", math.MinInt, "ACG"},
		{"", 0, ""}, {"", -1, ""}, {"N", 0, ""}, {"\x00\x01", 1, "\x00"},
	} {
		whole := []byte(c.y + "spare")
		o := extra.Without(whole[:len(c.y)], c.at)
		if string(o) != c.want {
			t.Errorf("Without(%q, %d): %q", c.y, c.at, o)
		}
		clear(append(o, "more"...))
		clear(o)
		if string(whole) != c.y+"spare" {
			t.Errorf("Without(%q, %d) shares memory", c.y, c.at)
		}
	}
}

func TestP14_2Runs(t *testing.T) {
	for y, want := range map[string][]int{"": nil, "A": {0}, "AA": {0}, "AC": {0, 1}, "AACCCA": {0, 2, 5}, "\x00\x00x": {0, 2}, "NNnn": {0, 2}, "ACGT": {0, 1, 2, 3}} {
		if l := extra.Runs([]byte(y)); !slices.Equal(l, want) {
			t.Errorf("Runs(%q): %v", y, l)
		}
	}
}

func TestP14_3Found(t *testing.T) {
	r := rand.New(rand.NewSource(2))
	for i := range 800 {
		n := 2 + i%70
		if i%100 == 99 {
			n = 999
		}
		x := word(r, n, 1+i%4)
		at, c := r.Intn(n+1), "ACGT"[r.Intn(4)]
		whole := append(append(append(bytes.Clone(x[:at]), c), x[at:]...), "spare"...)
		was := bytes.Clone(whole)
		y := whole[:n+1]
		found, place, e := extra.Find(y, of(t, x))
		if e != api.OK || !bytes.Equal(found, x) || place > at || of(t, found) != of(t, x) {
			t.Fatalf("%s with %c at %d: %s, %d, %d", x, c, at, found, place, e)
		}
		least := 0
		for !bytes.Equal(without(y, least), x) {
			least++
		}
		if place != least {
			t.Fatalf("%s: the place %d, not %d", y, place, least)
		}
		if runs := extra.Runs(y); !slices.Contains(runs, place) {
			t.Fatalf("%s: the place %d is none of %v", y, place, runs)
		}
		clear(append(found, "more"...))
		clear(found)
		if !bytes.Equal(whole, was) {
			t.Fatal("an argument was changed")
		}
	}
}
