package gap_test

import (
	"bytes"
	"math"
	"math/rand"
	"slices"
	"strings"
	"testing"

	"helix/api"
	"helix/gap"
)

// word is n letters of the first many of ACGT.
func word(r *rand.Rand, n, many int) []byte {
	s := make([]byte, n)
	for i := range s {
		s[i] = "ACGT"[r.Intn(many)]
	}
	return s
}

// with is y with c at p.
func with(y []byte, p int, c byte) []byte {
	return append(append(bytes.Clone(y[:p]), c), y[p:]...)
}

// sums are the sums T and S of x.
func sums(x []byte) (t, s int) {
	for i, c := range x {
		s += strings.IndexByte("ACGT", c)
		if i > 0 && c >= x[i-1] {
			t += i
		}
	}
	return t % len(x), s % 4
}

func TestP13_1Missing(t *testing.T) {
	for _, c := range []struct {
		y    string
		s    int
		want byte
	}{
		{"AC", 3, 'G'}, {"A", 0, 'A'}, {"A", 3, 'T'}, {"T", 3, 'A'}, {"T", 0, 'C'}, {"TTT", 2, 'C'}, {"TTT", 0, 'T'}, {"AC", 7, 'G'}, {"AC", -1, 'G'}, {"AC", -4, 'T'},
		{"A", math.MaxInt, 'T'}, {"A", math.MinInt, 'A'}, {"C", math.MinInt, 'T'}, {"G", math.MinInt + 1, 'T'}, {"TTTTT", math.MaxInt, 'A'},
	} {
		if o, e := gap.Missing([]byte(c.y), c.s); e != api.OK || o != c.want {
			t.Errorf("Missing(%s, %d): %c, %d", c.y, c.s, o, e)
		}
	}
}

func TestWrongRows(t *testing.T) {
	long := strings.Repeat("A", 1001)
	for y, want := range map[string]api.Errno{
		"": api.ErrArg, long: api.ErrArg, long[1:]: api.ErrArg, long[2:] + "N": api.ErrArg, "N": api.ErrLetter, "AN": api.ErrLetter, "NAC": api.ErrLetter,
		"a": api.ErrLetter, long[3:] + "N": api.ErrLetter, long[2:]: api.OK, "A": api.OK,
	} {
		c, e := gap.Missing([]byte(y), 2)
		if e != want || (e == api.OK) != (c != 0) {
			t.Errorf("Missing, %d letters: %d, %d", len(y), c, e)
		}
		l, e := gap.Rises([]byte(y), 'C')
		if e != want || e == api.OK && len(l) != len(y)+1 || e != api.OK && len(l) != 0 {
			t.Errorf("Rises, %d letters: %v, %d", len(y), l, e)
		}
		if want == api.OK {
			want = api.ErrLetter
		}
		if l, e := gap.Rises([]byte(y), 'x'); e != want || len(l) != 0 {
			t.Errorf("Rises with x, %d letters: %v, %d", len(y), l, e)
		}
		if want == api.ErrLetter && !strings.Contains(y, "N") && y != "a" {
			want = api.ErrNone
		}
		for _, bad := range [][2]int{{0, 4}, {0, -1}, {-1, 0}, {len(y) + 1, 0}, {math.MaxInt, 0}, {0, math.MinInt}, {0, math.MaxInt}} {
			if x, e := gap.Gap([]byte(y), bad[0], bad[1]); e != want || len(x) != 0 {
				t.Errorf("Gap, %d letters, %v: %s, %d", len(y), bad, x, e)
			}
		}
	}
}

func TestP13_2Rises(t *testing.T) {
	for _, c := range []struct {
		y    string
		c    byte
		want []int
	}{
		{"A", 'C', []int{0, 1}}, {"A", 'A', []int{1, 1}}, {"C", 'A', []int{1, 0}}, {"AC", 'G', []int{2, 1, 0}}, {"CA", 'A', []int{1, 2, 2}}, {"TGC", 'A', []int{1, 2, 3, 0}},
	} {
		if l, e := gap.Rises([]byte(c.y), c.c); e != api.OK || !slices.Equal(l, c.want) {
			t.Errorf("Rises(%s, %c): %v, %d", c.y, c.c, l, e)
		}
	}
	for _, bad := range []byte{0, 'a', 'N', 255} {
		if l, e := gap.Rises([]byte("ACGT"), bad); e != api.ErrLetter || len(l) != 0 {
			t.Errorf("Rises with %d: %v, %d", bad, l, e)
		}
	}
	r := rand.New(rand.NewSource(1))
	for i := range 400 {
		y, c := word(r, 1+i%60, 2+i%3), "ACGT"[r.Intn(4)]
		l, e := gap.Rises(y, c)
		if e != api.OK || len(l) != len(y)+1 {
			t.Fatalf("Rises(%s, %c): %v, %d", y, c, l, e)
		}
		for p := range l {
			if want, _ := sums(with(y, p, c)); l[p] != want {
				t.Fatalf("Rises(%s, %c) at %d: %d, not %d", y, c, p, l[p], want)
			}
		}
	}
}

func TestP13_3Gap(t *testing.T) {
	for _, c := range []struct {
		y    string
		t, s int
		want string
		e    api.Errno
	}{
		{"A", 1, 1, "AC", api.OK}, {"A", 0, 1, "CA", api.OK}, {"A", 1, 0, "AA", api.OK}, {"A", 0, 0, "", api.ErrNone}, {"A", 2, 1, "", api.ErrNone},
		{"A", 1, 5, "", api.ErrNone}, {"A", 1, -3, "", api.ErrNone}, {"A", -1, 1, "", api.ErrNone}, {"AC", 0, 3, "ACG", api.OK}, {"AC", 2, 3, "GAC", api.OK},
		{"AN", 1, 1, "", api.ErrLetter}, {"AN", 1, 9, "", api.ErrLetter}, {"", 0, 0, "", api.ErrArg}, {"", 0, 9, "", api.ErrArg},
	} {
		if x, e := gap.Gap([]byte(c.y), c.t, c.s); e != c.e || string(x) != c.want {
			t.Errorf("Gap(%s, %d, %d): %s, %d", c.y, c.t, c.s, x, e)
		}
	}
	// All words that a short row comes of: just those sums are told, and of each just one word.
	for _, y := range []string{"A", "T", "AC", "CA", "GG", "ACG", "TGA", "CCAT"} {
		words := map[[2]int]string{}
		for p := range len(y) + 1 {
			for _, c := range []byte("ACGT") {
				x := with([]byte(y), p, c)
				a, b := sums(x)
				if was, ok := words[[2]int{a, b}]; ok && was != string(x) {
					t.Fatalf("%s and %s", was, x)
				}
				words[[2]int{a, b}] = string(x)
			}
		}
		for a := -1; a < len(y)+3; a++ {
			for b := -1; b < 6; b++ {
				want, ok := words[[2]int{a, b}]
				x, e := gap.Gap([]byte(y), a, b)
				if string(x) != want || ok != (e == api.OK) || !ok && e != api.ErrNone {
					t.Fatalf("Gap(%s, %d, %d): %s, %d, not %s", y, a, b, x, e, want)
				}
			}
		}
	}
}

func TestP13_4ComesBack(t *testing.T) {
	r := rand.New(rand.NewSource(2))
	for i := range 500 {
		n := 2 + i%80
		if i%100 == 99 {
			n = 1000
		}
		x := word(r, n, 1+i%4)
		a, b := sums(x)
		at := r.Intn(n)
		whole := append(append(bytes.Clone(x[:at]), x[at+1:]...), "spare"...)
		was := bytes.Clone(whole)
		y := whole[:n-1]
		back, e := gap.Gap(y, a, b)
		if e != api.OK || !bytes.Equal(back, x) {
			t.Fatalf("%s without its letter %d: %s, %d", x, at, back, e)
		}
		if c, e := gap.Missing(y, b); e != api.OK || c != x[at] {
			t.Fatalf("%s without its letter %d: %c misses, %d", x, at, c, e)
		}
		gap.Rises(y, 'C')
		clear(append(back, "more"...))
		if !bytes.Equal(whole, was) {
			t.Fatal("an argument was changed")
		}
	}
	// Into a run of the same letter, wherever in it, it is the same word.
	l, _ := gap.Rises([]byte("CAAAG"), 'A')
	if l[1] != l[2] || l[2] != l[3] || l[3] != l[4] {
		t.Error("within a run", l)
	}
}
