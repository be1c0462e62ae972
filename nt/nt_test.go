package nt_test

import (
	"bytes"
	"math"
	"math/rand"
	"slices"
	"strings"
	"testing"

	"helix/api"
	"helix/nt"
)

const four = "ACGT"

// row is a row of n letters.
func row(r *rand.Rand, n int) []byte {
	s := make([]byte, n)
	for i := range s {
		s[i] = four[r.Intn(4)]
	}
	return s
}

// roomy is s with spare room behind it, filled, and a check that neither it nor the room has changed.
func roomy(s []byte) ([]byte, func() bool) {
	whole := append(bytes.Clone(s), "spare"...)
	was := bytes.Clone(whole)
	return whole[:len(s)], func() bool { return bytes.Equal(whole, was) }
}

func TestP1_1EveryByte(t *testing.T) {
	for c := range 256 {
		want := strings.IndexByte(four, byte(c))
		n, e := nt.Code(byte(c))
		if want < 0 && (n != 0 || e != api.ErrLetter) || want >= 0 && (n != want || e != api.OK) {
			t.Errorf("Code(%d): %d, %d", c, n, e)
		}
		for at := range 3 {
			s := []byte("GAT")
			s[at] = byte(c)
			if nt.Valid(s) != (want >= 0) {
				t.Errorf("Valid(%q)", s)
			}
			l, e := nt.Codes(s)
			if want < 0 && (len(l) != 0 || e != api.ErrLetter) || want >= 0 && (len(l) != 3 || l[at] != want || e != api.OK) {
				t.Errorf("Codes(%q): %v, %d", s, l, e)
			}
		}
	}
}

func TestP1_1Nothing(t *testing.T) {
	for _, s := range [][]byte{nil, {}} {
		l, e := nt.Codes(s)
		if !nt.Valid(s) || len(l) != 0 || e != api.OK {
			t.Errorf("of nothing: %v, %d", l, e)
		}
	}
	if len(nt.Text(nil)) != 0 {
		t.Error("Text of nothing")
	}
}

func TestP1_1Letter(t *testing.T) {
	for n, want := range map[int]byte{
		0: 'A', 1: 'C', 2: 'G', 3: 'T', 4: 'A', 7: 'T', 1001: 'C',
		-1: 'T', -2: 'G', -3: 'C', -4: 'A', -5: 'T',
		math.MinInt: 'A', math.MinInt + 1: 'C', math.MaxInt: 'T', math.MaxInt - 1: 'G',
	} {
		if nt.Letter(n) != want || string(nt.Text([]int{0, n})) != "A"+string(want) {
			t.Errorf("Letter(%d): %c", n, nt.Letter(n))
		}
	}
}

func TestP1_1CodesAndText(t *testing.T) {
	r := rand.New(rand.NewSource(1))
	for n := range 50 {
		s := row(r, n)
		l, e := nt.Codes(s)
		if e != api.OK || !bytes.Equal(nt.Text(l), s) {
			t.Errorf("%q: %v, %d", s, l, e)
		}
	}
	l := []int{3, -1, 6}
	nt.Text(l)
	if !slices.Equal(l, []int{3, -1, 6}) {
		t.Error("Text changed its argument", l)
	}
}

func TestP1_2Rc(t *testing.T) {
	for s, want := range map[string]string{"": "", "A": "T", "C": "G", "G": "C", "T": "A", "AACG": "CGTT", "GATTACA": "TGTAATC"} {
		if r, e := nt.Rc([]byte(s)); e != api.OK || string(r) != want {
			t.Errorf("Rc(%s): %s, %d", s, r, e)
		}
	}
	for _, s := range []string{"a", "N", "ACGN", "NACG", "AC GT", "ACGT\x00"} {
		if r, e := nt.Rc([]byte(s)); e != api.ErrLetter || len(r) != 0 {
			t.Errorf("Rc(%q): %q, %d", s, r, e)
		}
	}
	s, same := roomy([]byte("ACGTT"))
	turned, _ := nt.Rc(s)
	turned[0] = 'X'
	if !same() {
		t.Error("Rc changed its argument")
	}
}

func TestP1_2Least(t *testing.T) {
	for _, c := range []struct {
		s, least string
		turned   bool
	}{
		{"", "", false}, {"A", "A", false}, {"T", "A", true}, {"C", "C", false}, {"G", "C", true},
		{"ACGT", "ACGT", false}, {"TT", "AA", true}, {"TG", "CA", true}, {"CA", "CA", false},
		{"TN", "TN", false}, {"tt", "tt", false},
	} {
		s, same := roomy([]byte(c.s))
		least, turned := nt.Least(s)
		if string(least) != c.least || turned != c.turned {
			t.Errorf("Least(%q): %q, %v", c.s, least, turned)
		}
		for i := range least {
			least[i] = 'X'
		}
		if !same() {
			t.Errorf("Least(%q) shares memory", c.s)
		}
	}
}

func TestP1_3RunAndGc(t *testing.T) {
	for _, c := range []struct {
		s       string
		run, gc int
	}{
		{"", 0, 0}, {"A", 1, 0}, {"ACCCT", 3, 3}, {"AACCCC", 4, 4}, {"GGGA", 3, 3}, {"AAGAAA", 3, 1},
		{"ACGT", 1, 2}, {"NNN", 3, 0}, {"cg\x00\x00", 2, 0}, {"CNCNG", 1, 3}, {"AABAA", 2, 0},
	} {
		if run, gc := nt.Run([]byte(c.s)), nt.Gc([]byte(c.s)); run != c.run || gc != c.gc {
			t.Errorf("%q: %d, %d", c.s, run, gc)
		}
	}
}

func TestP1_4Sort(t *testing.T) {
	l := [][]byte{[]byte("T"), []byte("AC"), nil, []byte("A"), []byte("\xff"), []byte("AC"), []byte("a"), []byte("AAA")}
	was := make([][]byte, len(l))
	for i := range l {
		was[i] = bytes.Clone(l[i])
	}
	sorted := nt.Sort(l)
	want := []string{"", "A", "AAA", "AC", "AC", "T", "a", "\xff"}
	if len(sorted) != len(want) {
		t.Fatal(len(sorted))
	}
	for i := range want {
		if string(sorted[i]) != want[i] {
			t.Errorf("%d: %q", i, sorted[i])
		}
	}
	for _, s := range sorted {
		s = append(s, "more"...)
		for i := range s {
			s[i] = '!'
		}
	}
	if !slices.EqualFunc(l, was, bytes.Equal) {
		t.Error("Sort changed its argument")
	}
	if len(nt.Sort(nil)) != 0 {
		t.Error("Sort of nothing")
	}
}

func TestP1_4SortOwnMemory(t *testing.T) {
	same := []byte("ACGT")
	sorted := nt.Sort([][]byte{same, same, same[:2]})
	for _, s := range sorted {
		clear(append(s, "spare"...))
	}
	sorted = nt.Sort([][]byte{same, same, same[:2]})
	sorted[1][0] = 'T'
	_ = append(sorted[0], "GG"...)
	if string(same) != "ACGT" || string(sorted[0]) != "AC" || string(sorted[1]) != "TCGT" || string(sorted[2]) != "ACGT" {
		t.Errorf("rows share memory: %q", sorted)
	}
}

func TestP1_5TurnedAbout(t *testing.T) {
	r := rand.New(rand.NewSource(2))
	for i := range 300 {
		s := row(r, i%40)
		turned, e := nt.Rc(s)
		if e != api.OK || len(turned) != len(s) {
			t.Fatalf("%q: %q, %d", s, turned, e)
		}
		back, _ := nt.Rc(turned)
		if !bytes.Equal(back, s) || nt.Run(s) != nt.Run(turned) || nt.Gc(s) != nt.Gc(turned) {
			t.Errorf("%q, turned about %q", s, turned)
		}
		a, wasA := nt.Least(s)
		b, wasB := nt.Least(turned)
		if !bytes.Equal(a, b) || wasA && wasB || wasA == wasB && !bytes.Equal(s, turned) {
			t.Errorf("%q: lesser ones %q, %q", s, a, b)
		}
		if wasA != (bytes.Compare(turned, s) < 0) {
			t.Errorf("%q: turned %v", s, wasA)
		}
	}
}
