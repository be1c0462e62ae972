package consensus_test

import (
	"bytes"
	"math"
	"math/rand"
	"testing"

	"helix/consensus"
)

func rows(l ...string) [][]byte {
	o := [][]byte{}
	for _, s := range l {
		o = append(o, []byte(s))
	}
	return o
}

// some are rows of a few lengths and letters.
func some(r *rand.Rand, many int) [][]byte {
	var l [][]byte
	for range many {
		s := make([]byte, 3+r.Intn(2)*r.Intn(2))
		for i := range s {
			s[i] = "ACG\xff"[r.Intn(4)]
		}
		l = append(l, s)
	}
	return l
}

func TestP27_1Length(t *testing.T) {
	for _, c := range []struct {
		l    [][]byte
		want int
		ok   bool
	}{
		{nil, 0, false}, {rows(""), 0, true}, {[][]byte{nil, nil}, 0, true}, {rows("A"), 1, true}, {rows("AC", "A", "GC", "T"), 1, true}, {rows("AC", "A", "GC"), 2, true}, {rows("ACG", "", "A"), 0, true},
		{rows("ACG", "AC", "TTT", "AC", "ACGTT"), 2, true}, {rows("ACGTACGT", "ACGTACGA", "A"), 8, true}, {[][]byte{nil, {}, []byte("A")}, 0, true}, {rows("AAAA", "AA", "AAA"), 2, true},
	} {
		if n, ok := consensus.Length(c.l); n != c.want || ok != c.ok {
			t.Errorf("Length(%q): %d, %v", c.l, n, ok)
		}
	}
}

func TestP27_2Column(t *testing.T) {
	l := rows("ACG", "ACT", "AAG", "TTTTT", "C", "GG")
	for _, c := range []struct {
		l     [][]byte
		at    int
		want  byte
		votes int
		ok    bool
	}{
		{l, 0, 'A', 3, true}, {l, 1, 'C', 2, true}, {l, 2, 'G', 2, true}, {l, 3, 0, 0, false}, {l, -1, 0, 0, false}, {l, math.MaxInt, 0, 0, false}, {l, math.MinInt, 0, 0, false}, {nil, 0, 0, 0, false},
		{rows(""), 0, 0, 0, false}, {rows("", "", "A"), 0, 0, 0, false}, {rows("T", "A"), 0, 'A', 1, true}, {rows("AC", "A", "GC", "T"), 0, 'A', 1, true}, {rows("AC", "A", "GC", "T"), 1, 0, 0, false},
		{rows("\xff", "\x00"), 0, 0, 1, true}, {rows("\xff", "\x00", "\xff"), 0, 255, 2, true}, {rows("b", "c", "c", "b", "a"), 0, 'b', 2, true},
	} {
		if o, n, ok := consensus.Column(c.l, c.at); o != c.want || n != c.votes || ok != c.ok {
			t.Errorf("Column(%q, %d): %d, %d, %v", c.l, c.at, o, n, ok)
		}
	}
}

func TestP27_3Of(t *testing.T) {
	for _, c := range []struct {
		l    [][]byte
		want string
		ok   bool
	}{
		{nil, "", false}, {rows("ACG", "ACT", "AAG"), "ACG", true}, {rows("AC", "A", "GC", "T"), "A", true}, {rows(""), "", true}, {rows("", "", "A"), "", true}, {rows("TG", "GT", "CC", "AAA"), "CC", true},
		{rows("GT", "TG"), "GG", true}, {rows("ACGT"), "ACGT", true}, {rows("xyz", "xyw", "XYW", "xy"), "xyW", true},
	} {
		o, ok := consensus.Of(c.l)
		if string(o) != c.want || ok != c.ok || !ok && len(o) != 0 {
			t.Errorf("Of(%q): %q, %v", c.l, o, ok)
		}
	}
	l := rows("ACG", "ACG")
	o, _ := consensus.Of(l)
	clear(append(o, "more"...))
	clear(o)
	if string(l[0]) != "ACG" || string(l[1]) != "ACG" {
		t.Error("Of shares memory")
	}
}

func TestP27_3Apart(t *testing.T) {
	for _, c := range []struct {
		l    [][]byte
		s    string
		want int
	}{
		{nil, "ACG", 0}, {nil, "", 0}, {rows("ACG", "ACT", "TTT", "AC", "ACGT"), "ACG", 4}, {rows("", "A"), "", 0}, {rows("A", "C", "G"), "A", 2}, {rows("AC", "AC"), "AC", 0}, {rows("AC", "AC"), "CA", 4}, {rows("ACG"), "AC", 0},
	} {
		if n := consensus.Apart(c.l, []byte(c.s)); n != c.want {
			t.Errorf("Apart(%q, %s): %d", c.l, c.s, n)
		}
	}
}

func TestP27_4Follows(t *testing.T) {
	r := rand.New(rand.NewSource(1))
	for range 500 {
		l := some(r, 1+r.Intn(8))
		of, ok := consensus.Of(l)
		length, _ := consensus.Length(l)
		if !ok || len(of) != length {
			t.Fatalf("Of(%q): %q, %v", l, of, ok)
		}
		for at := range of {
			c, votes, ok := consensus.Column(l, at)
			have := 0
			for _, s := range l {
				if len(s) == length && s[at] == c {
					have++
				}
			}
			if !ok || c != of[at] || votes != have {
				t.Fatalf("Column(%q, %d): %c, %d, %v", l, at, c, votes, ok)
			}
		}
		// No other row of that length, of these letters, is less apart.
		apart := consensus.Apart(l, of)
		for range 30 {
			other := make([]byte, length)
			for i := range other {
				other[i] = "ACG\xff"[r.Intn(4)]
			}
			if consensus.Apart(l, other) < apart {
				t.Fatalf("%q is less apart from %q than %q", other, l, of)
			}
		}
		for _, s := range l {
			same := 0
			for _, other := range l {
				if bytes.Equal(s, other) {
					same++
				}
			}
			if 2*same > len(l) && !bytes.Equal(of, s) {
				t.Fatalf("Of(%q): %q", l, of)
			}
		}
		r.Shuffle(len(l), func(i, k int) { l[i], l[k] = l[k], l[i] })
		again, _ := consensus.Of(l)
		n, _ := consensus.Length(l)
		if !bytes.Equal(again, of) || n != length || consensus.Apart(l, of) != apart {
			t.Fatalf("in another order: %q", l)
		}
	}
}
