package primers_test

import (
	"math"
	"math/rand"
	"slices"
	"strings"
	"testing"

	"helix/api"
	"helix/edit"
	"helix/primers"
)

// may tells whether s may be a primer.
func may(s string) bool {
	strong := 0
	for i, c := range []byte(s) {
		if !strings.ContainsRune("ACGT", rune(c)) || i > 1 && s[i-1] == c && s[i-2] == c {
			return false
		}
		if c == 'C' || c == 'G' {
			strong++
		}
	}
	return len(s) == 16 && strong == 8
}

func distance(a, b string) int {
	return edit.Distance([]byte(a), []byte(b))
}

// library are the first so many primers by the seed, and how many words were tried.
func library(many int, seed uint64) (l []string, tried int) {
	for len(l) < many {
		w := ""
		for range 16 {
			seed = seed*6364136223846793005 + 1442695040888963407
			w += string("ACGT"[seed>>62])
		}
		tried++
		if may(w) && !slices.ContainsFunc(l, func(p string) bool { return distance(p, w) < 5 }) {
			l = append(l, w)
		}
	}
	return l, tried
}

// pairs are the primers, two by two.
func pairs(l []string) []api.Pair {
	var o []api.Pair
	for i := 0; i+1 < len(l); i += 2 {
		o = append(o, api.Pair{Forward: l[i], Reverse: l[i+1]})
	}
	return o
}

// at is a primer that is so far from p.
func at(t *testing.T, r *rand.Rand, p string, far int) string {
	t.Helper()
	for range 1000000 {
		q := []byte(p)
		for range far {
			q[r.Intn(16)] = "ACGT"[r.Intn(4)]
		}
		if may(string(q)) && distance(p, string(q)) == far {
			return string(q)
		}
	}
	t.Fatal("no primer so far from", p)
	return ""
}

func TestP20_1One(t *testing.T) {
	for s, want := range map[string]bool{
		"ACACACACACACACAC": true, "AACCAACCAACCAACC": true, "GTGTGTGTGTGTGTGT": true, "AACCAACCAACCAAC": false, "AACCAACCAACCAACCA": false, "": false,
		"AAACAACCAACCACCC": false, "AACCAACCAACCACCC": false, "AATTAATTAATTAATT": false, "CCGGCCGGCCGGCCGG": false, "AACCAACCAACCAACA": false, "AACCAACCAACCAACN": false,
		"aaccaaccaaccaacc": false, "AACCAACCAACCAAC\x00": false, "NNNNNNNNCGCGCGCG": false, "AATCAACCAACCCACC": false, "ACGTACGTACGTACGC": false, "TACGTACGTACGTACG": true,
	} {
		if primers.One(s) != want || may(s) != want {
			t.Errorf("One(%q): %v", s, primers.One(s))
		}
	}
	r := rand.New(rand.NewSource(1))
	for range 3000 {
		s := make([]byte, 16)
		for i := range s {
			s[i] = "ACGT"[r.Intn(4)]
		}
		if primers.One(string(s)) != may(string(s)) {
			t.Fatalf("One(%s)", s)
		}
	}
}

func TestP20_1AllAndLeast(t *testing.T) {
	a, b := api.Pair{Forward: "AC", Reverse: "ACG"}, api.Pair{Forward: "TTTT", Reverse: ""}
	if l := primers.All(a, b); !slices.Equal(l, []string{"AC", "ACG", "TTTT", ""}) {
		t.Error("All", l)
	}
	if len(primers.All()) != 0 || primers.Least() != -1 {
		t.Error("of no pairs")
	}
	if primers.Least(a) != 1 || primers.Least(b) != 4 || primers.Least(a, b) != 1 || primers.Least(b, a) != 1 || primers.Least(a, a) != 0 || primers.Least(b, b) != 0 {
		t.Error("Least", primers.Least(a), primers.Least(b), primers.Least(a, b))
	}
	c := api.Pair{Forward: "ACGTACGTACGT", Reverse: "GGGGGGGGGG"}
	if n := primers.Least(c, api.Pair{Forward: "TTTTTTTTTTTT", Reverse: "ACGTACGTACGTAC"}); n != 2 {
		t.Error("the least is of two pairs", n)
	}
}

func TestP20_1Check(t *testing.T) {
	l, _ := library(18, 7)
	good := pairs(l)
	if e := primers.Check(); e != api.OK {
		t.Error("of none", e)
	}
	for n := range 9 {
		if e := primers.Check(good[:n]...); e != api.OK {
			t.Errorf("%d pairs: %d", n, e)
		}
	}
	if e := primers.Check(good...); e != api.ErrPrimers {
		t.Error("nine pairs", e)
	}
	if e := primers.Check(make([]api.Pair, 100000)...); e != api.ErrPrimers {
		t.Error("many pairs", e)
	}
	for i := range 6 {
		for _, bad := range []string{"", "ACGT", strings.Repeat("AC", 9), strings.Repeat("AT", 8), strings.Repeat("N", 16), l[(i+1)%6], l[(i+3)%6]} {
			other := slices.Clone(l[:6])
			other[i] = bad
			if e := primers.Check(pairs(other)...); e != api.ErrPrimers {
				t.Errorf("the primer %d is %q: %d", i, bad, e)
			}
		}
	}
	r := rand.New(rand.NewSource(2))
	for i := range 6 {
		for far := 2; far <= 6; far++ {
			other := slices.Clone(l[:6])
			other[i] = at(t, r, l[(i+1)%6], far)
			want := api.OK
			if far < 5 || primers.Least(pairs(other)...) < 5 {
				want = api.ErrPrimers
			}
			if e := primers.Check(pairs(other)...); e != want {
				t.Errorf("the primer %d is %d from another one: %d", i, far, e)
			}
		}
	}
	p := l[0]
	if e := primers.Check(api.Pair{Forward: p, Reverse: at(t, r, p, 5)}); e != api.OK {
		t.Error("just far enough", e)
	}
	if e := primers.Check(api.Pair{Forward: p, Reverse: at(t, r, p, 4)}); e != api.ErrPrimers {
		t.Error("just too near", e)
	}
}

func TestP20_2Library(t *testing.T) {
	for _, seed := range []uint64{0, 1, 2, 12345, math.MaxUint64, 1 << 63} {
		l, tried := library(16, seed)
		if tried > 20000 {
			t.Fatal("too many words tried", seed)
		}
		for n := range 9 {
			o, e := primers.Library(n, seed)
			if e != api.OK || !slices.Equal(o, pairs(l[:2*n])) {
				t.Fatalf("Library(%d, %d): %v, %d, not %v", n, seed, o, e, l[:2*n])
			}
			if e := primers.Check(o...); e != api.OK {
				t.Errorf("a library that may not be: %v", o)
			}
		}
	}
	for _, n := range []int{-1, 9, math.MinInt, math.MaxInt} {
		if o, e := primers.Library(n, 1); e != api.ErrArg || len(o) != 0 {
			t.Errorf("Library(%d): %v, %d", n, o, e)
		}
	}
}

func TestP20_3Begins(t *testing.T) {
	l, _ := library(6, 3)
	good := pairs(l)
	for i, p := range l {
		for _, read := range []string{p, p + "ACGTACGT", p[1:] + "ACGT", p[:15], p[:8] + p[9:] + "TTT", "A" + p, p[:5] + "N" + p[5:] + "CCC", p[:5] + "N" + p[6:], "N" + p[1:] + "GG"} {
			if which, ok := primers.Begins(good, read); which != i || !ok {
				t.Errorf("Begins(%s): %d, %v, not %d", read, which, ok, i)
			}
		}
		for _, read := range []string{"", p[2:], p[:14], "NN" + p, "N" + p[:7] + "N" + p[8:], p[:5] + "NN" + p[7:]} {
			if which, ok := primers.Begins(good, read); which != -1 || ok {
				t.Errorf("Begins(%s): %d, %v", read, which, ok)
			}
		}
	}
	if which, ok := primers.Begins(nil, l[0]); which != -1 || ok {
		t.Error("of no pairs", which, ok)
	}
	same := []api.Pair{{Forward: "TTTT", Reverse: "ACGT"}, {Forward: "ACGT", Reverse: "AC"}}
	for read, want := range map[string]int{"ACGTT": 1, "TTTTC": 0, "TTGT": 0, "GGGGG": -1, "AG": 3, "C": 3} {
		if which, ok := primers.Begins(same, read); which != want || ok != (want >= 0) {
			t.Errorf("Begins(%s): %d, %v", read, which, ok)
		}
	}
	if which, ok := primers.Begins([]api.Pair{{Forward: "GGGG", Reverse: ""}}, "ACGT"); which != 1 || !ok {
		t.Error("an empty primer begins each read", which, ok)
	}
	if which, ok := primers.Begins(good, l[4]+strings.Repeat("ACGT", 2000)); which != 4 || !ok {
		t.Error("a long read", which, ok)
	}
}

func TestP20_4AtMostOne(t *testing.T) {
	r := rand.New(rand.NewSource(4))
	for seed := range uint64(5) {
		good, _ := primers.Library(8, seed)
		all := primers.All(good...)
		if primers.Least(good...) < api.Apart {
			t.Fatal("too near", seed)
		}
		for range 1000 {
			read := []byte(all[r.Intn(16)] + "ACGTAC")
			for range r.Intn(7) {
				l := edit.Edits(read)
				read = edit.Apply(read, l[r.Intn(len(l))])
			}
			begin, first := 0, -1
			for i, p := range all {
				if edit.Prefix([]byte(p), read) <= 1 {
					begin++
					first = i
				}
			}
			which, ok := primers.Begins(good, string(read))
			if begin > 1 || which != first || ok != (begin == 1) {
				t.Fatalf("%s: %d primers, %d, %v", read, begin, which, ok)
			}
		}
	}
}
