package cluster_test

import (
	"bytes"
	"math/rand"
	"slices"
	"strings"
	"testing"

	"helix/api"
	"helix/cluster"
	"helix/edit"
	"helix/nt"
)

func rows(l ...string) [][]byte {
	o := [][]byte{}
	for _, s := range l {
		o = append(o, []byte(s))
	}
	return o
}

func texts(l [][]byte) []string {
	o := []string{}
	for _, s := range l {
		o = append(o, string(s))
	}
	return o
}

func joined(l [][][]byte) string {
	var o []string
	for _, c := range l {
		o = append(o, strings.Join(texts(c), " "))
	}
	return strings.Join(o, " | ")
}

// row is n letters.
func row(r *rand.Rand, n int) []byte {
	s := make([]byte, n)
	for i := range s {
		s[i] = "ACGT"[r.Intn(4)]
	}
	return s
}

// spoil changes all bytes of a list, and of what may stand behind each.
func spoil(l [][]byte) {
	for _, s := range l {
		clear(append(s, "more"...))
		clear(s)
	}
}

func TestP26_1Clean(t *testing.T) {
	full, long := strings.Repeat("ACGT", 250), strings.Repeat("ACGT", 250)+"A"
	l := rows("ACGT", "", "N", "A", "ACGN", "acgt", full, long, "T\x00", "ACGT", "GG ", "TTTT")
	l = append(l, nil)
	was := texts(l)
	o := cluster.Clean(l)
	if !slices.Equal(texts(o), []string{"ACGT", "A", full, "ACGT", "TTTT"}) {
		t.Errorf("Clean: %q", o)
	}
	o[0] = append(o[0], "GG"...)
	if !slices.Equal(texts(o), []string{"ACGTGG", "A", full, "ACGT", "TTTT"}) {
		t.Error("rows of an answer share memory")
	}
	spoil(o)
	o = cluster.Turned(l)
	if !slices.Equal(texts(o), []string{"A", "AAAA", "ACGT", "ACGT", full}) {
		t.Errorf("Turned: %q", o)
	}
	spoil(o)
	if !slices.Equal(texts(l), was) {
		t.Error("an argument was changed")
	}
	if len(cluster.Clean(nil)) != 0 || len(cluster.Turned(nil)) != 0 || len(cluster.Clean(rows("", "x"))) != 0 {
		t.Error("of nothing")
	}
}

func TestP26_1Turned(t *testing.T) {
	if o := texts(cluster.Turned(rows("TG", "CA", "TT", "GA", "TC", "N", "CG"))); !slices.Equal(o, []string{"AA", "CA", "CA", "CG", "GA", "GA"}) {
		t.Error(o)
	}
}

func TestP26_2Group(t *testing.T) {
	for _, c := range []struct {
		l    [][]byte
		want string
	}{
		{nil, ""}, {rows("AC"), "AC"}, {rows("AAAA", "CCCC"), "AAAA CCCC"}, {rows("AAAAA", "CCCCC"), "AAAAA | CCCCC"}, {rows("AAAAAA", "CCAAAA", "CCCCAA", "CCCCCC", "AAAAAA"), "AAAAAA CCAAAA CCCCAA AAAAAA | CCCCCC"},
		{rows("AAAAAAAA", "CCCCCCCC", "AAAACCCC", "AAACCCCC"), "AAAAAAAA AAAACCCC | CCCCCCCC AAACCCCC"}, {rows("CCCCCCCC", "AAAAAAAA", "AAAACCCC"), "CCCCCCCC AAAACCCC | AAAAAAAA"},
		{rows("", "AAAA", "AAAAA", "NNNN"), " AAAA NNNN | AAAAA"}, {rows("nnnnnn", "NNNNNN", "nnnnnN"), "nnnnnn nnnnnN | NNNNNN"}, {rows("ACGTACGT", "ACGT", "ACG"), "ACGTACGT ACGT | ACG"},
		{rows("TTTTTTTT", "AAAAAAAA"), "TTTTTTTT | AAAAAAAA"},
	} {
		was := texts(c.l)
		o := cluster.Group(c.l)
		if joined(o) != c.want {
			t.Errorf("Group(%q): %s", c.l, joined(o))
		}
		for i, n := range cluster.Sizes(o) {
			if n != len(o[i]) {
				t.Errorf("Sizes of %s: %d", joined(o), n)
			}
		}
		for _, l := range o {
			spoil(l)
		}
		if !slices.Equal(texts(c.l), was) {
			t.Error("an argument was changed")
		}
	}
	if !slices.Equal(cluster.Sizes([][][]byte{nil, rows("A", ""), {}, rows("x")}), []int{0, 2, 0, 1}) || len(cluster.Sizes(nil)) != 0 {
		t.Error("Sizes")
	}
	// Letters behind the first MaxWord count for nothing.
	long := strings.Repeat("ACGT", 250)
	if o := cluster.Sizes(cluster.Group(rows(long+"AAAAAAAAAA", long, long+"TTTTTTTTT"))); !slices.Equal(o, []int{3}) {
		t.Error("of long reads", o)
	}
}

// TestP26_2Reference holds Group against the distances.
func TestP26_2Reference(t *testing.T) {
	r := rand.New(rand.NewSource(1))
	for range 60 {
		base := rows(string(row(r, 12)), string(row(r, 12)), string(row(r, 9)))
		var l [][]byte
		for range 25 {
			s := base[r.Intn(3)]
			for range r.Intn(7) {
				x := edit.Edits(s)
				s = edit.Apply(s, x[r.Intn(len(x))])
			}
			l = append(l, s)
		}
		var want [][][]byte
		for _, s := range l {
			at := slices.IndexFunc(want, func(c [][]byte) bool { return edit.Distance(c[0], s) <= api.Like })
			if at < 0 {
				want = append(want, nil)
				at = len(want) - 1
			}
			want[at] = append(want[at], s)
		}
		if o := cluster.Group(l); joined(o) != joined(want) {
			t.Fatalf("Group(%q): %s, not %s", l, joined(o), joined(want))
		}
	}
}

func TestP26_3Follows(t *testing.T) {
	if o := cluster.All(rows("AC", "GT")); joined(o) != "AC AC" {
		t.Error("AC and GT", joined(o))
	}
	if len(cluster.All(nil)) != 0 || len(cluster.All(rows("", "N"))) != 0 {
		t.Error("of nothing")
	}
	r := rand.New(rand.NewSource(2))
	for range 40 {
		var l [][]byte
		for range 6 {
			s := row(r, 15+r.Intn(3))
			for range 1 + r.Intn(4) {
				x := edit.Edits(s)
				l = append(l, edit.Apply(s, x[r.Intn(len(x))]))
			}
		}
		l = append(l, nil, []byte("NNN"), []byte("acgt"))
		want := joined(cluster.All(l))
		if want != joined(cluster.Group(cluster.Turned(l))) {
			t.Fatal("not Group of Turned")
		}
		r.Shuffle(len(l), func(i, k int) { l[i], l[k] = l[k], l[i] })
		for i, s := range l {
			if turned, e := nt.Rc(s); e == api.OK && r.Intn(2) == 0 {
				l[i] = turned
			}
		}
		all := cluster.All(l)
		if joined(all) != want {
			t.Fatalf("in another order: %s, not %s", joined(all), want)
		}
		var each [][]byte
		for _, c := range all {
			if len(c) == 0 {
				t.Fatal("an empty cluster")
			}
			each = append(each, c...)
		}
		if !slices.EqualFunc(nt.Sort(each), cluster.Turned(l), bytes.Equal) {
			t.Fatal("a read is in no cluster, or in two")
		}
	}
}
