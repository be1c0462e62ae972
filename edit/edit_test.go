package edit_test

import (
	"bytes"
	"math"
	"math/rand"
	"slices"
	"strconv"
	"strings"
	"testing"

	"helix/api"
	"helix/edit"
)

// word is n letters of the first many of ACGT.
func word(r *rand.Rand, n, many int) []byte {
	s := make([]byte, n)
	for i := range s {
		s[i] = "ACGT"[r.Intn(many)]
	}
	return s
}

// table is the distance of each beginning of a and each of b, row by row.
func table(a, b []byte) [][]int {
	d := make([][]int, len(a)+1)
	for i := range d {
		d[i] = make([]int, len(b)+1)
		for j := range d[i] {
			switch {
			case i == 0:
				d[i][j] = j
			case j == 0:
				d[i][j] = i
			case a[i-1] == b[j-1]:
				d[i][j] = d[i-1][j-1]
			default:
				d[i][j] = 1 + min(d[i-1][j-1], d[i-1][j], d[i][j-1])
			}
		}
	}
	return d
}

func TestP2_1Apply(t *testing.T) {
	for _, c := range []struct {
		s    string
		kind uint8
		at   int
		by   byte
		want string
	}{
		{"ACGT", api.EditNone, 2, 'A', "ACGT"},
		{"ACGT", 4, 2, 'A', "ACGT"},
		{"ACGT", 255, 2, 'A', "ACGT"},
		{"ACGT", api.EditGap, 0, 'A', "CGT"},
		{"ACGT", api.EditGap, 3, 'A', "ACG"},
		{"ACGT", api.EditGap, 4, 'A', "CGT"},
		{"ACGT", api.EditGap, -1, 'A', "ACG"},
		{"ACGT", api.EditGap, -4, 'A', "CGT"},
		{"ACGT", api.EditGap, math.MaxInt, 'A', "ACG"},
		{"ACGT", api.EditGap, math.MinInt, 'A', "CGT"},
		{"ACGT", api.EditMore, 0, 'T', "TACGT"},
		{"ACGT", api.EditMore, 2, 'T', "ACTGT"},
		{"ACGT", api.EditMore, 4, 'G', "ACGTG"},
		{"ACGT", api.EditMore, 5, 'G', "GACGT"},
		{"ACGT", api.EditMore, -1, 'G', "ACGTG"},
		{"ACGT", api.EditMore, -5, 'G', "GACGT"},
		{"ACG", api.EditMore, math.MaxInt, 'T', "ACGT"},
		{"ACG", api.EditMore, math.MinInt, 'T', "TACG"},
		{"ACGT", api.EditSwap, 0, 'G', "GCGT"},
		{"ACGT", api.EditSwap, 3, 'A', "ACGA"},
		{"ACGT", api.EditSwap, 6, 'x', "ACxT"},
		{"ACGT", api.EditSwap, -2, 0, "AC\x00T"},
		{"ACGT", api.EditSwap, 1, 'C', "ACGT"},
		{"A", api.EditGap, 7, 0, ""},
		{"", api.EditNone, 0, 'A', ""},
		{"", api.EditGap, 0, 'A', ""},
		{"", api.EditGap, 5, 'A', ""},
		{"", api.EditSwap, 0, 'A', ""},
		{"", api.EditSwap, -1, 'A', ""},
		{"", 9, 1, 'A', ""},
		{"", api.EditMore, 0, 'A', "A"},
		{"", api.EditMore, -3, 'N', "N"},
		{"", api.EditMore, 3, 'N', "N"},
	} {
		x := api.Edit{Kind: c.kind, At: c.at, By: c.by}
		if o := edit.Apply([]byte(c.s), x); string(o) != c.want {
			t.Errorf("Apply(%q, %v): %q", c.s, x, o)
		}
	}
}

func TestP2_1ApplyOwnMemory(t *testing.T) {
	for kind := range uint8(6) {
		whole := []byte("ACGTspare")
		o := edit.Apply(whole[:4], api.Edit{Kind: kind, At: 1, By: 'G'})
		for i := range o {
			o[i] = '!'
		}
		_ = append(o, "and more"...)
		if string(whole) != "ACGTspare" {
			t.Errorf("kind %d: %q", kind, whole)
		}
	}
}

func TestP2_1ApplyLong(t *testing.T) {
	s := bytes.Repeat([]byte("ACGT"), 500)
	o := edit.Apply(s, api.Edit{Kind: api.EditSwap, At: 1999, By: 'A'})
	if len(o) != 2000 || o[1999] != 'A' || !bytes.Equal(o[:1999], s[:1999]) {
		t.Error("a long word")
	}
}

// tell is an edit as a short text: its kind, its place, its letter (0: a dot).
func tell(x api.Edit) string {
	by := string(x.By)
	if x.By == 0 {
		by = "."
	}
	return string("-gms"[x.Kind]) + strconv.Itoa(x.At) + by
}

func TestP2_1Edits(t *testing.T) {
	for s, want := range map[string]string{
		"":   "-0. m0A m0C m0G m0T",
		"CT": "-0. g0. s0A s0G s0T g1. s1A s1C s1G m0A m0C m0G m0T m1A m1C m1G m1T m2A m2C m2G m2T",
		"N":  "-0. g0. s0A s0C s0G s0T m0A m0C m0G m0T m1A m1C m1G m1T",
	} {
		var told []string
		for _, x := range edit.Edits([]byte(s)) {
			told = append(told, tell(x))
		}
		if o := strings.Join(told, " "); o != want {
			t.Errorf("Edits(%q): %s", s, o)
		}
	}
	l := edit.Edits(bytes.Repeat([]byte("A"), 1100))
	if len(l) != 1+4*1100+4*1101 || tell(l[len(l)-1]) != "m1100T" || tell(l[4*1100]) != "s1099T" {
		t.Error("edits of a long word", len(l))
	}
}

func TestP2_2Distance(t *testing.T) {
	for _, c := range []struct {
		a, b string
		n    int
	}{
		{"", "", 0}, {"ACGT", "AGT", 1}, {"ACGT", "", 4}, {"", "AC", 2}, {"A", "T", 1}, {"ACGT", "ACGT", 0},
		{"ACGT", "CGTA", 2}, {"AAAA", "TTTT", 4}, {"kitten", "sitting", 3}, {"AC", "CA", 2}, {"\x00\xff", "\xff", 1},
	} {
		if n := edit.Distance([]byte(c.a), []byte(c.b)); n != c.n {
			t.Errorf("%q, %q: %d", c.a, c.b, n)
		}
	}
	r := rand.New(rand.NewSource(1))
	for i := range 3000 {
		a, b := word(r, r.Intn(14), 2+i%3), word(r, r.Intn(14), 2+i%3)
		d := table(a, b)
		want := d[len(a)][len(b)]
		if n := edit.Distance(a, b); n != want {
			t.Fatalf("%s, %s: %d, not %d", a, b, n, want)
		}
		if edit.Near(a, b) != (want <= 1) {
			t.Fatalf("%s, %s: near, of distance %d", a, b, want)
		}
		for most := -2; most < 16; most++ {
			n, ok := edit.Within(a, b, most)
			if ok != (want <= most) || ok && n != want || !ok && n != 0 {
				t.Fatalf("%s, %s within %d: %d, %v, not %d", a, b, most, n, ok, want)
			}
		}
		if least := slices.Min(d[len(a)]); edit.Prefix(a, b) != least {
			t.Fatalf("Prefix(%s, %s): %d, not %d", a, b, edit.Prefix(a, b), least)
		}
	}
}

func TestP2_2WithinEdges(t *testing.T) {
	for _, c := range []struct {
		most, n int
		ok      bool
	}{{math.MinInt, 0, false}, {-1, 0, false}, {0, 0, false}, {1, 0, false}, {2, 2, true}, {3, 2, true}, {math.MaxInt, 2, true}} {
		if n, ok := edit.Within([]byte("ACGT"), []byte("CGTA"), c.most); n != c.n || ok != c.ok {
			t.Errorf("within %d: %d, %v", c.most, n, ok)
		}
	}
	if n, ok := edit.Within(nil, nil, 0); n != 0 || !ok {
		t.Error("of nothing", n, ok)
	}
	if _, ok := edit.Within(nil, nil, -1); ok {
		t.Error("of nothing, within -1")
	}
	for _, c := range []struct {
		a, b string
		near bool
	}{{"", "", true}, {"", "A", true}, {"", "AC", false}, {"ACGT", "ACT", true}, {"ACGT", "ACNGT", true}, {"ACGT", "ANGT", true}, {"ACGT", "CAGT", false}} {
		if edit.Near([]byte(c.a), []byte(c.b)) != c.near || edit.Near([]byte(c.b), []byte(c.a)) != c.near {
			t.Errorf("Near(%q, %q)", c.a, c.b)
		}
	}
}

func TestP2_2Long(t *testing.T) {
	r := rand.New(rand.NewSource(2))
	a := word(r, 1500, 4)
	b := bytes.Clone(a)
	for i := api.MaxWord; i < len(b); i++ {
		b[i] = 'N'
	}
	if edit.Distance(a, b) != 0 || !edit.Near(a, b) || edit.Distance(a, a[:1000]) != 0 || edit.Distance(a[:1000], a) != 0 {
		t.Error("letters behind the first MaxWord count")
	}
	b[api.MaxWord-1] = 'N'
	if edit.Distance(a, b) != 1 || edit.Distance(a, a[:999]) != 1 {
		t.Error("the last letter that counts")
	}
	a, b = bytes.Repeat([]byte("A"), 2000), bytes.Repeat([]byte("T"), 2000)
	if edit.Distance(a, b) != 1000 || edit.Distance(a, nil) != 1000 || edit.Distance(nil, b) != 1000 {
		t.Error("the greatest distance")
	}
	a, b = word(r, 300, 4), word(r, 280, 4)
	if n := edit.Distance(a, b); n != table(a, b)[300][280] {
		t.Error("of long words", n)
	}
}

func TestP2_3Prefix(t *testing.T) {
	for _, c := range []struct {
		a, b string
		n    int
	}{
		{"AA", "AAAC", 0}, {"", "ACGT", 0}, {"", "", 0}, {"ACG", "", 3}, {"ACGT", "ACG", 1}, {"ACGT", "AGTTTTT", 1},
		{"ACGT", "TACGT", 1}, {"ACGT", "TTTTTACGT", 3}, {"AC", "GTAC", 2}, {"\x00", "\x00\x01", 0},
	} {
		if n := edit.Prefix([]byte(c.a), []byte(c.b)); n != c.n {
			t.Errorf("Prefix(%q, %q): %d", c.a, c.b, n)
		}
	}
	long := []byte(strings.Repeat("ACGT", 400))
	if edit.Prefix(long, long[:1000]) != 0 || edit.Prefix(long[:1000], long) != 0 || edit.Prefix(long, long[:998]) != 2 {
		t.Error("letters behind the first MaxWord count")
	}
	if n := edit.Prefix(long, nil); n != 1000 {
		t.Error("a long word, and nothing", n)
	}
}

func TestP2_4Laws(t *testing.T) {
	r := rand.New(rand.NewSource(3))
	for range 2000 {
		a, b, c := word(r, r.Intn(9), 2), word(r, r.Intn(9), 2), word(r, r.Intn(9), 2)
		ab, bc, ac := edit.Distance(a, b), edit.Distance(b, c), edit.Distance(a, c)
		if (ab == 0) != bytes.Equal(a, b) || ab != edit.Distance(b, a) || ac > ab+bc {
			t.Errorf("%s, %s, %s: %d, %d, %d", a, b, c, ab, bc, ac)
		}
	}
	for n := range 30 {
		s := word(r, n, 4)
		for _, x := range edit.Edits(s) {
			o := edit.Apply(s, x)
			if !edit.Near(s, o) || (edit.Distance(s, o) == 0) != (x.Kind == api.EditNone) {
				t.Errorf("%s, with %v: %s", s, x, o)
			}
		}
	}
}

func TestArgumentsStay(t *testing.T) {
	whole := []byte("ACGTTGCAspare")
	a, b := whole[:4], whole[4:8]
	edit.Distance(a, b)
	edit.Within(a, b, 2)
	edit.Near(a, b)
	edit.Prefix(a, b)
	edit.Edits(a)
	if string(whole) != "ACGTTGCAspare" {
		t.Errorf("%q", whole)
	}
}
