package pool_test

import (
	"bytes"
	"math"
	"math/rand"
	"slices"
	"strings"
	"testing"

	"helix/api"
	"helix/nt"
	"helix/pool"
	"helix/primers"
	"helix/rs"
	"helix/shape"
	"helix/strand"
)

func of(payload, data, parity int) api.Shape {
	return api.Shape{Payload: payload, Data: data, Parity: parity}
}

func library(t *testing.T, n int) []api.Pair {
	t.Helper()
	l, e := primers.Library(n, 5)
	if e != api.OK {
		t.Fatal(e)
	}
	return l
}

func some(r *rand.Rand, n int) []byte {
	b := make([]byte, n)
	for i := range b {
		b[i] = byte(r.Intn(256))
	}
	return b
}

func file(name string, b []byte) api.File {
	return api.File{Name: name, Bytes: b}
}

func TestP22_1Name(t *testing.T) {
	for s, want := range map[string]bool{
		"": false, "a": true, " ": true, "\x01": true, "\x00": false, "a\x00": false, "\x00a": false, "a\x00b": false, strings.Repeat("x", 32): true, strings.Repeat("x", 33): false,
		strings.Repeat("é", 16): true, strings.Repeat("é", 17): false, "\xff\xfe": true, "a/b\n": true, strings.Repeat("x", 31) + "\x00": false,
	} {
		if pool.Name(s) != want {
			t.Errorf("Name(%q)", s)
		}
	}
}

func TestP22_1Check(t *testing.T) {
	good, bad := of(2, 2, 1), of(3, 2, 1)
	l := library(t, 8)
	twice := []api.Pair{l[0], l[0]}
	a, b, nul, empty := file("a", []byte("abc")), file("b", nil), file("\x00", nil), file("", nil)
	large, full := file("c", make([]byte, 4001)), file("d", make([]byte, 4000))
	var nine []api.File
	for i := range 9 {
		nine = append(nine, file(string(rune('a'+i)), nil))
	}
	for i, c := range []struct {
		s     api.Shape
		pairs []api.Pair
		files []api.File
		e     api.Errno
	}{
		{good, nil, nil, api.OK}, {good, l[:2], []api.File{a, b}, api.OK}, {good, l[:1], []api.File{full}, api.OK}, {good, l, nine[:8], api.OK},
		{bad, nil, nil, api.ErrGeometry}, {bad, nil, []api.File{large, empty}, api.ErrGeometry}, {api.Shape{}, twice, []api.File{a, a}, api.ErrGeometry},
		{good, l, nine, api.ErrLarge}, {good, nil, nine, api.ErrLarge}, {good, l[:1], []api.File{large}, api.ErrLarge}, {good, nil, []api.File{nul, large}, api.ErrLarge},
		{good, twice, []api.File{large, large}, api.ErrLarge},
		{good, nil, []api.File{a}, api.ErrPrimers}, {good, l[:2], []api.File{a}, api.ErrPrimers}, {good, l[:1], nil, api.ErrPrimers}, {good, l[:1], []api.File{a, b}, api.ErrPrimers},
		{good, twice, []api.File{a, b}, api.ErrPrimers}, {good, []api.Pair{{}}, []api.File{a}, api.ErrPrimers}, {good, twice, []api.File{a, a}, api.ErrPrimers}, {good, nil, []api.File{empty}, api.ErrPrimers},
		{good, l[:2], []api.File{a, a}, api.ErrName}, {good, l[:3], []api.File{a, b, file("a", []byte("other"))}, api.ErrName}, {good, l[:1], []api.File{nul}, api.ErrName},
		{good, l[:1], []api.File{empty}, api.ErrName}, {good, l[:2], []api.File{a, file(strings.Repeat("x", 33), nil)}, api.ErrName},
	} {
		if e := pool.Check(c.s, c.pairs, c.files); e != c.e {
			t.Errorf("%d: %d, not %d", i, e, c.e)
		}
		o, e := pool.Build(c.s, c.pairs, c.files)
		if e != c.e || e != api.OK && len(o) != 0 {
			t.Errorf("%d: Build tells %d strands, %d", i, len(o), e)
		}
	}
}

func TestP22_2Rows(t *testing.T) {
	r := rand.New(rand.NewSource(1))
	for _, s := range []api.Shape{of(2, 2, 1), of(2, 1, 0), of(7, 10, 5), of(12, 3, 0), of(22, 223, 32), of(17, 5, 32)} {
		for _, n := range []int{1, 2, 3, 4, 5, 21, 22, 23, 100, 501, 4000} {
			whole := append(some(r, n), 1, 2, 3, 4, 5, 6, 7, 8, 9)
			b, was := whole[:n], bytes.Clone(whole)
			var all []byte
			for group := range shape.Groups(s, n) {
				l, e := pool.Rows(s, b, group)
				many := shape.Pieces(s, n, group)
				if e != api.OK || len(l) != many+s.Parity {
					t.Fatalf("%v, %d bytes, group %d: %d rows, %d", s, n, group, len(l), e)
				}
				for at := range s.Payload {
					var word []byte
					for _, row := range l {
						word = append(word, row[at])
					}
					behind, _ := rs.Encode(word[:many], s.Parity)
					if !bytes.Equal(behind, word[many:]) {
						t.Fatalf("%v, %d bytes, group %d, column %d: %v", s, n, group, at, word)
					}
				}
				for i, row := range l {
					if len(row) != s.Payload {
						t.Fatalf("%v: a row of %d bytes", s, len(row))
					}
					if i < many {
						all = append(all, row...)
					}
					clear(append(row, 7, 7))
					clear(row)
				}
			}
			if !bytes.Equal(all[:n], b) || len(bytes.Trim(all[n:], "\x00")) != 0 || len(all)-n >= s.Payload || !bytes.Equal(whole, was) {
				t.Fatalf("%v, %d bytes: %v", s, n, all)
			}
		}
	}
}

func TestP22_2RowsWrong(t *testing.T) {
	good := of(2, 2, 1)
	for _, c := range []struct {
		s        api.Shape
		n, group int
		e        api.Errno
	}{
		{of(3, 2, 1), 5, 0, api.ErrGeometry}, {api.Shape{}, 4001, -1, api.ErrGeometry}, {of(2, 2, 33), 0, 0, api.ErrGeometry}, {good, 4001, 0, api.ErrLarge}, {good, 0, 0, api.ErrLarge},
		{good, 5, -1, api.ErrLarge}, {good, 5, 2, api.ErrLarge}, {good, 5, math.MaxInt, api.ErrLarge}, {good, 5, math.MinInt, api.ErrLarge}, {good, 5, 1, api.OK}, {good, 4000, 999, api.OK},
		{good, 4000, 1000, api.ErrLarge},
	} {
		if l, e := pool.Rows(c.s, make([]byte, c.n), c.group); e != c.e || (e == api.OK) != (len(l) > 0) {
			t.Errorf("Rows(%v, %d bytes, %d): %d rows, %d", c.s, c.n, c.group, len(l), e)
		}
	}
}

func TestP22_2Join(t *testing.T) {
	s := of(2, 2, 1)
	row := func(b ...byte) []byte { return b }
	type rows = [][]byte
	for i, c := range []struct {
		s      api.Shape
		length int
		groups [][][]byte
		want   []byte
		e      api.Errno
	}{
		{s, 0, nil, nil, api.OK}, {s, 3, []rows{{row(1, 2), row(3, 9)}}, row(1, 2, 3), api.OK}, {s, 4, []rows{{row(1, 2), row(3, 9), row(5, 5)}}, row(1, 2, 3, 9), api.OK},
		{s, 5, []rows{{row(1, 2), row(3, 4)}, {row(5, 6)}}, row(1, 2, 3, 4, 5), api.OK}, {s, 1, []rows{{row(1, 2)}}, row(1), api.OK},
		{s, 3, []rows{{row(1, 2), row(3, 9), row(1), nil}}, row(1, 2, 3), api.OK}, {s, 1, []rows{{row(1, 2), row(3)}}, row(1), api.OK},
		{of(3, 2, 1), 0, nil, nil, api.ErrGeometry}, {api.Shape{}, -1, nil, nil, api.ErrGeometry}, {s, -1, nil, nil, api.ErrGeometry}, {s, 4001, nil, nil, api.ErrGeometry},
		{s, math.MaxInt, nil, nil, api.ErrGeometry}, {s, math.MinInt, nil, nil, api.ErrGeometry}, {s, 3, nil, nil, api.ErrGeometry}, {s, 0, []rows{nil}, nil, api.ErrGeometry},
		{s, 3, []rows{{row(1, 2), row(3, 9)}, nil}, nil, api.ErrGeometry}, {s, 5, []rows{{row(1, 2), row(3, 4)}}, nil, api.ErrGeometry}, {s, 3, []rows{{row(1, 2)}}, nil, api.ErrGeometry},
		{s, 3, []rows{nil}, nil, api.ErrGeometry}, {s, 3, []rows{{row(1, 2), row(3)}}, nil, api.ErrGeometry}, {s, 3, []rows{{row(1, 2), row(3, 4, 5)}}, nil, api.ErrGeometry},
		{s, 3, []rows{{nil, row(3, 4)}}, nil, api.ErrGeometry}, {s, 5, []rows{{row(1, 2), row(3, 4)}, {row(5)}}, nil, api.ErrGeometry},
	} {
		b, e := pool.Join(c.s, c.length, c.groups)
		if e != c.e || !bytes.Equal(b, c.want) {
			t.Errorf("%d: %v, %d", i, b, e)
		}
		for k := range b {
			b[k] = 0xee
		}
		for _, l := range c.groups {
			for _, p := range l {
				if bytes.Contains(p, []byte{0xee}) {
					t.Errorf("%d: Join shares memory", i)
				}
			}
		}
	}
}

func TestP22_3Build(t *testing.T) {
	r := rand.New(rand.NewSource(2))
	l := library(t, 3)
	for _, s := range []api.Shape{of(2, 2, 1), of(7, 3, 2), of(22, 223, 32), of(12, 1, 0)} {
		files := []api.File{file("one", some(r, 3)), file("none", nil), file("two", some(r, 150))}
		first := bytes.Clone(files[0].Bytes)
		o, e := pool.Build(s, l, files)
		if e != api.OK {
			t.Fatal(s, e)
		}
		next := 0
		for i, f := range files {
			for group := range shape.Groups(s, len(f.Bytes)) {
				rows, _ := pool.Rows(s, f.Bytes, group)
				for place, payload := range rows {
					letters, _ := strand.Make(s, l[i], api.Frame{Group: group, Place: place, Payload: payload})
					x := o[next]
					if x.File != i || x.Group != group || x.Place != place || !bytes.Equal(x.Letters, letters) {
						t.Fatalf("%v, the strand %d: %v", s, next, x)
					}
					next++
				}
			}
		}
		if next != len(o) {
			t.Fatalf("%v: %d strands, not %d", s, len(o), next)
		}
		for _, x := range o {
			clear(append(x.Letters, "more"...))
			clear(x.Letters)
		}
		if !bytes.Equal(files[0].Bytes, first) {
			t.Error("an argument was changed")
		}
	}
	if o, e := pool.Build(of(2, 2, 1), nil, nil); e != api.OK || len(o) != 0 {
		t.Error("no files", o, e)
	}
}

func TestP22_4Follows(t *testing.T) {
	r := rand.New(rand.NewSource(3))
	l := library(t, 4)
	for _, s := range []api.Shape{of(2, 4, 2), of(7, 20, 10), of(17, 30, 0), of(22, 100, 32)} {
		var files []api.File
		for i, n := range []int{0, 1, 77, 600} {
			files = append(files, file(string(rune('p'+i)), bytes.Repeat(some(r, 3), n/3+1)[:n]))
		}
		o, e := pool.Build(s, l, files)
		if e != api.OK {
			t.Fatal(e)
		}
		count := make([]int, len(files))
		seen := map[string]bool{}
		for _, x := range o {
			count[x.File]++
			more := 2*nt.Gc(x.Letters) - len(x.Letters)
			if seen[string(x.Letters)] || len(x.Letters) != shape.Strand(s) || nt.Run(x.Letters) > 3 || more < -1 || more > 1 {
				t.Fatalf("%v: %s", s, x.Letters)
			}
			seen[string(x.Letters)] = true
		}
		for i, f := range files {
			if count[i] != shape.Count(s, len(f.Bytes)) {
				t.Errorf("%v, file %d: %d strands", s, i, count[i])
			}
			var groups [][][]byte
			for group := range shape.Groups(s, len(f.Bytes)) {
				rows, _ := pool.Rows(s, f.Bytes, group)
				groups = append(groups, rows)
			}
			if b, e := pool.Join(s, len(f.Bytes), groups); e != api.OK || !bytes.Equal(b, f.Bytes) {
				t.Errorf("%v, file %d: joined %v, %d", s, i, b, e)
			}
		}
	}
}

func TestArgumentsStay(t *testing.T) {
	l := library(t, 2)
	pairs, files := slices.Clone(l), []api.File{file("a", []byte("abc")), file("b", []byte("d"))}
	if _, e := pool.Build(of(2, 2, 1), pairs[:1], files[:1]); e != api.OK || !slices.Equal(pairs, l) || string(files[0].Bytes) != "abc" || string(files[1].Bytes) != "d" {
		t.Error("an argument was changed", e)
	}
}
