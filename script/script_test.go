package script_test

import (
	"bytes"
	"math"
	"math/rand"
	"slices"
	"testing"

	"helix/api"
	"helix/edit"
	"helix/manifest"
	"helix/nt"
	"helix/pool"
	"helix/primers"
	"helix/restore"
	"helix/script"
	"helix/shape"
	"helix/strand"
)

func of(payload, data, parity int) api.Shape {
	return api.Shape{Payload: payload, Data: data, Parity: parity}
}

func some(r *rand.Rand, n int) []byte {
	b := make([]byte, n)
	for i := range b {
		b[i] = byte(r.Intn(256))
	}
	return b
}

func build(t *testing.T, s api.Shape, files ...[]byte) api.Case {
	t.Helper()
	c, e := script.Make(s, 11, files)
	if e != api.OK {
		t.Fatal(e)
	}
	return c
}

func say(strand int, turned bool, kind uint8, at int, by byte) api.Say {
	return api.Say{Strand: strand, Turned: turned, X: api.Edit{Kind: kind, At: at, By: by}}
}

func texts(l [][]byte) []string {
	o := []string{}
	for _, s := range l {
		o = append(o, string(s))
	}
	return o
}

func sameStrands(a, b []api.Strand) bool {
	return slices.EqualFunc(a, b, func(x, y api.Strand) bool {
		return x.File == y.File && x.Group == y.Group && x.Place == y.Place && bytes.Equal(x.Letters, y.Letters)
	})
}

// mixed are the reads mixed by the seed, as the document tells it.
func mixed(reads [][]byte, seed uint64) [][]byte {
	o := slices.Clone(reads)
	for i := len(o) - 1; i > 0; i-- {
		seed = seed*6364136223846793005 + 1442695040888963407
		k := int(seed >> 33 % uint64(i+1))
		o[i], o[k] = o[k], o[i]
	}
	return o
}

func TestP30_1Name(t *testing.T) {
	for n, want := range map[int]string{0: "file0", 1: "file1", 7: "file7", 10: "file10", 123456: "file123456", -1: "file0", math.MinInt: "file0", math.MaxInt: "file9223372036854775807"} {
		if s := script.Name(n); s != want {
			t.Errorf("Name(%d): %s", n, s)
		}
	}
}

func TestP30_1Make(t *testing.T) {
	r := rand.New(rand.NewSource(1))
	for _, seed := range []uint64{0, 5, math.MaxUint64} {
		for n := range 9 {
			var bs [][]byte
			var files []api.File
			for i := range n {
				bs = append(bs, some(r, 7*i))
				files = append(files, api.File{Name: "file" + string(rune('0'+i)), Bytes: bs[i]})
			}
			s := of(7, 3, 2)
			c, e := script.Make(s, seed, bs)
			pairs, _ := primers.Library(n, seed)
			m, _ := manifest.Of(s, pairs, files)
			b, _ := manifest.Write(m)
			l, _ := pool.Build(s, pairs, files)
			if e != api.OK || !manifest.Same(c.M, m) || !bytes.Equal(c.Bytes, b) || !sameStrands(c.Strands, l) {
				t.Fatalf("%d files: %v, %d", n, c.M, e)
			}
		}
	}
	large := [][]byte{make([]byte, 4001)}
	for i, x := range []struct {
		s     api.Shape
		files [][]byte
		e     api.Errno
	}{
		{of(2, 2, 1), make([][]byte, 9), api.ErrArg}, {of(3, 2, 1), make([][]byte, 9), api.ErrArg}, {of(3, 2, 1), large, api.ErrGeometry}, {of(2, 2, 1), large, api.ErrLarge}, {api.Shape{}, nil, api.ErrGeometry},
		{of(2, 2, 33), [][]byte{{1}}, api.ErrGeometry}, {of(22, 100, 1), [][]byte{make([]byte, 4000)}, api.OK},
	} {
		c, e := script.Make(x.s, 3, x.files)
		if e != x.e || e != api.OK && (!manifest.Same(c.M, api.Manifest{}) || len(c.Bytes)+len(c.Strands) != 0) {
			t.Errorf("%d: %d, not %d", i, e, x.e)
		}
	}
	file := []byte("abcdef")
	c := build(t, of(2, 2, 1), file)
	clear(c.Bytes)
	for _, x := range c.Strands {
		clear(x.Letters)
	}
	if string(file) != "abcdef" {
		t.Error("an argument was changed")
	}
}

func TestP30_2Reads(t *testing.T) {
	l := []api.Strand{{Letters: []byte("AACGT")}, {Letters: []byte("GGG")}, {Letters: []byte("CTA")}}
	none, gap, more, swap := api.EditNone, api.EditGap, api.EditMore, api.EditSwap
	for _, c := range []struct {
		say  api.Say
		want string
	}{
		{say(0, false, none, 0, 0), "AACGT"}, {say(0, true, none, 0, 0), "ACGTT"}, {say(1, true, none, 3, 'A'), "CCC"}, {say(3, false, none, 0, 0), "AACGT"}, {say(-1, false, none, 0, 0), "CTA"}, {say(-3, true, none, 0, 0), "ACGTT"},
		{say(math.MaxInt, false, none, 0, 0), "GGG"}, {say(math.MinInt, false, none, 0, 0), "GGG"}, {say(0, false, gap, 2, 0), "AAGT"}, {say(0, true, gap, 0, 0), "CGTT"}, {say(0, false, gap, -1, 0), "AACG"}, {say(0, true, gap, 5, 0), "CGTT"},
		{say(1, false, more, 0, 0), "AGGG"}, {say(1, false, more, 3, 1), "GGGC"}, {say(1, false, more, 4, 2), "GGGG"}, {say(1, true, more, 1, 3), "CTCC"}, {say(1, false, more, 1, 'T'), "GAGG"}, {say(1, false, more, 1, 'A'), "GCGG"},
		{say(1, false, more, 1, 'C'), "GTGG"}, {say(1, false, more, 1, 'G'), "GTGG"}, {say(2, false, swap, 1, 0), "CAA"}, {say(2, false, swap, 1, 255), "CTA"}, {say(2, true, swap, 0, 6), "GAG"}, {say(2, false, swap, 1, 'N'), "CGA"}, {say(2, false, 9, 1, 0), "CTA"},
	} {
		if o := script.Reads(l, []api.Say{c.say}); len(o) != 1 || string(o[0]) != c.want {
			t.Errorf("%v: %q, not %s", c.say, o, c.want)
		}
	}
	says := []api.Say{say(0, false, none, 0, 0), say(0, false, none, 0, 0), say(2, true, none, 0, 0), say(0, true, none, 0, 0)}
	o := script.Reads(l, says)
	if !slices.Equal(texts(o), []string{"AACGT", "AACGT", "TAG", "ACGTT"}) {
		t.Errorf("%q", o)
	}
	clear(append(o[0], "more"...))
	clear(o[0])
	if string(l[0].Letters) != "AACGT" || string(o[1]) != "AACGT" || says[0].Strand != 0 {
		t.Error("Reads shares memory")
	}
	if len(script.Reads(nil, says)) != 0 || len(script.Reads(l, nil)) != 0 || len(script.Reads([]api.Strand{}, says)) != 0 {
		t.Error("Reads of nothing")
	}
	// Of letters that may not be Rc tells nothing.
	odd := []api.Strand{{Letters: []byte("ANA")}}
	if o := script.Reads(odd, []api.Say{say(0, false, gap, 0, 0), say(0, true, none, 0, 0), say(0, true, more, 0, 1)}); !slices.Equal(texts(o), []string{"NA", "", "C"}) {
		t.Errorf("of letters that may not be: %q", o)
	}
}

func TestP30_2Lost(t *testing.T) {
	strand := func(file, group, place int) api.Strand {
		return api.Strand{File: file, Group: group, Place: place, Letters: []byte("ACGT")}
	}
	l := []api.Strand{strand(0, 0, 0), strand(0, 0, 1), strand(0, 0, 2), strand(0, 1, 0), strand(0, 1, 1), strand(1, 0, 0), strand(1, 0, 1), strand(0, -1, 0), strand(0, 5000, 0)}
	one := func(numbers ...int) []api.Say {
		var says []api.Say
		for _, n := range numbers {
			says = append(says, say(n, n%2 == 0, api.EditGap, 1, 0))
		}
		return says
	}
	for i, c := range []struct {
		says          []api.Say
		which, groups int
		want          []int
	}{
		{nil, 0, 2, []int{3, 2}}, {nil, 1, 2, []int{2, 0}}, {nil, 2, 1, []int{0}}, {nil, -1, 2, []int{0, 0}}, {nil, 0, 0, nil}, {nil, 0, -1, nil}, {nil, 0, math.MinInt, nil}, {one(0, 0, 0, 4), 0, 3, []int{2, 1, 0}},
		{one(9, -8), 0, 2, []int{1, 2}}, {one(0, 1, 2, 3, 4), 0, 2, []int{0, 0}}, {one(5), 0, 2, []int{3, 2}}, {one(5), 1, 1, []int{1}}, {one(math.MaxInt, math.MinInt), 0, 1, []int{2}}, {nil, 0, 1, []int{3}},
	} {
		if o := script.Lost(l, c.says, c.which, c.groups); !slices.Equal(o, c.want) {
			t.Errorf("%d: Lost: %v, not %v", i, o, c.want)
		}
	}
	for _, groups := range []int{4000, 4001, 6000, math.MaxInt} {
		if o := script.Lost(l, nil, 0, groups); len(o) != 4000 || o[0] != 3 || o[1] != 2 || o[2] != 0 {
			t.Errorf("%d groups: %d", groups, len(o))
		}
	}
	if o := script.Lost(nil, one(1), 0, 2); !slices.Equal(o, []int{0, 0}) {
		t.Error("of no strands", o)
	}
}

func TestP30_2Mix(t *testing.T) {
	r := rand.New(rand.NewSource(2))
	for n := range 40 {
		var l [][]byte
		for range n {
			l = append(l, some(r, r.Intn(4)))
		}
		was := texts(l)
		seed := r.Uint64()
		o := script.Mix(l, seed)
		if !slices.Equal(texts(o), texts(mixed(l, seed))) {
			t.Fatalf("Mix of %d: %q", n, o)
		}
		for _, s := range o {
			clear(append(s, 1, 2))
			clear(s)
		}
		if !slices.Equal(texts(l), was) {
			t.Fatal("an argument was changed")
		}
	}
	if o := texts(script.Mix([][]byte{[]byte("a"), []byte("b"), []byte("c"), []byte("d")}, 0)); !slices.Equal(o, texts(mixed([][]byte{[]byte("a"), []byte("b"), []byte("c"), []byte("d")}, 0))) {
		t.Error("by the seed 0", o)
	}
	if len(script.Mix(nil, 1)) != 0 {
		t.Error("Mix of nothing")
	}
	same := []byte("AC")
	o := script.Mix([][]byte{same, same}, 1)
	o[0][0] = 'T'
	if string(o[1]) != "AC" {
		t.Error("reads of an answer share memory")
	}
}

func TestP30_2Must(t *testing.T) {
	for _, c := range []struct {
		parity int
		lost   []int
		others int
		group  int
		sure   bool
	}{
		{2, []int{1}, 0, -1, true}, {2, []int{2, 2}, 0, -1, true}, {2, []int{2, 3, 9}, 0, 1, true}, {2, []int{3}, 0, 0, true}, {2, nil, 0, -1, true}, {0, nil, 4000, -1, true}, {0, []int{0}, 0, -1, true}, {0, []int{0, 1}, 0, 1, true},
		{2, []int{0}, 1, -1, true}, {2, []int{1}, 1, -1, false}, {2, []int{0, 0, 1}, 1, -1, false}, {2, []int{3}, 1, -1, false}, {2, []int{0}, 2, -1, false}, {5, []int{1, 0}, 2, -1, true}, {5, []int{2, 0}, 2, -1, false},
		{2, []int{1}, -1, -1, true}, {2, []int{3}, -7, 0, true}, {2, []int{3}, math.MinInt, 0, true}, {2, []int{0}, math.MaxInt, -1, false}, {2, []int{-7998}, 4000, -1, true}, {2, []int{-7997}, 4000, -1, false},
		{2, []int{-7998}, 4001, -1, true}, {2, []int{-7998}, math.MaxInt, -1, true}, {-1, []int{0}, 0, -1, true}, {-1, []int{1}, 0, 0, true}, {math.MinInt, []int{0}, 0, -1, true}, {33, []int{32}, 0, -1, true}, {33, []int{33}, 0, 0, true},
		{32, []int{32}, 0, -1, true}, {math.MaxInt, []int{33}, 0, 0, true}, {32, []int{2}, 15, -1, true}, {32, []int{0}, 16, -1, true}, {32, []int{0}, 17, -1, false}, {32, []int{math.MaxInt}, 0, 0, true},
		{32, []int{math.MaxInt}, 1, -1, false}, {32, []int{math.MinInt}, 4000, -1, true}, {2, []int{math.MinInt, math.MaxInt}, 0, 1, true},
	} {
		if group, sure := script.Must(of(2, 2, c.parity), c.lost, c.others); group != c.group || sure != c.sure {
			t.Errorf("Must of parity %d, lost %v, %d others: %d, %v", c.parity, c.lost, c.others, group, sure)
		}
	}
	if group, sure := script.Must(api.Shape{}, []int{0}, 0); group != -1 || !sure {
		t.Error("of a shape that may not be", group, sure)
	}
}

// all are rows of a script that read each strand once, but those left out.
func all(r *rand.Rand, c api.Case, out func(api.Strand) bool) []api.Say {
	var says []api.Say
	for i, x := range c.Strands {
		if !out(x) {
			says = append(says, say(i+len(c.Strands)*(r.Intn(3)-1), r.Intn(2) == 0, uint8(r.Intn(5)), r.Intn(300)-100, byte(r.Intn(256))))
		}
	}
	return says
}

func TestP30_3Play(t *testing.T) {
	r := rand.New(rand.NewSource(3))
	files := [][]byte{some(r, 11), nil, some(r, 30)}
	c := build(t, of(2, 3, 1), files...)
	for which, want := range map[int]int{0: 0, 1: 1, 2: 2, 3: 0, -1: 2, -3: 0, 5: 2, math.MaxInt: 1, math.MinInt: 1} {
		o := script.Play(c, all(r, c, func(api.Strand) bool { return false }), nil, r.Uint64(), which)
		if o.E != api.OK || !bytes.Equal(o.Bytes, files[want]) || !o.Sure || o.Group != -1 || !o.Right || o.R.Lost != -1 || len(o.R.Groups) != shape.Groups(c.M.Shape, len(files[want])) {
			t.Errorf("the file %d: %v", which, o)
		}
	}
	lost := all(r, c, func(x api.Strand) bool { return x.File == 2 && x.Group >= 3 && x.Place < 2 })
	o := script.Play(c, lost, nil, 5, 2)
	if o.E != api.ErrLost || len(o.Bytes) != 0 || !o.Sure || o.Group != 3 || o.R.Lost != 3 || !o.Right {
		t.Errorf("a group is lost: %v", o)
	}
	if o := script.Play(c, lost, [][]byte{[]byte("N")}, 5, 2); o.E != api.ErrLost || o.Sure || o.Group != -1 || !o.Right {
		t.Errorf("with another read nothing is sure: %v", o)
	}
	if o := script.Play(c, lost, nil, 5, 0); o.E != api.OK || !bytes.Equal(o.Bytes, files[0]) || !o.Sure || o.Group != -1 || !o.Right {
		t.Errorf("another file: %v", o)
	}
	if o := script.Play(c, nil, nil, 5, 1); o.E != api.OK || len(o.Bytes) != 0 || !o.Sure || o.Group != -1 || !o.Right {
		t.Errorf("an empty file: %v", o)
	}
	if o := script.Play(c, nil, [][]byte{nil, []byte("ACGT")}, 5, 1); o.E != api.OK || !o.Sure || o.Group != -1 || !o.Right {
		t.Errorf("an empty file, with others: %v", o)
	}
	if o := script.Play(c, nil, nil, 5, 0); o.E != api.ErrLost || !o.Sure || o.Group != 0 || !o.Right || o.R.Lost != 0 {
		t.Errorf("no reads: %v", o)
	}
}

func TestP30_3PlayOdd(t *testing.T) {
	r := rand.New(rand.NewSource(4))
	empty := build(t, of(2, 3, 1))
	if o := script.Play(empty, nil, nil, 1, 5); o.E != api.ErrFile || !o.Sure || o.Group != -1 || !o.Right || len(o.Bytes) != 0 || o.R.Lost != 0 || len(o.R.Groups) != 0 {
		t.Errorf("without files: %v", o)
	}
	if o := script.Play(empty, []api.Say{{}}, [][]byte{[]byte("ACGT")}, 1, -5); o.E != api.ErrFile || !o.Sure || o.Group != -1 || !o.Right {
		t.Errorf("without files, with others: %v", o)
	}
	if o := script.Play(api.Case{}, nil, nil, 1, 0); o.E != api.ErrManifest || !o.Sure || o.Group != -1 || o.Right {
		t.Errorf("an empty case: %v", o)
	}
	c := build(t, of(2, 3, 1), some(r, 9), some(r, 9))
	says := all(r, c, func(api.Strand) bool { return false })
	other := c
	other.Bytes = c.Bytes[1:]
	if o := script.Play(other, says, nil, 1, 0); o.E != api.ErrManifest || !o.Sure || o.Group != -1 || o.Right {
		t.Errorf("other bytes: %v", o)
	}
	if o := script.Play(other, nil, nil, 1, 0); o.E != api.ErrManifest || !o.Sure || o.Group != 0 || o.Right {
		t.Errorf("other bytes, no reads: %v", o)
	}
	other = c
	other.M.Files = c.M.Files[:0]
	if o := script.Play(other, says, nil, 1, 1); o.E != api.OK || !o.Sure || o.Group != -1 || o.Right || len(o.Bytes) != 9 {
		t.Errorf("files that the case does not tell of: %v", o)
	}
	other.M = api.Manifest{Shape: of(3, 3, 1), Files: c.M.Files}
	if o := script.Play(other, says, nil, 1, 1); o.E != api.OK || !o.Sure || o.Group != -1 || !o.Right {
		t.Errorf("a shape that may not be: %v", o)
	}
	// More is lost than the case's manifest allows for: what came is not what must come.
	other.M = api.Manifest{Shape: of(2, 3, 0), Files: c.M.Files}
	if o := script.Play(other, all(r, c, func(x api.Strand) bool { return x.File == 0 && x.Place == 1 }), nil, 1, 0); o.E != api.OK || !o.Sure || o.Group != 0 || o.Right {
		t.Errorf("a smaller parity: %v", o)
	}
}

// TestP30_3Reference holds Play against its parts.
func TestP30_3Reference(t *testing.T) {
	r := rand.New(rand.NewSource(5))
	for range 20 {
		c := build(t, of(2, 3, 2), some(r, 1+r.Intn(20)), some(r, 1+r.Intn(20)))
		says := all(r, c, func(api.Strand) bool { return r.Intn(4) == 0 })
		var others [][]byte
		for range r.Intn(3) {
			x := c.Strands[r.Intn(len(c.Strands))].Letters
			others = append(others, edit.Apply(x, api.Edit{Kind: api.EditSwap, At: r.Intn(99), By: 'A'})[r.Intn(3):])
		}
		was := texts(others)
		seed, which := r.Uint64(), r.Intn(2)
		o := script.Play(c, says, others, seed, which)
		reads := script.Mix(append(script.Reads(c.Strands, says), others...), seed)
		b, report, e := restore.Restore(c.Bytes, reads, script.Name(which))
		if o.E != e || !bytes.Equal(o.Bytes, b) || o.R.Lost != report.Lost || !slices.Equal(o.R.Groups, report.Groups) {
			t.Fatalf("%v, not %v, %d", o, report, e)
		}
		lost := script.Lost(c.Strands, says, which, shape.Groups(c.M.Shape, c.M.Files[which].Length))
		group, sure := script.Must(c.M.Shape, lost, len(others))
		if o.Group != group || o.Sure != sure || !o.Right {
			t.Fatalf("%v, not %d, %v", o, group, sure)
		}
		if !slices.Equal(texts(others), was) {
			t.Fatal("an argument was changed")
		}
	}
}

// TestP30_4Right: what comes is right, whatever the script, the others, and the seed.
func TestP30_4Right(t *testing.T) {
	r := rand.New(rand.NewSource(6))
	came, lost, unsure := 0, 0, 0
	for i := range 120 {
		s := []api.Shape{of(2, 3, 2), of(7, 4, 4), of(12, 2, 0), of(2, 1, 7)}[i%4]
		files := [][]byte{some(r, 1+r.Intn(40)), some(r, r.Intn(20))}
		c := build(t, s, files...)
		rare := 2 + r.Intn(20)
		says := all(r, c, func(api.Strand) bool { return r.Intn(rare) == 0 })
		var others [][]byte
		if r.Intn(2) == 0 {
			for range r.Intn(4) {
				switch r.Intn(3) {
				case 0:
					f := api.Frame{Group: 0, Place: r.Intn(s.Data + s.Parity), Payload: some(r, s.Payload)}
					lie, _ := strand.Make(s, c.M.Files[0].Pair, f)
					others = append(others, lie)
				case 1:
					others = append(others, nt.Text([]int{r.Intn(4), r.Intn(4), r.Intn(4)}))
				default:
					others = append(others, some(r, 50))
				}
			}
		}
		which := r.Intn(2)
		o := script.Play(c, says, others, r.Uint64(), which)
		switch {
		case !o.Right:
			t.Fatalf("%v: %v, %d others", s, o, len(others))
		case !o.Sure:
			unsure++
		case o.Group < 0:
			came++
			if o.E != api.OK || !bytes.Equal(o.Bytes, files[which]) {
				t.Fatalf("%v: %v", s, o)
			}
		default:
			lost++
			if o.E != api.ErrLost || len(o.Bytes) != 0 || o.R.Lost != o.Group {
				t.Fatalf("%v: %v", s, o)
			}
		}
	}
	if came == 0 || lost == 0 || unsure == 0 {
		t.Error("not all that may come came:", came, lost, unsure)
	}
}
