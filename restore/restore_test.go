package restore_test

import (
	"bytes"
	"math"
	"math/rand"
	"slices"
	"testing"

	"helix/api"
	"helix/cluster"
	"helix/consensus"
	"helix/edit"
	"helix/frame"
	"helix/manifest"
	"helix/nt"
	"helix/pool"
	"helix/primers"
	"helix/restore"
	"helix/shape"
	"helix/strand"
)

func of(payload, data, parity int) api.Shape {
	return api.Shape{Payload: payload, Data: data, Parity: parity}
}

func some(r *rand.Rand, n int) []byte {
	b := make([]byte, n)
	for i := range b {
		b[i] = byte(r.Intn(256))
	}
	return b
}

// letters are n letters.
func letters(r *rand.Rand, n int) []byte {
	s := make([]byte, n)
	for i := range s {
		s[i] = "ACGT"[r.Intn(4)]
	}
	return s
}

// made is a pool of files a, b, .. of these lengths.
type made struct {
	m       api.Manifest
	bytes   []byte
	files   []api.File
	pairs   []api.Pair
	strands []api.Strand
}

func build(t *testing.T, r *rand.Rand, s api.Shape, lengths ...int) made {
	t.Helper()
	var c made
	for i, n := range lengths {
		c.files = append(c.files, api.File{Name: string(rune('a' + i)), Bytes: some(r, n)})
	}
	var e [4]api.Errno
	c.pairs, e[0] = primers.Library(len(lengths), 17)
	c.m, e[1] = manifest.Of(s, c.pairs, c.files)
	c.bytes, e[2] = manifest.Write(c.m)
	c.strands, e[3] = pool.Build(s, c.pairs, c.files)
	if e != [4]api.Errno{} {
		t.Fatal(e)
	}
	return c
}

// read is a good read of a strand: either way about, with at most one edit.
func read(r *rand.Rand, s []byte) []byte {
	l := edit.Edits(s)
	y := edit.Apply(s, l[r.Intn(len(l))])
	if r.Intn(2) == 0 {
		y, _ = nt.Rc(y)
	}
	return y
}

// lie is a strand of that place of the file's group that says something else.
func (c made) lie(r *rand.Rand, file, group, place int) []byte {
	s, _ := strand.Make(c.m.Shape, c.pairs[file], api.Frame{Group: group, Place: place, Payload: some(r, c.m.Shape.Payload)})
	return s
}

func heard(file, group, place int, payload string) api.Heard {
	return api.Heard{File: file, Frame: api.Frame{Group: group, Place: place, Payload: []byte(payload)}}
}

func sameHeard(a, b []api.Heard) bool {
	return slices.EqualFunc(a, b, func(x, y api.Heard) bool { return x.File == y.File && frame.Same(x.Frame, y.Frame) })
}

func sameTaken(a, b api.Taken) bool {
	return sameHeard(a.Read, b.Read) && sameHeard(a.Rescued, b.Rescued) && a.Dropped == b.Dropped && a.Rejected == b.Rejected
}

func sameReport(a, b api.Report) bool {
	return a.Lost == b.Lost && slices.Equal(a.Groups, b.Groups)
}

func shuffle[T any](r *rand.Rand, l []T) {
	r.Shuffle(len(l), func(i, k int) { l[i], l[k] = l[k], l[i] })
}

// blurred are three reads of a strand, each with two letters swapped: none of them is near it, but most say it.
func blurred(r *rand.Rand, s []byte) [][]byte {
	var l [][]byte
	for i := range 3 {
		y := bytes.Clone(s)
		for _, at := range []int{20 + 10*i, 60 + 10*i} {
			code, _ := nt.Code(y[at])
			y[at] = nt.Letter(code + 1 + r.Intn(3))
		}
		if r.Intn(2) == 0 {
			y, _ = nt.Rc(y)
		}
		l = append(l, y)
	}
	return l
}

func TestP28_1Take(t *testing.T) {
	r := rand.New(rand.NewSource(1))
	for _, s := range []api.Shape{of(2, 2, 1), of(7, 5, 2)} {
		c := build(t, r, s, 9, 0, 30)
		var want api.Taken
		var reads [][]byte
		for range 40 {
			x := c.strands[r.Intn(len(c.strands))]
			y := read(r, x.Letters)
			_, f, _, ok := strand.Read(s, c.pairs, y)
			if !ok || f.Group != x.Group || f.Place != x.Place {
				t.Fatal("a good read is not read")
			}
			reads = append(reads, y)
			want.Read = append(want.Read, api.Heard{File: x.File, Frame: f})
		}
		x := c.strands[1]
		_, f, _, _ := strand.Read(s, c.pairs, x.Letters)
		want.Rescued = []api.Heard{{File: x.File, Frame: f}}
		reads = append(reads, blurred(r, x.Letters)...)
		for range 5 {
			reads = append(reads, letters(r, shape.Strand(s)))
		}
		reads = append(reads, nil, []byte{}, []byte("ACGN"), bytes.ToLower(x.Letters), bytes.Repeat([]byte("A"), 1001), []byte("A"), bytes.Repeat([]byte("C"), 1000))
		want.Dropped, want.Rejected = 5, 3+5+2
		slices.SortFunc(want.Read, func(a, b api.Heard) int {
			return slices.Compare([]int{a.File, a.Group, a.Place, bytes.Compare(a.Payload, b.Payload)}, []int{b.File, b.Group, b.Place, 0})
		})
		for range 3 {
			shuffle(r, reads)
			was := slices.Clone(reads)
			for i := range was {
				was[i] = bytes.Clone(was[i])
			}
			o := restore.Take(c.m, reads)
			if !sameTaken(o, want) {
				t.Fatalf("Take: %v, not %v", o, want)
			}
			for _, h := range append(o.Read, o.Rescued...) {
				clear(h.Payload)
			}
			if !slices.EqualFunc(reads, was, bytes.Equal) {
				t.Fatal("an argument was changed")
			}
		}
		// Of a manifest that may not be all clean reads are rejected.
		for i, change := range []func(*api.Manifest){
			func(m *api.Manifest) { m.Shape.Payload++ }, func(m *api.Manifest) { m.Files[1].Name = "a" }, func(m *api.Manifest) { m.Files[1].Length = -1 }, func(m *api.Manifest) { m.Files[1].Pair = m.Files[0].Pair },
			func(m *api.Manifest) { *m = api.Manifest{} },
		} {
			m := api.Manifest{Shape: c.m.Shape, Files: slices.Clone(c.m.Files)}
			change(&m)
			if o := restore.Take(m, reads); !sameTaken(o, api.Taken{Dropped: 5, Rejected: len(reads) - 5}) {
				t.Errorf("a manifest that may not be, %d: %v", i, o)
			}
		}
		if o := restore.Take(c.m, nil); !sameTaken(o, api.Taken{}) {
			t.Error("Take of nothing", o)
		}
	}
}

func TestP28_1TakeOrder(t *testing.T) {
	r := rand.New(rand.NewSource(2))
	c := build(t, r, of(2, 2, 1), 9, 9)
	var reads [][]byte
	var want []api.Heard
	for file := range 2 {
		for _, group := range []int{0, 1, 2, 9, 300} {
			for place := range 3 {
				for _, payload := range []string{"\x00z", "ab", "ab", "ac", "\xff\x00"} {
					s, e := strand.Make(c.m.Shape, c.pairs[file], api.Frame{Group: group, Place: place, Payload: []byte(payload)})
					if e != api.OK {
						t.Fatal(e)
					}
					reads = append(reads, s)
					want = append(want, heard(file, group, place, payload))
				}
			}
		}
	}
	shuffle(r, reads)
	if o := restore.Take(c.m, reads); !sameHeard(o.Read, want) || len(o.Rescued)+o.Dropped+o.Rejected != 0 {
		t.Errorf("Take: %v", o)
	}
}

// TestP28_1Rescued holds what is rescued against the clusters of what is rejected.
func TestP28_1Rescued(t *testing.T) {
	r := rand.New(rand.NewSource(3))
	c := build(t, r, of(2, 3, 2), 12, 12)
	rescued := 0
	for range 20 {
		var reads, rejected [][]byte
		for range 8 {
			reads = append(reads, blurred(r, c.strands[r.Intn(len(c.strands))].Letters)[:2+r.Intn(2)]...)
		}
		var want []api.Heard
		for _, y := range reads {
			if _, _, _, ok := strand.Read(c.m.Shape, c.pairs, y); !ok {
				rejected = append(rejected, y)
			}
		}
		for _, l := range cluster.All(rejected) {
			y, _ := consensus.Of(l)
			if which, f, _, ok := strand.Read(c.m.Shape, c.pairs, y); ok {
				want = append(want, api.Heard{File: which, Frame: f})
			}
		}
		slices.SortFunc(want, func(a, b api.Heard) int {
			return slices.Compare([]int{a.File, a.Group, a.Place}, []int{b.File, b.Group, b.Place})
		})
		o := restore.Take(c.m, reads)
		if !sameHeard(o.Rescued, want) || o.Rejected != len(rejected) || len(o.Read) != len(reads)-len(rejected) {
			t.Fatalf("%v, not %v", o, want)
		}
		rescued += len(want)
	}
	if rescued == 0 {
		t.Error("nothing was rescued")
	}
}

func TestP28_1Votes(t *testing.T) {
	s := of(2, 3, 1)
	m := api.Manifest{Shape: s, Files: []api.Entry{{Name: "a", Length: 8}, {Name: "b", Length: 100}, {Name: "c", Length: 4001}, {Name: "d", Length: 0}}}
	taken := api.Taken{
		Read: []api.Heard{
			heard(0, 1, 1, "zz"), heard(1, 0, 0, "no"), heard(0, 0, 0, "aa"), heard(0, 0, 3, "bb"), heard(0, 0, 4, "no"), heard(0, 1, 2, "no"), heard(0, 2, 0, "no"), heard(0, -1, 0, "no"), heard(0, 0, -1, "no"),
			heard(-1, 0, 0, "no"), heard(4, 0, 0, "no"), heard(0, 1, 0, "long one"), heard(2, 0, 0, "no"), heard(3, 0, 0, "no"), heard(0, math.MaxInt, 0, "no"), heard(0, 0, math.MaxInt, "no"),
		},
		Rescued: []api.Heard{heard(0, 0, 2, ""), heard(1, 16, 2, "no"), heard(1, 16, 3, "no"), heard(0, 0, 0, "aa"), heard(0, 0, 7, "no")},
	}
	want := []api.Vote{{Group: 1, Place: 1, Payload: []byte("zz")}, {Group: 0, Place: 0, Payload: []byte("aa")}, {Group: 0, Place: 3, Payload: []byte("bb")}, {Group: 1, Place: 0, Payload: []byte("long one")}, {Group: 0, Place: 2}, {Group: 0, Place: 0, Payload: []byte("aa")}}
	same := func(a, b api.Vote) bool {
		return a.Group == b.Group && a.Place == b.Place && bytes.Equal(a.Payload, b.Payload)
	}
	o := restore.Votes(m, taken, 0)
	if !slices.EqualFunc(o, want, same) {
		t.Errorf("Votes: %v", o)
	}
	for _, v := range o {
		clear(append(v.Payload, "more"...))
		clear(v.Payload)
	}
	if string(taken.Read[0].Payload) != "zz" || string(taken.Rescued[3].Payload) != "aa" {
		t.Error("Votes shares memory")
	}
	if o := restore.Votes(m, taken, 1); len(o) != 2 || o[0].Group != 0 || o[1].Group != 16 || o[1].Place != 2 {
		t.Errorf("of the file b, with 17 groups, the last one of 2 pieces: %v", o)
	}
	for _, which := range []int{-1, 2, 3, 4, math.MaxInt, math.MinInt} {
		if o := restore.Votes(m, taken, which); len(o) != 0 {
			t.Errorf("of the file %d: %v", which, o)
		}
	}
	m.Shape.Payload = 3
	if o := restore.Votes(m, taken, 0); len(o) != 0 || len(restore.Votes(api.Manifest{}, taken, 0)) != 0 {
		t.Errorf("of a shape that may not be: %v", o)
	}
}

// seats are those of a group's rows, each told by one vote.
func seats(rows [][]byte, group int) []api.Seat {
	var l []api.Seat
	for place, row := range rows {
		l = append(l, api.Seat{Group: group, Place: place, Payload: bytes.Clone(row), Votes: 1, Ok: true})
	}
	return l
}

func TestP28_2Group(t *testing.T) {
	r := rand.New(rand.NewSource(4))
	s := of(7, 4, 3)
	data := some(r, 28)
	rows, _ := pool.Rows(s, data, 0)
	type report = api.GroupReport
	for i, c := range []struct {
		change func(l []api.Seat) []api.Seat
		want   api.GroupReport
	}{
		{func(l []api.Seat) []api.Seat { return l }, report{Group: 5, Rows: 7, Ok: true}},
		{func(l []api.Seat) []api.Seat { return l[3:] }, report{Group: 5, Rows: 7, Missing: 3, Ok: true}},
		{func(l []api.Seat) []api.Seat { return l[4:] }, report{Group: 5, Rows: 7, Missing: 4}},
		{func(l []api.Seat) []api.Seat { return nil }, report{Group: 5, Rows: 7, Missing: 7}},
		{func(l []api.Seat) []api.Seat { l[0].Ok = false; return l }, report{Group: 5, Rows: 7, Torn: 1, Ok: true}},
		{func(l []api.Seat) []api.Seat { l[0].Payload = l[0].Payload[:6]; return l }, report{Group: 5, Rows: 7, Torn: 1, Ok: true}},
		{func(l []api.Seat) []api.Seat {
			l[6].Payload = append(l[6].Payload, 0)
			l[5].Payload = nil
			return l[1:]
		}, report{Group: 5, Rows: 7, Missing: 1, Torn: 2, Ok: true}},
		{func(l []api.Seat) []api.Seat {
			l[6].Payload = append(l[6].Payload, 0)
			l[5].Payload = nil
			return l[2:]
		}, report{Group: 5, Rows: 7, Missing: 2, Torn: 2}},
		{func(l []api.Seat) []api.Seat { l[2].Payload[3] ^= 9; return l }, report{Group: 5, Rows: 7, Wrong: 1, Ok: true}},
		{func(l []api.Seat) []api.Seat { l[2].Payload[3] ^= 9; return l[1:] }, report{Group: 5, Rows: 7, Missing: 1, Wrong: 1, Ok: true}},
		{func(l []api.Seat) []api.Seat { l[0].Payload[3] ^= 9; l[1].Payload[4] ^= 9; return l }, report{Group: 5, Rows: 7, Wrong: 2, Ok: true}},
		{func(l []api.Seat) []api.Seat { l[0].Ok = false; l[5].Payload[3] ^= 9; return l }, report{Group: 5, Rows: 7, Torn: 1, Wrong: 1, Ok: true}},
		{func(l []api.Seat) []api.Seat {
			l[0].Payload = bytes.Repeat([]byte{1}, 7)
			l[1].Payload = bytes.Repeat([]byte{2}, 7)
			return l
		}, report{Group: 5, Rows: 7}},
		{func(l []api.Seat) []api.Seat { slices.Reverse(l); return l }, report{Group: 5, Rows: 7, Ok: true}},
		{func(l []api.Seat) []api.Seat {
			l[3].Group = 4
			return append(l, api.Seat{Group: 5, Place: 7, Ok: true}, api.Seat{Group: 5, Place: -1, Ok: true}, api.Seat{Group: 6, Place: 0, Ok: true})
		}, report{Group: 5, Rows: 7, Missing: 1, Ok: true}},
		{func(l []api.Seat) []api.Seat { return append(l, api.Seat{Group: 5, Place: 0}) }, report{Group: 5, Rows: 7, Ok: true}},
	} {
		l := c.change(seats(rows, 5))
		var was [][]byte
		for _, seat := range l {
			was = append(was, bytes.Clone(seat.Payload))
		}
		o, report := restore.Group(s, 4, l, 5)
		if report != c.want || c.want.Ok && !slices.EqualFunc(o, rows[:4], bytes.Equal) || !c.want.Ok && len(o) != 0 {
			t.Errorf("%d: %v, %v, not %v", i, o, report, c.want)
		}
		for _, row := range o {
			clear(append(row, 1, 2))
			clear(row)
		}
		for k, seat := range l {
			if !bytes.Equal(seat.Payload, was[k]) {
				t.Errorf("%d: Group shares memory", i)
			}
		}
	}
}

func TestP28_2GroupEdges(t *testing.T) {
	r := rand.New(rand.NewSource(5))
	for _, s := range []api.Shape{of(2, 4, 0), of(2, 4, 2), of(22, 223, 32)} {
		for pieces := 1; pieces <= min(s.Data, 6); pieces++ {
			rows, e := pool.Rows(s, some(r, pieces*s.Payload), 0)
			if e != api.OK {
				t.Fatal(e)
			}
			o, report := restore.Group(s, pieces, seats(rows, -3), -3)
			if report != (api.GroupReport{Group: -3, Rows: pieces + s.Parity, Ok: true}) || !slices.EqualFunc(o, rows[:pieces], bytes.Equal) {
				t.Errorf("%v, %d pieces: %v, %v", s, pieces, o, report)
			}
		}
		if o, report := restore.Group(s, s.Data, nil, 1); len(o) != 0 || report != (api.GroupReport{Group: 1, Rows: s.Data + s.Parity, Missing: s.Data + s.Parity}) {
			t.Errorf("%v, no seats: %v, %v", s, o, report)
		}
		for _, pieces := range []int{0, -1, s.Data + 1, math.MaxInt, math.MinInt} {
			if o, report := restore.Group(s, pieces, nil, math.MaxInt); len(o) != 0 || report != (api.GroupReport{Group: math.MaxInt}) {
				t.Errorf("%v, %d pieces: %v, %v", s, pieces, o, report)
			}
		}
	}
	for _, s := range []api.Shape{{}, of(3, 2, 1), of(2, 0, 1), of(2, 2, 33), of(2, -1, -1), of(2, 255, 1)} {
		for _, pieces := range []int{-1, 0, 1, 2} {
			if o, report := restore.Group(s, pieces, nil, 7); len(o) != 0 || report != (api.GroupReport{Group: 7}) {
				t.Errorf("%v: %v, %v", s, o, report)
			}
		}
	}
}

func TestP28_3File(t *testing.T) {
	r := rand.New(rand.NewSource(6))
	c := build(t, r, of(2, 2, 1), 11, 0, 5)
	var reads [][]byte
	for _, x := range c.strands {
		reads = append(reads, x.Letters)
	}
	taken := restore.Take(c.m, reads)
	group := func(n, rows, missing int, ok bool) api.GroupReport {
		return api.GroupReport{Group: n, Rows: rows, Missing: missing, Ok: ok}
	}
	b, report, e := restore.File(c.m, taken, "a")
	if want := (api.Report{Groups: []api.GroupReport{group(0, 3, 0, true), group(1, 3, 0, true), group(2, 3, 0, true)}, Lost: -1}); e != api.OK || !bytes.Equal(b, c.files[0].Bytes) || !sameReport(report, want) {
		t.Errorf("the file a: %v, %v, %d", b, report, e)
	}
	b, report, e = restore.File(c.m, taken, "b")
	if e != api.OK || len(b) != 0 || !sameReport(report, api.Report{Lost: -1}) {
		t.Errorf("an empty file: %v, %v, %d", b, report, e)
	}
	b, report, e = restore.File(c.m, api.Taken{}, "c")
	if want := (api.Report{Groups: []api.GroupReport{group(0, 3, 3, false), group(1, 2, 2, false)}, Lost: 0}); e != api.ErrLost || len(b) != 0 || !sameReport(report, want) {
		t.Errorf("the file c of nothing: %v, %v, %d", b, report, e)
	}
	for _, name := range []string{"", "d", "A", "a "} {
		if b, report, e := restore.File(c.m, taken, name); e != api.ErrFile || len(b) != 0 || !sameReport(report, api.Report{}) {
			t.Errorf("the file %q: %v, %v, %d", name, b, report, e)
		}
	}
	if b, report, e := restore.File(api.Manifest{}, taken, "a"); e != api.ErrFile || len(b) != 0 || !sameReport(report, api.Report{}) {
		t.Error("no files", b, report, e)
	}
	// The first group that is lost is told, and all groups' reports.
	some := api.Taken{Read: slices.DeleteFunc(slices.Clone(taken.Read), func(h api.Heard) bool { return h.File == 0 && h.Group > 0 && h.Place < 2 })}
	b, report, e = restore.File(c.m, some, "a")
	if want := (api.Report{Groups: []api.GroupReport{group(0, 3, 0, true), group(1, 3, 2, false), group(2, 3, 2, false)}, Lost: 1}); e != api.ErrLost || len(b) != 0 || !sameReport(report, want) {
		t.Errorf("two groups are lost: %v, %v, %d", b, report, e)
	}
}

func TestP28_3Sum(t *testing.T) {
	r := rand.New(rand.NewSource(7))
	c := build(t, r, of(2, 2, 1), 4, 0)
	var reads [][]byte
	for _, x := range c.strands {
		reads = append(reads, x.Letters)
	}
	taken := restore.Take(c.m, reads)
	ok := api.Report{Groups: []api.GroupReport{{Group: 0, Rows: 3, Ok: true}}, Lost: -1}
	change := func(change func(m *api.Manifest)) api.Manifest {
		m := api.Manifest{Shape: c.m.Shape, Files: slices.Clone(c.m.Files)}
		change(&m)
		return m
	}
	for i, x := range []struct {
		m      api.Manifest
		name   string
		report api.Report
	}{
		{change(func(m *api.Manifest) { m.Files[0].Sum++ }), "a", ok}, {change(func(m *api.Manifest) { m.Files[0].Length = 3 }), "a", ok}, {change(func(m *api.Manifest) { m.Files[1].Sum = 1 }), "b", api.Report{Lost: -1}},
		{change(func(m *api.Manifest) { m.Shape.Payload = 3 }), "a", api.Report{Lost: -1}}, {change(func(m *api.Manifest) { m.Files[0].Length = -1 }), "a", api.Report{Lost: -1}},
		{change(func(m *api.Manifest) { m.Files[0].Length = 4001 }), "a", api.Report{Lost: -1}}, {change(func(m *api.Manifest) { m.Shape = api.Shape{} }), "b", api.Report{Lost: -1}},
	} {
		if b, report, e := restore.File(x.m, taken, x.name); e != api.ErrSum || len(b) != 0 || !sameReport(report, x.report) {
			t.Errorf("%d: %v, %v, %d", i, b, report, e)
		}
	}
	if b, report, e := restore.File(c.m, taken, "a"); e != api.OK || !bytes.Equal(b, c.files[0].Bytes) || !sameReport(report, ok) {
		t.Error(b, report, e)
	}
	// A lie that is a right word: the sum tells.
	lies := api.Taken{Read: []api.Heard{heard(0, 0, 0, "xx"), heard(0, 0, 1, "yy")}}
	if b, report, e := restore.File(c.m, lies, "a"); e != api.ErrSum || len(b) != 0 || report.Lost != -1 || !report.Groups[0].Ok {
		t.Error("other bytes", b, report, e)
	}
}

func TestP28_3Restore(t *testing.T) {
	r := rand.New(rand.NewSource(8))
	c := build(t, r, of(2, 2, 1), 3, 0)
	for _, two := range [][2]int{{0, 1}, {1, 2}, {2, 0}, {1, 0}} {
		var reads [][]byte
		for _, i := range two {
			reads = append(reads, read(r, c.strands[i].Letters))
		}
		b, report, e := restore.Restore(c.bytes, reads, "a")
		if e != api.OK || !bytes.Equal(b, c.files[0].Bytes) || report.Lost != -1 {
			t.Errorf("%v: %v, %v, %d", two, b, report, e)
		}
	}
	for i := range 3 {
		b, report, e := restore.Restore(c.bytes, [][]byte{c.strands[i].Letters}, "a")
		if want := (api.Report{Groups: []api.GroupReport{{Group: 0, Rows: 3, Missing: 2}}, Lost: 0}); e != api.ErrLost || len(b) != 0 || !sameReport(report, want) {
			t.Errorf("one strand: %v, %v, %d", b, report, e)
		}
	}
	if b, report, e := restore.Restore(c.bytes, nil, "b"); e != api.OK || len(b) != 0 || !sameReport(report, api.Report{Lost: -1}) {
		t.Error("an empty file, no reads", b, report, e)
	}
	if b, report, e := restore.Restore(c.bytes, nil, "x"); e != api.ErrFile || len(b) != 0 || !sameReport(report, api.Report{}) {
		t.Error("no such file", b, report, e)
	}
	wrong := bytes.Clone(c.bytes)
	wrong[len(wrong)-1] ^= 1
	for _, m := range [][]byte{nil, wrong, c.bytes[1:], append(bytes.Clone(c.bytes), 0)} {
		if b, report, e := restore.Restore(m, [][]byte{c.strands[0].Letters}, "x"); e != api.ErrManifest || len(b) != 0 || !sameReport(report, api.Report{}) {
			t.Error("no manifest", b, report, e)
		}
	}
	// Two good reads outvote another one, and a read with an N is dropped.
	s := c.strands[1].Letters
	reads := [][]byte{c.strands[0].Letters, read(r, s), read(r, s), c.lie(r, 0, 0, 1), append([]byte("N"), c.strands[2].Letters...)}
	b, report, e := restore.Restore(c.bytes, reads, "a")
	if want := (api.Report{Groups: []api.GroupReport{{Group: 0, Rows: 3, Missing: 1, Ok: true}}, Lost: -1}); e != api.OK || !bytes.Equal(b, c.files[0].Bytes) || !sameReport(report, want) {
		t.Error("outvoted", b, report, e)
	}
	// One against one: the seat is torn.
	b, report, e = restore.Restore(c.bytes, [][]byte{c.strands[0].Letters, s, c.strands[2].Letters, c.lie(r, 0, 0, 1)}, "a")
	if want := (api.Report{Groups: []api.GroupReport{{Group: 0, Rows: 3, Torn: 1, Ok: true}}, Lost: -1}); e != api.OK || !bytes.Equal(b, c.files[0].Bytes) || !sameReport(report, want) {
		t.Error("torn", b, report, e)
	}
}

// TestP28_4GoodReads: a file comes back, if of each group at most Parity rows have no read; else the first group of which more have none is lost.
func TestP28_4GoodReads(t *testing.T) {
	r := rand.New(rand.NewSource(9))
	for i := range 40 {
		c := build(t, r, []api.Shape{of(2, 3, 2), of(7, 6, 1), of(12, 2, 3), of(22, 4, 0)}[i%4], 30+r.Intn(60), 20)
		var reads, others [][]byte
		lost := map[int]int{}
		for _, x := range c.strands {
			if x.File == 1 {
				others = append(others, read(r, x.Letters))
				continue
			}
			if r.Intn(6) == 0 {
				lost[x.Group]++
				continue
			}
			for range 1 + r.Intn(2) {
				reads = append(reads, read(r, x.Letters))
			}
		}
		first := -1
		for group := range shape.Groups(c.m.Shape, len(c.files[0].Bytes)) {
			if lost[group] > c.m.Shape.Parity {
				first = group
				break
			}
		}
		shuffle(r, reads)
		b, report, e := restore.Restore(c.bytes, reads, "a")
		if first < 0 && (e != api.OK || !bytes.Equal(b, c.files[0].Bytes)) || first >= 0 && (e != api.ErrLost || len(b) != 0) || report.Lost != first {
			t.Fatalf("%v: %v, %d, lost %v", c.m.Shape, report, e, lost)
		}
		for _, g := range report.Groups {
			if g.Missing != lost[g.Group] || g.Torn+g.Wrong != 0 {
				t.Fatalf("%v, lost %v", g, lost)
			}
		}
		// Neither the order of reads nor reads of other files make a difference.
		reads = append(reads, others...)
		shuffle(r, reads)
		b2, report2, e2 := restore.Restore(c.bytes, reads, "a")
		if e2 != e || !bytes.Equal(b2, b) || !sameReport(report2, report) {
			t.Fatalf("with other files' reads: %v, %d, not %v, %d", report2, e2, report, e)
		}
	}
}

// TestP28_4Others: with b other reads a file comes back, if of each group twice b and the rows without a good read are at most Parity.
func TestP28_4Others(t *testing.T) {
	r := rand.New(rand.NewSource(10))
	wrong := 0
	for i := range 60 {
		s := []api.Shape{of(2, 3, 6), of(7, 6, 4), of(12, 20, 9)}[i%3]
		c := build(t, r, s, 30+r.Intn(60))
		b := r.Intn(s.Parity/2 + 1)
		left := map[int]int{}
		var reads [][]byte
		for _, x := range c.strands {
			if left[x.Group] < s.Parity-2*b && r.Intn(3) == 0 {
				left[x.Group]++
				continue
			}
			reads = append(reads, read(r, x.Letters))
		}
		group, place := r.Intn(shape.Groups(s, len(c.files[0].Bytes))), r.Intn(s.Data)
		for k := range b {
			switch r.Intn(4) {
			case 0:
				reads = append(reads, c.lie(r, 0, group, (place+k)%(s.Data+s.Parity)))
			case 1:
				reads = append(reads, c.lie(r, 0, group, place))
			case 2:
				reads = append(reads, letters(r, shape.Strand(s)))
			default:
				reads = append(reads, []byte("no read at all"))
			}
		}
		shuffle(r, reads)
		o, report, e := restore.Restore(c.bytes, reads, "a")
		if e != api.OK || !bytes.Equal(o, c.files[0].Bytes) || report.Lost != -1 {
			t.Fatalf("%v, %d others: %v, %d", s, b, report, e)
		}
		for _, g := range report.Groups {
			wrong += g.Wrong + g.Torn
		}
	}
	if wrong == 0 {
		t.Error("no other read made a difference")
	}
}
