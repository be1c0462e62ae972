package manifest_test

import (
	"bytes"
	"hash/crc32"
	"math"
	"slices"
	"strings"
	"testing"

	"helix/api"
	"helix/crc"
	"helix/manifest"
	"helix/primers"
)

func of(payload, data, parity int) api.Shape {
	return api.Shape{Payload: payload, Data: data, Parity: parity}
}

func library(t *testing.T, n int) []api.Pair {
	t.Helper()
	l, e := primers.Library(n, 5)
	if e != api.OK {
		t.Fatal(e)
	}
	return l
}

func entry(name string, length int, p api.Pair) api.Entry {
	return api.Entry{Name: name, Length: length, Sum: 0x01020304 + uint32(length), Pair: p}
}

func file(name string, b []byte) api.File {
	return api.File{Name: name, Bytes: b}
}

// summed is b with the sum of it behind.
func summed(b []byte) []byte {
	sum := crc32.ChecksumIEEE(b)
	return append(bytes.Clone(b), byte(sum), byte(sum>>8), byte(sum>>16), byte(sum>>24))
}

// raw are the bytes of what may be no manifest.
func raw(payload, data, parity byte, files ...api.Entry) []byte {
	b := []byte{0x48, 0x4c, 0x58, 0x31, payload, data, parity, byte(len(files))}
	for _, f := range files {
		b = append(b, byte(len(f.Name)))
		b = append(b, f.Name...)
		b = append(b, byte(f.Length), byte(f.Length>>8), byte(f.Length>>16), byte(f.Length>>24))
		b = append(b, byte(f.Sum), byte(f.Sum>>8), byte(f.Sum>>16), byte(f.Sum>>24))
		b = append(b, f.Pair.Forward+f.Pair.Reverse...)
	}
	return summed(b)
}

func TestP23_1Check(t *testing.T) {
	l := library(t, 8)
	s := of(2, 2, 1)
	a, b, large, below := entry("a", 3, l[0]), entry("b", 4000, l[1]), entry("c", 4001, l[2]), entry("d", -1, l[2])
	var eight []api.Entry
	for i, p := range l {
		eight = append(eight, entry(string(rune('a'+i)), i, p))
	}
	for i, c := range []struct {
		s     api.Shape
		files []api.Entry
		e     api.Errno
	}{
		{s, nil, api.OK}, {s, []api.Entry{a, b}, api.OK}, {s, []api.Entry{entry("e", 0, l[0])}, api.OK}, {s, eight, api.OK}, {of(22, 223, 32), eight, api.OK},
		{of(3, 2, 1), nil, api.ErrGeometry}, {api.Shape{}, []api.Entry{large, large, {}}, api.ErrGeometry},
		{s, append(slices.Clone(eight), a), api.ErrLarge}, {s, []api.Entry{a, large}, api.ErrLarge}, {s, []api.Entry{below, a, a}, api.ErrLarge}, {s, make([]api.Entry, 9), api.ErrLarge},
		{s, []api.Entry{{Name: "", Length: math.MaxInt}}, api.ErrLarge}, {s, []api.Entry{entry("a", math.MinInt, l[0])}, api.ErrLarge},
		{s, []api.Entry{{}}, api.ErrPrimers}, {s, []api.Entry{a, entry("b", 1, l[0])}, api.ErrPrimers}, {s, []api.Entry{entry("", 1, api.Pair{Forward: l[0].Forward})}, api.ErrPrimers},
		{s, []api.Entry{a, entry("a", 1, api.Pair{Forward: l[1].Forward, Reverse: l[0].Reverse})}, api.ErrPrimers},
		{s, []api.Entry{a, entry("a", 1, l[1])}, api.ErrName}, {s, []api.Entry{a, b, entry("b", 1, l[2])}, api.ErrName}, {s, []api.Entry{entry("", 1, l[0])}, api.ErrName},
		{s, []api.Entry{entry("a\x00", 1, l[0])}, api.ErrName}, {s, []api.Entry{a, entry(strings.Repeat("x", 33), 1, l[1])}, api.ErrName},
	} {
		m := api.Manifest{Shape: c.s, Files: c.files}
		if e := manifest.Check(m); e != c.e {
			t.Errorf("%d: Check %d, not %d", i, e, c.e)
		}
		o, e := manifest.Write(m)
		if e != c.e || (e == api.OK) != (len(o) > 0) {
			t.Errorf("%d: Write %v, %d", i, o, e)
		}
	}
}

func TestP23_1FindPairsSame(t *testing.T) {
	p, q := api.Pair{Forward: "AC"}, api.Pair{Reverse: "GT"}
	m := api.Manifest{Shape: of(2, 2, 1), Files: []api.Entry{entry("a", 1, p), entry("b", 2, q), entry("a", 3, q), entry("", 3, p)}}
	for name, want := range map[string]int{"a": 0, "b": 1, "": 3, "c": -1, "A": -1, "a ": -1} {
		if manifest.Find(m, name) != want {
			t.Errorf("Find(%q): %d", name, manifest.Find(m, name))
		}
	}
	if manifest.Find(api.Manifest{}, "") != -1 {
		t.Error("Find of no files")
	}
	if l := manifest.Pairs(m); !slices.Equal(l, []api.Pair{p, q, q, p}) || len(manifest.Pairs(api.Manifest{})) != 0 {
		t.Error("Pairs", l)
	}
	if !manifest.Same(m, m) || !manifest.Same(api.Manifest{}, api.Manifest{Files: []api.Entry{}}) {
		t.Error("not the same as itself")
	}
	for i, change := range []func(*api.Manifest){
		func(m *api.Manifest) { m.Shape.Payload++ }, func(m *api.Manifest) { m.Shape.Data++ }, func(m *api.Manifest) { m.Shape.Parity++ }, func(m *api.Manifest) { m.Files = m.Files[:3] },
		func(m *api.Manifest) { m.Files[1].Name = "c" }, func(m *api.Manifest) { m.Files[1].Length++ }, func(m *api.Manifest) { m.Files[1].Sum++ },
		func(m *api.Manifest) { m.Files[1].Pair.Forward = "T" }, func(m *api.Manifest) { m.Files[1].Pair.Reverse = "T" }, func(m *api.Manifest) { m.Files[0], m.Files[1] = m.Files[1], m.Files[0] },
	} {
		other := api.Manifest{Shape: m.Shape, Files: slices.Clone(m.Files)}
		change(&other)
		if manifest.Same(m, other) || manifest.Same(other, m) {
			t.Errorf("the change %d makes no difference", i)
		}
	}
}

func TestP23_2Of(t *testing.T) {
	l := library(t, 2)
	s := of(7, 3, 2)
	files := []api.File{file("one", []byte("123456789")), file("two", nil)}
	m, e := manifest.Of(s, l, files)
	want := api.Manifest{Shape: s, Files: []api.Entry{{Name: "one", Length: 9, Sum: 0xcbf43926, Pair: l[0]}, {Name: "two", Length: 0, Sum: 0, Pair: l[1]}}}
	if e != api.OK || !manifest.Same(m, want) || manifest.Check(m) != api.OK {
		t.Error(m, e)
	}
	if m, e := manifest.Of(s, nil, nil); e != api.OK || !manifest.Same(m, api.Manifest{Shape: s}) {
		t.Error("no files", m, e)
	}
	large := file("x", make([]byte, 4001))
	for i, c := range []struct {
		s     api.Shape
		pairs []api.Pair
		files []api.File
		e     api.Errno
	}{
		{of(3, 1, 1), nil, []api.File{large}, api.ErrGeometry}, {s, nil, []api.File{large}, api.ErrLarge}, {s, l, files[:1], api.ErrPrimers}, {s, l[:1], files, api.ErrPrimers},
		{s, l, []api.File{files[0], files[0]}, api.ErrName}, {s, l[:1], []api.File{file("", nil)}, api.ErrName},
	} {
		if m, e := manifest.Of(c.s, c.pairs, c.files); e != c.e || !manifest.Same(m, api.Manifest{}) {
			t.Errorf("%d: %v, %d", i, m, e)
		}
	}
}

func TestP23_3Write(t *testing.T) {
	l := library(t, 3)
	o, e := manifest.Write(api.Manifest{Shape: of(2, 2, 1)})
	if e != api.OK || len(o) != 12 || !bytes.Equal(o, raw(2, 2, 1)) {
		t.Error("without files", o, e)
	}
	m := api.Manifest{Shape: of(22, 223, 32), Files: []api.Entry{entry("one", 4000, l[0]), entry(strings.Repeat("é", 16), 0, l[1]), {Name: "\xff", Length: 300, Sum: math.MaxUint32, Pair: l[2]}}}
	o, e = manifest.Write(m)
	if want := raw(22, 223, 32, m.Files...); e != api.OK || !bytes.Equal(o, want) {
		t.Errorf("%v, not %v, %d", o, want, e)
	}
	if !strings.HasPrefix(string(o), "HLX1\x16\xdf\x20\x03\x03one\xa0\x0f\x00\x00\xa4\x12\x02\x01"+l[0].Forward+l[0].Reverse+"\x20") || crc.Sum(o) != 0x2144df1c {
		t.Errorf("%q", o)
	}
	back, e := manifest.Read(o)
	if e != api.OK || !manifest.Same(back, m) {
		t.Error(back, e)
	}
}

func TestP23_3ReadWrong(t *testing.T) {
	l := library(t, 8)
	a, b := entry("a", 3, l[0]), entry("b", 4000, l[1])
	good := raw(2, 2, 1, a, b)
	if m, e := manifest.Read(good); e != api.OK || !manifest.Same(m, api.Manifest{Shape: of(2, 2, 1), Files: []api.Entry{a, b}}) {
		t.Fatal(m, e)
	}
	var nine []api.Entry
	for i := range 9 {
		nine = append(nine, entry(string(rune('a'+i)), i, l[i%8]))
	}
	body := good[:len(good)-4]
	counted := func(n byte) []byte {
		o := bytes.Clone(body)
		o[7] = n
		return summed(o)
	}
	for i, wrong := range [][]byte{
		nil, {}, []byte("HLX1"), good[:11], raw(3, 2, 1, a), raw(2, 0, 1, a), raw(2, 255, 1, a), raw(2, 2, 33, a), raw(2, 2, 1, entry("a", 4001, l[0])), raw(2, 2, 1, entry("a", -1, l[0])),
		raw(2, 2, 1, a, entry("a", 3, l[1])), raw(2, 2, 1, a, entry("b", 3, l[0])), raw(2, 2, 1, entry("", 3, l[0])), raw(2, 2, 1, entry("\x00", 3, l[0])), raw(2, 2, 1, entry(strings.Repeat("x", 33), 3, l[0])),
		raw(2, 2, 1, nine...), summed(append([]byte("HLX2"), body[4:]...)), summed(append(bytes.Clone(body), 0)), summed(body[:len(body)-1]), append(bytes.Clone(good), 0), append([]byte{0}, good...),
		counted(0), counted(1), counted(3), counted(255), summed(nil), summed([]byte("HLX1")), bytes.Repeat([]byte{0xff}, 300), append(bytes.Clone(good), good...),
		raw(2, 2, 1, entry("a", 3, api.Pair{Forward: strings.ToLower(l[0].Forward), Reverse: l[0].Reverse})),
	} {
		if m, e := manifest.Read(wrong); e != api.ErrManifest || !manifest.Same(m, api.Manifest{}) {
			t.Errorf("%d: %v, %d", i, m, e)
		}
	}
}

func TestP23_4EachByte(t *testing.T) {
	l := library(t, 3)
	m := api.Manifest{Shape: of(7, 10, 5), Files: []api.Entry{entry("first", 77, l[0]), entry("b", 0, l[1]), entry("c c", 3999, l[2])}}
	good, e := manifest.Write(m)
	if e != api.OK {
		t.Fatal(e)
	}
	room := append(bytes.Clone(good), "spare"...)
	was := bytes.Clone(room)
	for at := range good {
		for _, x := range []byte{1, 2, 0x20, 0x80, 0xff} {
			other := bytes.Clone(good)
			other[at] ^= x
			if o, e := manifest.Read(other); e != api.ErrManifest || !manifest.Same(o, api.Manifest{}) {
				t.Fatalf("the byte %d with %x: %v, %d", at, x, o, e)
			}
		}
		if o, e := manifest.Read(room[:at]); e != api.ErrManifest || !manifest.Same(o, api.Manifest{}) {
			t.Fatalf("%d bytes: %v, %d", at, o, e)
		}
	}
	o, e := manifest.Read(room[:len(good)])
	if e != api.OK || !manifest.Same(o, m) || !bytes.Equal(room, was) {
		t.Fatal(o, e)
	}
	if again, e := manifest.Write(o); e != api.OK || !bytes.Equal(again, good) {
		t.Fatal("written again", again, e)
	}
	clear(room)
	if !manifest.Same(o, m) {
		t.Error("Read shares memory")
	}
}
