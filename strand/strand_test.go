package strand_test

import (
	"bytes"
	"math/rand"
	"strings"
	"testing"

	"helix/api"
	"helix/edit"
	"helix/frame"
	"helix/nt"
	"helix/primers"
	"helix/shape"
	"helix/strand"
	"helix/word"
)

func of(payload, data, parity int) api.Shape {
	return api.Shape{Payload: payload, Data: data, Parity: parity}
}

// some is a frame of that shape.
func some(r *rand.Rand, s api.Shape) api.Frame {
	f := api.Frame{Group: r.Intn(1 << 16), Place: r.Intn(s.Data + s.Parity), Payload: make([]byte, s.Payload)}
	for i := range f.Payload {
		f.Payload[i] = byte(r.Intn(256))
	}
	return f
}

func library(t *testing.T, n int) []api.Pair {
	t.Helper()
	l, e := primers.Library(n, 99)
	if e != api.OK {
		t.Fatal(e)
	}
	return l
}

// made is the strand, part by part.
func made(t *testing.T, s api.Shape, p api.Pair, f api.Frame) []byte {
	t.Helper()
	x, e := frame.Letters(s, f)
	w, e2 := word.Make(x)
	end, e3 := nt.Rc([]byte(p.Reverse))
	if e != api.OK || e2 != api.OK || e3 != api.OK {
		t.Fatal(e, e2, e3)
	}
	return []byte(p.Forward + string(w) + string(end))
}

func rc(s []byte) []byte {
	o, _ := nt.Rc(s)
	return o
}

// none tells whether Read and One tell nothing of the read.
func none(s api.Shape, l []api.Pair, read []byte) bool {
	which, f, turned, ok := strand.Read(s, l, read)
	return which == -1 && frame.Same(f, api.Frame{}) && !turned && !ok
}

func noOne(s api.Shape, p api.Pair, read []byte) bool {
	f, ok := strand.One(s, p, read)
	return !ok && frame.Same(f, api.Frame{})
}

func TestP21_1Make(t *testing.T) {
	r := rand.New(rand.NewSource(1))
	l := library(t, 3)
	for _, s := range []api.Shape{of(2, 2, 1), of(7, 1, 0), of(12, 100, 32), of(17, 255, 0), of(22, 3, 3)} {
		for _, p := range l {
			f := some(r, s)
			payload := bytes.Clone(f.Payload)
			o, e := strand.Make(s, p, f)
			if e != api.OK || !bytes.Equal(o, made(t, s, p, f)) || len(o) != shape.Strand(s) {
				t.Fatalf("Make(%v, %v, %v): %s, %d", s, p, f, o, e)
			}
			clear(o)
			if !bytes.Equal(f.Payload, payload) {
				t.Fatal("an argument was changed")
			}
		}
	}
}

func TestP21_1MakeWrong(t *testing.T) {
	s, p := of(2, 2, 1), library(t, 1)[0]
	good := api.Frame{Group: 1, Place: 2, Payload: []byte{3, 4}}
	bad := api.Frame{Group: 1, Place: 3, Payload: []byte{3, 4}}
	for _, c := range []struct {
		s api.Shape
		p api.Pair
		f api.Frame
		e api.Errno
	}{
		{s, p, good, api.OK}, {of(3, 2, 1), p, good, api.ErrGeometry}, {api.Shape{}, api.Pair{}, bad, api.ErrGeometry}, {s, p, bad, api.ErrArg}, {s, api.Pair{}, bad, api.ErrArg},
		{s, p, api.Frame{Payload: []byte{1}}, api.ErrArg}, {s, p, api.Frame{Group: -1, Payload: []byte{3, 4}}, api.ErrArg}, {s, api.Pair{}, good, api.ErrPrimers},
		{s, api.Pair{Forward: p.Forward, Reverse: p.Forward}, good, api.ErrPrimers}, {s, api.Pair{Forward: p.Forward}, good, api.ErrPrimers}, {s, api.Pair{Reverse: p.Reverse}, good, api.ErrPrimers},
		{s, api.Pair{Forward: p.Forward, Reverse: p.Reverse[1:]}, good, api.ErrPrimers}, {s, api.Pair{Forward: strings.ToLower(p.Forward), Reverse: p.Reverse}, good, api.ErrPrimers},
	} {
		o, e := strand.Make(c.s, c.p, c.f)
		if e != c.e || (e == api.OK) != (len(o) > 0) {
			t.Errorf("Make(%v, %v, %v): %s, %d", c.s, c.p, c.f, o, e)
		}
	}
}

// TestP21_4EachEdit: a strand with whatever edit, either way about, is read as its frame.
func TestP21_4EachEdit(t *testing.T) {
	r := rand.New(rand.NewSource(2))
	l := library(t, 4)
	for i, s := range []api.Shape{of(2, 2, 1), of(7, 10, 4), of(2, 200, 5)} {
		f := some(r, s)
		p := l[i+1]
		good := made(t, s, p, f)
		for _, x := range edit.Edits(good) {
			y := edit.Apply(good, x)
			if o, ok := strand.One(s, p, y); !ok || !frame.Same(o, f) {
				t.Fatalf("One of %s with %v: %v, %v", good, x, o, ok)
			}
			if !noOne(s, p, rc(y)) {
				t.Fatalf("One of %s with %v, turned about", good, x)
			}
			if which, o, turned, ok := strand.Read(s, l, y); !ok || turned || which != i+1 || !frame.Same(o, f) {
				t.Fatalf("Read of %s with %v: %d, %v, %v, %v", good, x, which, o, turned, ok)
			}
			if which, o, turned, ok := strand.Read(s, l, rc(y)); !ok || !turned || which != i+1 || !frame.Same(o, f) {
				t.Fatalf("Read of %s with %v, turned about: %d, %v, %v, %v", good, x, which, o, turned, ok)
			}
		}
	}
}

func TestP21_2None(t *testing.T) {
	r := rand.New(rand.NewSource(3))
	l := library(t, 3)
	s := of(2, 2, 1)
	p, f := l[0], some(r, s)
	good := made(t, s, p, f)
	wide := of(2, 20, 1)
	far := made(t, wide, p, api.Frame{Place: 9, Payload: []byte{1, 2}})
	x := []byte(strings.Repeat("AC", 16))
	w, _ := word.Make(x)
	other := []byte(p.Forward + string(w) + string(rc([]byte(p.Reverse))))
	for i, c := range []struct {
		s    api.Shape
		p    api.Pair
		read []byte
	}{
		{s, p, nil}, {s, p, []byte("ACGT")}, {s, p, good[2:]}, {s, p, good[:len(good)-2]}, {s, p, append([]byte("AC"), good...)}, {s, p, append(bytes.Clone(good), "AC"...)},
		{s, l[1], good}, {s, api.Pair{Forward: p.Forward, Reverse: l[1].Reverse}, good}, {s, api.Pair{Forward: l[1].Forward, Reverse: p.Reverse}, good},
		{s, api.Pair{Forward: p.Reverse, Reverse: p.Forward}, good}, {s, api.Pair{}, good}, {s, api.Pair{Forward: p.Forward}, good}, {s, api.Pair{Forward: p.Forward, Reverse: p.Forward}, good},
		{of(7, 2, 1), p, good}, {of(3, 2, 1), p, good}, {api.Shape{}, p, good}, {of(2, 2, 33), p, good}, {s, p, far}, {s, p, other},
		{s, p, bytes.ToLower(good)}, {s, p, bytes.Repeat(good, 20)}, {s, p, bytes.Repeat([]byte("A"), 113)}, {s, p, bytes.Repeat([]byte("A"), 5000)},
	} {
		if !noOne(c.s, c.p, c.read) || !none(c.s, []api.Pair{c.p}, c.read) || !none(c.s, []api.Pair{c.p}, rc(c.read)) {
			t.Errorf("%d: %v, %v, %.200s", i, c.s, c.p, c.read)
		}
	}
	if o, ok := strand.One(wide, p, far); !ok || o.Place != 9 {
		t.Error("a place that this shape has", o, ok)
	}
	// With another byte than the four letters there is none, though it is near.
	for at := range len(good) + 1 {
		for _, kind := range []uint8{api.EditSwap, api.EditMore} {
			y := edit.Apply(good, api.Edit{Kind: kind, At: at, By: 'N'})
			if !noOne(s, p, y) || !none(s, l, y) {
				t.Fatalf("with an N at %d", at)
			}
		}
	}
	if !none(s, nil, good) || !none(s, l, nil) || !none(s, nil, nil) {
		t.Error("Read of nothing")
	}
}

// TestP21_2TwoEdits: what is read is near, and what is near is read.
func TestP21_2TwoEdits(t *testing.T) {
	r := rand.New(rand.NewSource(4))
	l := library(t, 2)
	s := of(2, 2, 1)
	read := 0
	for range 3000 {
		f := some(r, s)
		good := made(t, s, l[1], f)
		y := good
		for range 2 {
			x := edit.Edits(y)
			y = edit.Apply(y, x[r.Intn(len(x))])
		}
		o, ok := strand.One(s, l[1], y)
		which, o2, turned, ok2 := strand.Read(s, l, y)
		switch {
		case edit.Near(good, y) != ok || ok && !frame.Same(o, f):
			t.Fatalf("%s, and %s: %v, %v", good, y, o, ok)
		case ok2 != ok || turned || !frame.Same(o2, o) || ok && which != 1 || !ok && which != -1:
			t.Fatalf("%s, and %s: %d, %v, %v, %v", good, y, which, o2, turned, ok2)
		case ok:
			read++
		}
	}
	if read == 0 {
		t.Error("nothing was read")
	}
}

func TestP21_3Read(t *testing.T) {
	r := rand.New(rand.NewSource(5))
	l := library(t, 8)
	s := of(12, 20, 5)
	for i, p := range l {
		f := some(r, s)
		whole := append(made(t, s, p, f), "spare"...)
		was := bytes.Clone(whole)
		y := whole[:len(whole)-5]
		which, o, turned, ok := strand.Read(s, l, y)
		if which != i || turned || !ok || !frame.Same(o, f) {
			t.Errorf("pair %d: %d, %v, %v, %v", i, which, o, turned, ok)
		}
		clear(o.Payload)
		which, o, turned, ok = strand.Read(s, l, rc(y))
		if which != i || !turned || !ok || !frame.Same(o, f) {
			t.Errorf("pair %d, turned about: %d, %v, %v, %v", i, which, o, turned, ok)
		}
		if !bytes.Equal(whole, was) {
			t.Fatal("an argument was changed")
		}
		// Pairs are taken one by one: those that may not be are none's, and the first of two that are the same is told.
		many := []api.Pair{{}, l[(i+1)%8], p, p}
		if which, _, _, ok := strand.Read(s, many, y); which != 2 || !ok {
			t.Errorf("pair %d, twice: %d, %v", i, which, ok)
		}
	}
}
