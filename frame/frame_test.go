package frame_test

import (
	"bytes"
	"math"
	"math/rand"
	"strings"
	"testing"

	"helix/api"
	"helix/frame"
	"helix/nt"
	"helix/shape"
)

func of(payload, data, parity int) api.Shape {
	return api.Shape{Payload: payload, Data: data, Parity: parity}
}

func fr(group, place int, payload ...byte) api.Frame {
	return api.Frame{Group: group, Place: place, Payload: payload}
}

// some is a frame of that shape.
func some(r *rand.Rand, s api.Shape) api.Frame {
	f := fr(r.Intn(1<<16), r.Intn(s.Data+s.Parity))
	f.Payload = make([]byte, s.Payload)
	for i := range f.Payload {
		f.Payload[i] = byte(r.Intn(256) * r.Intn(2))
	}
	return f
}

// turned are trits as letters, behind A.
func turned(trits []byte) []byte {
	var s []byte
	last := byte('A')
	for _, t := range trits {
		last = strings.ReplaceAll("ACGT", string(last), "")[t]
		s = append(s, last)
	}
	return s
}

// body is the body of a frame.
func body(f api.Frame) []byte {
	said := append([]byte{byte(f.Group >> 8), byte(f.Group), byte(f.Place)}, f.Payload...)
	var trits []byte
	for i := 0; i < len(said); i += 5 {
		n := 0
		for _, b := range said[i : i+5] {
			n = n*256 + int(b)
		}
		var five [26]byte
		for k := 25; k >= 0; k-- {
			five[k] = byte(n % 3)
			n /= 3
		}
		trits = append(trits, five[:]...)
	}
	return turned(trits)
}

// at is the index of k, in so many letters, and the body flipped at k.
func at(body []byte, k, index int) []byte {
	var x []byte
	for i := range index {
		x = append(x, []string{"AT", "CG"}[i%2][k>>(index-1-i)&1])
	}
	cut := min(k, len(body))
	return append(append(x, strings.NewReplacer("A", "C", "C", "A", "G", "T", "T", "G").Replace(string(body[:cut]))...), body[cut:]...)
}

// letters are the letters of a body: the index of the least k, and the body flipped there.
func letters(body []byte, index int) []byte {
	for k := range len(body) + 1 {
		if x := at(body, k, index); 2*nt.Gc(x[index:]) == len(body) {
			return x
		}
	}
	return nil
}

func TestP19_1Check(t *testing.T) {
	s := of(2, 3, 2)
	for _, c := range []struct {
		s api.Shape
		f api.Frame
		e api.Errno
	}{
		{s, fr(0, 0, 1, 2), api.OK}, {s, fr(65535, 4, 1, 2), api.OK}, {s, fr(65536, 0, 1, 2), api.ErrArg}, {s, fr(-1, 0, 1, 2), api.ErrArg}, {s, fr(0, -1, 1, 2), api.ErrArg},
		{s, fr(0, 5, 1, 2), api.ErrArg}, {s, fr(0, 0, 1), api.ErrArg}, {s, fr(0, 0, 1, 2, 3), api.ErrArg}, {s, fr(0, 0), api.ErrArg}, {s, fr(math.MaxInt, 0, 1, 2), api.ErrArg},
		{s, fr(0, math.MinInt, 1, 2), api.ErrArg}, {of(2, 254, 1), fr(1, 254, 1, 2), api.OK}, {of(2, 254, 1), fr(1, 255, 1, 2), api.ErrArg},
		{of(3, 1, 0), fr(0, 0, 1, 2, 3), api.ErrGeometry}, {api.Shape{}, api.Frame{}, api.ErrGeometry}, {of(2, 1, 33), fr(-1, 0), api.ErrGeometry},
	} {
		if e := frame.Check(c.s, c.f); e != c.e {
			t.Errorf("Check(%v, %v): %d", c.s, c.f, e)
		}
		x, e := frame.Letters(c.s, c.f)
		if e != c.e || (e == api.OK) != (len(x) > 0) {
			t.Errorf("Letters(%v, %v): %s, %d", c.s, c.f, x, e)
		}
	}
}

func TestP19_1Same(t *testing.T) {
	a := fr(1, 2, 3, 4)
	for _, c := range []struct {
		f    api.Frame
		same bool
	}{{fr(1, 2, 3, 4), true}, {fr(0, 2, 3, 4), false}, {fr(1, 0, 3, 4), false}, {fr(1, 2, 3, 5), false}, {fr(1, 2, 3), false}, {fr(1, 2, 3, 4, 0), false}, {fr(1, 2), false}} {
		if frame.Same(a, c.f) != c.same || frame.Same(c.f, a) != c.same {
			t.Errorf("Same(%v, %v)", a, c.f)
		}
	}
	if !frame.Same(api.Frame{}, api.Frame{Payload: []byte{}}) || !frame.Same(fr(-5, math.MaxInt), fr(-5, math.MaxInt)) {
		t.Error("Same of empty payloads")
	}
}

func TestP19_2Letters(t *testing.T) {
	r := rand.New(rand.NewSource(1))
	for _, s := range []api.Shape{of(2, 2, 1), of(7, 10, 4), of(12, 200, 30), of(17, 1, 0), of(22, 223, 32)} {
		for range 100 {
			f := some(r, s)
			payload := bytes.Clone(f.Payload)
			x, e := frame.Letters(s, f)
			want := letters(body(f), shape.Index(s))
			if e != api.OK || !bytes.Equal(x, want) || len(x) != shape.Inner(s) {
				t.Fatalf("Letters(%v, %v): %s, %d, not %s", s, f, x, e, want)
			}
			o, e := frame.Back(s, x)
			if e != api.OK || !frame.Same(o, f) {
				t.Fatalf("Back(%v, %s): %v, %d, not %v", s, x, o, e, f)
			}
			clear(o.Payload)
			if !bytes.Equal(x, want) {
				t.Fatal("Back shares memory")
			}
			clear(x)
			if !bytes.Equal(f.Payload, payload) {
				t.Fatal("Letters shares memory")
			}
		}
	}
}

func TestP19_3Back(t *testing.T) {
	s := of(7, 3, 2)
	r := rand.New(rand.NewSource(2))
	f := some(r, s)
	good := letters(body(f), 6)
	with := func(x []byte, place int, c byte) []byte {
		x = bytes.Clone(x)
		x[place] = c
		return x
	}
	rows := bytes.Repeat([]byte("C"), 52)
	runs := letters(rows, 6)
	twos := letters(turned(bytes.Repeat([]byte{2}, 52)), 6)
	both := body(f)
	copy(both[26:], turned(bytes.Repeat([]byte{2}, 52))[26:])
	both[1] = both[0]
	far := letters(body(fr(7, 5, 1, 2, 3, 4, 5, 6, 7)), 6)
	for i, c := range []struct {
		s api.Shape
		x []byte
		e api.Errno
	}{
		{s, good, api.OK}, {of(8, 3, 2), good, api.ErrGeometry}, {api.Shape{}, nil, api.ErrGeometry}, {s, nil, api.ErrArg}, {s, good[:57], api.ErrArg},
		{s, append(bytes.Clone(good), 'A'), api.ErrArg}, {of(2, 3, 2), good, api.ErrArg}, {s, bytes.Repeat([]byte("N"), 57), api.ErrArg},
		{s, with(good, 0, 'C'), api.ErrLetter}, {s, with(good, 5, 'T'), api.ErrLetter}, {s, with(good, 0, 'N'), api.ErrLetter}, {s, with(good, 6, 'N'), api.ErrLetter},
		{s, with(good, 57, 'a'), api.ErrLetter}, {s, runs, api.ErrRun}, {s, with(runs, 57, 0), api.ErrLetter}, {s, twos, api.ErrTrits}, {s, letters(both, 6), api.ErrRun},
		{s, far, api.ErrArg}, {of(7, 4, 2), far, api.OK},
	} {
		o, e := frame.Back(c.s, c.x)
		if e != c.e || e != api.OK && !frame.Same(o, api.Frame{}) {
			t.Errorf("%d: Back(%v, %s): %v, %d, not %d", i, c.s, c.x, o, e, c.e)
		}
	}
}

func TestP19_3OtherK(t *testing.T) {
	s := of(7, 3, 2)
	r := rand.New(rand.NewSource(3))
	balanced := 0
	for range 60 {
		f := some(r, s)
		good, b := letters(body(f), 6), body(f)
		for k := range 64 {
			x := at(b, k, 6)
			if bytes.Equal(x, good) {
				continue
			}
			if k <= 52 && 2*nt.Gc(x[6:]) == 52 {
				balanced++
			}
			// Flipped back at k, it is the body, of which Balance tells another k.
			if o, e := frame.Back(s, x); e != api.ErrNone || !frame.Same(o, api.Frame{}) {
				t.Fatalf("flipped at %d: %v, %d", k, o, e)
			}
		}
	}
	if balanced == 0 {
		t.Error("no body is balanced at more than one place")
	}
	// Not balanced, and of two letters alike: the first error is told.
	x := at(bytes.Repeat([]byte("C"), 52), 3, 6)
	if _, e := frame.Back(s, x); e != api.ErrNone {
		t.Error("two errors", e)
	}
}

func TestP19_4Follows(t *testing.T) {
	r := rand.New(rand.NewSource(4))
	told := 0
	for i := range 600 {
		s := of([]int{2, 7, 12, 17, 22}[i%5], 100, 10)
		f := some(r, s)
		x, e := frame.Letters(s, f)
		if e != api.OK || 2*nt.Gc(x) != len(x) || nt.Run(x) > 3 {
			t.Fatalf("%v: %s, %d", f, x, e)
		}
		for range 20 {
			y := bytes.Clone(x)
			y[r.Intn(len(y))] = "ACGT"[r.Intn(4)]
			y[r.Intn(len(y))] = "ACGT"[r.Intn(4)]
			o, e := frame.Back(s, y)
			if e != api.OK {
				continue
			}
			told++
			if again, e := frame.Letters(s, o); e != api.OK || !bytes.Equal(again, y) {
				t.Fatalf("%s is told back as %v, whose letters are %s", y, o, again)
			}
		}
	}
	if told == 0 {
		t.Error("nothing was told back")
	}
}

func TestArgumentsStay(t *testing.T) {
	s := of(2, 2, 1)
	whole := append(letters(body(fr(1, 1, 8, 9)), 6), "spare"...)
	was := bytes.Clone(whole)
	if _, e := frame.Back(s, whole[:32]); e != api.OK || !bytes.Equal(whole, was) {
		t.Error(e, "Back changed its argument")
	}
	room := []byte{8, 9, 77, 78}
	x, _ := frame.Letters(s, fr(1, 1, room[:2]...))
	clear(append(x, "more"...))
	if !bytes.Equal(room, []byte{8, 9, 77, 78}) {
		t.Error("Letters changed its argument")
	}
}
