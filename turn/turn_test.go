package turn_test

import (
	"bytes"
	"math/rand"
	"strings"
	"testing"

	"helix/api"
	"helix/turn"
)

const four = "ACGT"

// rest are the letters but one, in order.
func rest(c byte) string {
	return strings.ReplaceAll(four, string(c), "")
}

func isLetter(c byte) bool {
	return strings.IndexByte(four, c) >= 0
}

func TestP9_1Behind(t *testing.T) {
	for ahead := range 256 {
		for d := range 256 {
			c, e := turn.Behind(byte(ahead), byte(d))
			var want api.Errno
			switch {
			case !isLetter(byte(ahead)):
				want = api.ErrLetter
			case d > 2:
				want = api.ErrArg
			}
			if e != want || want != api.OK && c != 0 || want == api.OK && c != rest(byte(ahead))[d] {
				t.Fatalf("Behind(%d, %d): %d, %d", ahead, d, c, e)
			}
		}
	}
	if c, e := turn.Behind('G', 2); c != 'T' || e != api.OK {
		t.Error("behind G by 2", c, e)
	}
}

func TestP9_1Trit(t *testing.T) {
	for ahead := range 256 {
		for c := range 256 {
			d, e := turn.Trit(byte(ahead), byte(c))
			var want api.Errno
			switch {
			case !isLetter(byte(ahead)) || !isLetter(byte(c)):
				want = api.ErrLetter
			case ahead == c:
				want = api.ErrRun
			}
			if e != want || want != api.OK && d != 0 || want == api.OK && int(d) != strings.IndexByte(rest(byte(ahead)), byte(c)) {
				t.Fatalf("Trit(%d, %d): %d, %d", ahead, c, d, e)
			}
		}
	}
}

func TestP9_2Turn(t *testing.T) {
	for _, c := range []struct {
		ahead byte
		trits []byte
		want  string
		e     api.Errno
	}{
		{'A', []byte{0, 0, 0}, "CAC", api.OK}, {'G', []byte{2}, "T", api.OK}, {'T', []byte{2, 2, 1, 0}, "GTCA", api.OK}, {'C', nil, "", api.OK},
		{'N', nil, "", api.ErrLetter}, {0, []byte{0}, "", api.ErrLetter}, {'a', []byte{3}, "", api.ErrLetter}, {'A', []byte{3}, "", api.ErrArg},
		{'A', []byte{0, 1, 2, 3}, "", api.ErrArg}, {'A', []byte{255, 1}, "", api.ErrArg}, {'A', []byte{0, 4, 0}, "", api.ErrArg},
	} {
		if s, e := turn.Turn(c.ahead, c.trits); e != c.e || string(s) != c.want {
			t.Errorf("Turn(%c, %v): %s, %d", c.ahead, c.trits, s, e)
		}
	}
}

func TestP9_2Back(t *testing.T) {
	for _, c := range []struct {
		ahead byte
		s     string
		want  []byte
		e     api.Errno
	}{
		{'A', "CAC", []byte{0, 0, 0}, api.OK}, {'G', "T", []byte{2}, api.OK}, {'T', "", nil, api.OK},
		{'N', "", nil, api.ErrLetter}, {'N', "A", nil, api.ErrLetter}, {'A', "A", nil, api.ErrRun}, {'A', "CN", nil, api.ErrLetter},
		{'A', "CCN", nil, api.ErrRun}, {'A', "CNN", nil, api.ErrLetter}, {'A', "CGTT", nil, api.ErrRun}, {'A', "c", nil, api.ErrLetter},
		{'A', "AN", nil, api.ErrRun}, {'A', "NCC", nil, api.ErrLetter}, {'N', "NN", nil, api.ErrLetter},
	} {
		if d, e := turn.Back(c.ahead, []byte(c.s)); e != c.e || !bytes.Equal(d, c.want) {
			t.Errorf("Back(%c, %s): %v, %d", c.ahead, c.s, d, e)
		}
	}
}

func TestP9_3Turned(t *testing.T) {
	r := rand.New(rand.NewSource(1))
	for n := range 300 {
		ahead := four[r.Intn(4)]
		whole := make([]byte, n+4)
		for i := range whole {
			whole[i] = byte(r.Intn(3))
		}
		was := bytes.Clone(whole)
		s, e := turn.Turn(ahead, whole[:n])
		if e != api.OK || len(s) != n {
			t.Fatalf("%d trits: %s, %d", n, s, e)
		}
		last := ahead
		for i, c := range s {
			if c == last || c != rest(last)[whole[i]] {
				t.Fatalf("the place %d of %s", i, s)
			}
			last = c
		}
		letters := bytes.Clone(s)
		d, e := turn.Back(ahead, s)
		if e != api.OK || !bytes.Equal(d, whole[:n]) {
			t.Fatalf("%s, turned back: %v, %d", s, d, e)
		}
		clear(d)
		if !bytes.Equal(s, letters) || !bytes.Equal(whole, was) {
			t.Fatal("an argument was changed")
		}
	}
}
