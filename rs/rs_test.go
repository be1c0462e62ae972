package rs_test

import (
	"bytes"
	"math"
	"math/rand"
	"testing"

	"helix/api"
	"helix/gf"
	"helix/poly"
	"helix/rs"
)

// some are n bytes.
func some(r *rand.Rand, n int) []byte {
	b := make([]byte, n)
	for i := range b {
		b[i] = byte(r.Intn(256))
	}
	return b
}

// value is the word's value at x, its first byte the factor of the highest power.
func value(word []byte, x byte) byte {
	v := byte(0)
	for _, b := range word {
		v = gf.Mul(v, x) ^ b
	}
	return v
}

func TestP5_1Generator(t *testing.T) {
	for p, want := range map[int][]byte{0: {1}, 1: {1, 1}, 2: {2, 3, 1}, 3: {8, 14, 7, 1}} {
		if g, e := rs.Generator(p); e != api.OK || !bytes.Equal(g, want) {
			t.Errorf("Generator(%d): %v, %d", p, g, e)
		}
	}
	for p := range 256 {
		g, e := rs.Generator(p)
		if e != api.OK || len(g) != p+1 || g[p] != 1 {
			t.Fatalf("Generator(%d): %v, %d", p, g, e)
		}
		for n := range 255 {
			if (poly.Eval(g, gf.Exp(n)) == 0) != (n < p) {
				t.Fatalf("Generator(%d) at the power %d", p, n)
			}
		}
	}
	for _, p := range []int{-1, 256, math.MinInt, math.MaxInt} {
		if g, e := rs.Generator(p); e != api.ErrArg || len(g) != 0 {
			t.Errorf("Generator(%d): %v, %d", p, g, e)
		}
	}
}

func TestP5_2Encode(t *testing.T) {
	for _, c := range []struct {
		data []byte
		p    int
		want []byte
	}{
		{nil, 0, nil}, {nil, 3, []byte{0, 0, 0}}, {[]byte{1}, 0, nil}, {[]byte{1}, 1, []byte{1}}, {[]byte{1}, 2, []byte{3, 2}},
		{[]byte{1, 2, 4}, 1, []byte{7}}, {[]byte{0, 0}, 2, []byte{0, 0}}, {[]byte{2}, 2, []byte{6, 4}}, {[]byte{1}, 3, []byte{7, 14, 8}},
	} {
		if o, e := rs.Encode(c.data, c.p); e != api.OK || !bytes.Equal(o, c.want) {
			t.Errorf("Encode(%v, %d): %v, %d", c.data, c.p, o, e)
		}
		if o, e := rs.Word(c.data, c.p); e != api.OK || !bytes.Equal(o, append(bytes.Clone(c.data), c.want...)) {
			t.Errorf("Word(%v, %d): %v, %d", c.data, c.p, o, e)
		}
	}
}

func TestP5_2EncodeEdges(t *testing.T) {
	for _, c := range []struct {
		n, p int
		e    api.Errno
	}{
		{0, -1, api.ErrArg}, {0, math.MinInt, api.ErrArg}, {255, 0, api.OK}, {256, 0, api.ErrArg}, {254, 1, api.OK}, {255, 1, api.ErrArg},
		{0, 255, api.OK}, {1, 255, api.ErrArg}, {0, 256, api.ErrArg}, {1, math.MaxInt, api.ErrArg}, {300, math.MaxInt, api.ErrArg}, {300, -50, api.ErrArg}, {223, 32, api.OK},
	} {
		behind, e := rs.Encode(make([]byte, c.n), c.p)
		word, e2 := rs.Word(make([]byte, c.n), c.p)
		if e != c.e || e2 != c.e {
			t.Errorf("%d bytes, %d behind: %d, %d", c.n, c.p, e, e2)
		}
		if e == api.OK && (len(behind) != c.p || len(word) != c.n+c.p) || e != api.OK && len(behind)+len(word) != 0 {
			t.Errorf("%d bytes, %d behind: %d, %d", c.n, c.p, len(behind), len(word))
		}
	}
}

func TestP5_3Syndromes(t *testing.T) {
	r := rand.New(rand.NewSource(1))
	for range 200 {
		n := r.Intn(40)
		word, p := some(r, n), r.Intn(n+1)
		l, e := rs.Syndromes(word, p)
		if e != api.OK || len(l) != p {
			t.Fatalf("%d bytes, %d: %v, %d", n, p, l, e)
		}
		right := true
		for i, x := range l {
			if want := value(word, gf.Exp(i)); x != want {
				t.Fatalf("syndrome %d: %d, not %d", i, x, want)
			}
			right = right && x == 0
		}
		if rs.Right(word, p) != right {
			t.Fatalf("Right(%v, %d)", word, p)
		}
	}
}

func TestP5_3SyndromesEdges(t *testing.T) {
	for _, c := range []struct {
		n, p int
		e    api.Errno
	}{
		{0, 0, api.OK}, {0, 1, api.ErrArg}, {5, 5, api.OK}, {5, 6, api.ErrArg}, {5, -1, api.ErrArg}, {255, 255, api.OK}, {255, 256, api.ErrArg},
		{256, 0, api.ErrArg}, {256, 10, api.ErrArg}, {256, 256, api.ErrArg}, {5, math.MaxInt, api.ErrArg}, {5, math.MinInt, api.ErrArg}, {255, 0, api.OK},
	} {
		l, e := rs.Syndromes(make([]byte, c.n), c.p)
		if e != c.e || e == api.OK && len(l) != c.p || e != api.OK && len(l) != 0 {
			t.Errorf("%d bytes, %d behind: %v, %d", c.n, c.p, l, e)
		}
		if rs.Right(make([]byte, c.n), c.p) != (c.e == api.OK) {
			t.Errorf("%d noughts, %d behind: right or not", c.n, c.p)
		}
	}
	if !rs.Right([]byte{1, 2, 3}, 0) || !rs.Right([]byte{5, 5}, 1) || rs.Right([]byte{5, 4}, 1) || !rs.Right([]byte{1, 3, 2}, 2) || rs.Right([]byte{1, 2, 3}, 2) {
		t.Error("Right of short words")
	}
	if l, e := rs.Syndromes([]byte{1, 2, 4}, 2); e != api.OK || !bytes.Equal(l, []byte{7, 4}) {
		t.Error("syndromes of 1 2 4", l, e)
	}
}

func TestP5_4Right(t *testing.T) {
	r := rand.New(rand.NewSource(2))
	for range 100 {
		n, p := r.Intn(30), 1+r.Intn(12)
		data := some(r, n)
		word, e := rs.Word(data, p)
		if e != api.OK || !rs.Right(word, p) || !bytes.Equal(word[:n], data) {
			t.Fatalf("Word(%v, %d): %v, %d", data, p, word, e)
		}
		other := bytes.Clone(word)
		for at := n; at < len(other); at++ {
			other[at] ^= byte(1 + r.Intn(255))
			if rs.Right(other, p) {
				t.Fatalf("%v is right with other bytes behind: %v", word, other)
			}
		}
		more, _ := rs.Word(some(r, n), p)
		unlike := 0
		for i := range word {
			if more[i] != word[i] {
				unlike++
			}
			more[i] ^= word[i]
		}
		if !rs.Right(more, p) || unlike > 0 && unlike <= p {
			t.Fatalf("two right words of %d bytes, %d behind: unlike at %d", n, p, unlike)
		}
	}
}

func TestP5_4Full(t *testing.T) {
	r := rand.New(rand.NewSource(3))
	data := some(r, 223)
	word, e := rs.Word(data, 32)
	if e != api.OK || len(word) != 255 || !rs.Right(word, 32) {
		t.Fatal(e, len(word))
	}
	word[100] ^= 1
	if rs.Right(word, 32) {
		t.Error("a byte is another one")
	}
}

func TestOwnMemory(t *testing.T) {
	whole := []byte{1, 2, 3, 4, 5, 6, 7, 8}
	was := bytes.Clone(whole)
	data := whole[:4]
	for _, p := range []int{0, 2} {
		for _, call := range []func([]byte, int) ([]byte, api.Errno){rs.Encode, rs.Word, rs.Syndromes} {
			o, _ := call(data, p)
			o = append(o, 9, 9, 9)
			for i := range o {
				o[i] = 0xee
			}
		}
	}
	rs.Right(data, 2)
	if !bytes.Equal(whole, was) {
		t.Error("an argument was changed", whole)
	}
}
