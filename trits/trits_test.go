package trits_test

import (
	"bytes"
	"math"
	"math/rand"
	"testing"

	"helix/api"
	"helix/trits"
)

// number is the number that five bytes are.
func number(b [5]byte) uint64 {
	n := uint64(0)
	for _, c := range b {
		n = n*256 + uint64(c)
	}
	return n
}

// digits are the 26 digits by three of n.
func digits(n uint64) [26]byte {
	var t [26]byte
	for i := 25; i >= 0; i-- {
		t[i] = byte(n % 3)
		n /= 3
	}
	return t
}

// some are n bytes.
func some(r *rand.Rand, n int) []byte {
	b := make([]byte, n)
	for i := range b {
		b[i] = byte(r.Intn(256))
	}
	return b
}

func TestP8_1Five(t *testing.T) {
	five := trits.Five([5]byte{0, 0, 0, 0, 5})
	if five != [26]byte{24: 1, 25: 2} {
		t.Error("of 5", five)
	}
	if trits.Five([5]byte{}) != [26]byte{} {
		t.Error("of 0")
	}
	r := rand.New(rand.NewSource(1))
	for range 2000 {
		b := [5]byte(some(r, 5))
		five := trits.Five(b)
		if five != digits(number(b)) {
			t.Fatalf("Five(%v): %v", b, five)
		}
		if back, e := trits.Back(five); e != api.OK || back != b {
			t.Fatalf("Back(%v): %v, %d", five, back, e)
		}
	}
	top := [5]byte{255, 255, 255, 255, 255}
	if back, e := trits.Back(trits.Five(top)); trits.Five(top) != digits(1<<40-1) || back != top || e != api.OK {
		t.Error("of the greatest bytes", back, e)
	}
}

func TestP8_1Back(t *testing.T) {
	if b, e := trits.Back(digits(1<<40 - 1)); e != api.OK || b != [5]byte{255, 255, 255, 255, 255} {
		t.Error("the last that are", b, e)
	}
	var twos [26]byte
	for i := range twos {
		twos[i] = 2
	}
	for _, d := range [][26]byte{digits(1 << 40), digits(1<<40 + 1), digits(2541865828328), twos} {
		if b, e := trits.Back(d); e != api.ErrTrits || b != [5]byte{} {
			t.Errorf("Back(%v): %v, %d", d, b, e)
		}
	}
	for at := range 26 {
		for _, bad := range []byte{3, 4, 255} {
			d := digits(12345)
			d[at] = bad
			if b, e := trits.Back(d); e != api.ErrArg || b != [5]byte{} {
				t.Errorf("Back(%v): %v, %d", d, b, e)
			}
			d = twos
			d[at] = bad
			if b, e := trits.Back(d); e != api.ErrArg || b != [5]byte{} {
				t.Errorf("Back(%v), too great as well: %v, %d", d, b, e)
			}
		}
	}
}

func TestP8_2Pack(t *testing.T) {
	r := rand.New(rand.NewSource(2))
	for n := range 60 {
		b := some(r, n)
		packed, e := trits.Pack(b)
		if n%5 != 0 {
			if e != api.ErrArg || len(packed) != 0 {
				t.Errorf("%d bytes: %d trits, %d", n, len(packed), e)
			}
			continue
		}
		if e != api.OK || len(packed) != n/5*26 {
			t.Fatalf("%d bytes: %d trits, %d", n, len(packed), e)
		}
		for i := range n / 5 {
			want := trits.Five([5]byte(b[5*i : 5*i+5]))
			if !bytes.Equal(packed[26*i:26*i+26], want[:]) {
				t.Fatalf("block %d of %d", i, n/5)
			}
		}
		back, e := trits.Unpack(packed)
		if e != api.OK || !bytes.Equal(back, b) {
			t.Fatalf("unpacked: %v, %d, not %v", back, e, b)
		}
	}
	if o, e := trits.Pack(nil); e != api.OK || len(o) != 0 {
		t.Error("Pack of nothing", o, e)
	}
	if o, e := trits.Unpack(nil); e != api.OK || len(o) != 0 {
		t.Error("Unpack of nothing", o, e)
	}
}

func TestP8_2Unpack(t *testing.T) {
	for n := 1; n < 80; n++ {
		o, e := trits.Unpack(make([]byte, n))
		if n%26 != 0 && (e != api.ErrArg || len(o) != 0) || n%26 == 0 && (e != api.OK || len(o) != n/26*5) {
			t.Errorf("%d noughts: %v, %d", n, o, e)
		}
	}
	good, great, bad := digits(77), digits(1<<40), digits(77)
	bad[25] = 3
	for _, c := range []struct {
		l [][26]byte
		e api.Errno
	}{
		{[][26]byte{good, great}, api.ErrTrits}, {[][26]byte{good, bad}, api.ErrArg}, {[][26]byte{great, bad}, api.ErrTrits},
		{[][26]byte{bad, great}, api.ErrArg}, {[][26]byte{great, good, good}, api.ErrTrits}, {[][26]byte{good, good}, api.OK},
	} {
		var all []byte
		for _, t := range c.l {
			all = append(all, t[:]...)
		}
		if o, e := trits.Unpack(all); e != c.e || (e == api.OK) != (len(o) > 0) {
			t.Errorf("%v: %v, %d", c.l, o, e)
		}
		if o, e := trits.Unpack(append(all, 0)); e != api.ErrArg || len(o) != 0 {
			t.Errorf("one trit more: %v, %d", o, e)
		}
	}
}

func TestP8_2Long(t *testing.T) {
	for n, want := range map[int]int{
		0: 0, 5: 26, 10: 52, 25: 130, 1 << 20: -1, 1<<20 - 1: 209715 * 26, 1<<20 + 4: -1, 1 << 40: -1, 1: -1, 4: -1, 6: -1, -1: -1, -5: -1,
		math.MinInt: -1, math.MaxInt: -1, math.MaxInt - 2: -1,
	} {
		if trits.Long(n) != want {
			t.Errorf("Long(%d): %d, not %d", n, trits.Long(n), want)
		}
	}
}

func TestP8_3Order(t *testing.T) {
	r := rand.New(rand.NewSource(3))
	for range 500 {
		a, b := some(r, 10), some(r, 10)
		if r.Intn(2) == 0 {
			copy(b, a[:r.Intn(10)])
		}
		x, _ := trits.Pack(a)
		y, _ := trits.Pack(b)
		if bytes.Compare(x, y) != bytes.Compare(a, b) {
			t.Fatalf("%v, %v", a, b)
		}
	}
	for range 500 {
		d := make([]byte, 52)
		for i := range d {
			d[i] = byte(r.Intn(3))
		}
		b, e := trits.Unpack(d)
		if e != api.OK {
			continue
		}
		if again, e := trits.Pack(b); e != api.OK || !bytes.Equal(again, d) {
			t.Fatalf("%v, packed again: %v, %d", d, again, e)
		}
	}
}

func TestArgumentsStay(t *testing.T) {
	whole := bytes.Repeat([]byte{1}, 60)
	o, _ := trits.Pack(whole[:10])
	clear(o)
	o, _ = trits.Unpack(whole[:52])
	clear(o)
	if !bytes.Equal(whole, bytes.Repeat([]byte{1}, 60)) {
		t.Error("an argument was changed", whole)
	}
}
