package crc_test

import (
	"bytes"
	"hash/crc32"
	"math/rand"
	"sync"
	"testing"

	"helix/crc"
)

// some are n bytes.
func some(r *rand.Rand, n int) []byte {
	b := make([]byte, n)
	for i := range b {
		b[i] = byte(r.Intn(256))
	}
	return b
}

// step is the step of c by b, as the document tells it.
func step(c uint32, b byte) uint32 {
	c ^= uint32(b)
	for range 8 {
		out := c & 1
		c >>= 1
		if out == 1 {
			c ^= 0xedb88320
		}
	}
	return c
}

// It stands first, so that Next's first call is one of those that come at once.
func TestP7_2NextFromManyAtOnce(t *testing.T) {
	var all sync.WaitGroup
	var sums [16]uint32
	for i := range sums {
		all.Go(func() { sums[i] = crc.Next(0, []byte("123456789")) })
	}
	all.Wait()
	for i, sum := range sums {
		if sum != 0xcbf43926 {
			t.Errorf("call %d: %#x", i, sum)
		}
	}
}

func TestP7_1Step(t *testing.T) {
	r := rand.New(rand.NewSource(1))
	for i := range 20000 {
		c, b := r.Uint32(), byte(i)
		if crc.Step(c, b) != step(c, b) {
			t.Fatalf("Step(%#x, %#x): %#x", c, b, crc.Step(c, b))
		}
	}
	if crc.Step(0, 0) != 0 || crc.Step(0xffffffff, 0) != 0x2dfd1072 || crc.Step(1, 1) != 0 || crc.Step(0x100, 0) != 1 {
		t.Error("edges of Step")
	}
}

func TestP7_1Table(t *testing.T) {
	table := crc.Table()
	for b := range 256 {
		if table[b] != step(0, byte(b)) {
			t.Errorf("row %d: %#x", b, table[b])
		}
	}
	table[7] = 0
	if again := crc.Table(); again[7] != step(0, 7) || crc.Step(0, 7) != step(0, 7) || crc.Next(^uint32(0), []byte{7}) != ^step(0, 7) {
		t.Error("the table was changed from without")
	}
}

func TestP7_2Sum(t *testing.T) {
	for s, want := range map[string]uint32{"": 0, "123456789": 0xcbf43926, "a": 0xe8b7be43, "\x00": 0xd202ef8d, "\xff\xff\xff\xff": 0xffffffff} {
		if o := crc.Sum([]byte(s)); o != want {
			t.Errorf("Sum(%q): %#x", s, o)
		}
	}
	if crc.Sum() != 0 || crc.Sum(nil, nil, []byte{}) != 0 {
		t.Error("Sum of nothing")
	}
	if crc.Sum([]byte("123"), nil, []byte("4"), []byte("56789"), []byte{}) != 0xcbf43926 {
		t.Error("Sum of parts")
	}
	r := rand.New(rand.NewSource(2))
	for n := range 300 {
		b := some(r, n)
		cut := r.Intn(n + 1)
		want := crc32.ChecksumIEEE(b)
		if crc.Sum(b) != want || crc.Sum(b[:cut], b[cut:]) != want {
			t.Fatalf("%d bytes: %#x, not %#x", n, crc.Sum(b), want)
		}
	}
}

func TestP7_2Next(t *testing.T) {
	r := rand.New(rand.NewSource(3))
	for n := range 200 {
		b := some(r, n)
		cut := r.Intn(n + 1)
		if o := crc.Next(crc.Sum(b[:cut]), b[cut:]); o != crc.Sum(b) || o != crc32.ChecksumIEEE(b) {
			t.Fatalf("%d bytes, then %d: %#x", cut, n-cut, o)
		}
	}
	if crc.Next(0, nil) != 0 || crc.Next(77, nil) != 77 || crc.Next(0, []byte("123456789")) != 0xcbf43926 {
		t.Error("edges of Next")
	}
}

func TestP7_2Four(t *testing.T) {
	if crc.Four(0x01020304) != [4]byte{4, 3, 2, 1} || crc.Four(0) != [4]byte{} || crc.Four(0xff000080) != [4]byte{0x80, 0, 0, 0xff} {
		t.Error("Four")
	}
}

func TestP7_3Follows(t *testing.T) {
	r := rand.New(rand.NewSource(4))
	table := crc.Table()
	var one uint32
	for n := range 200 {
		c, b := r.Uint32(), byte(r.Intn(256))
		if crc.Step(c, b) != table[byte(c)^b]^c>>8 {
			t.Fatal("a step by the table")
		}
		x, y, z := some(r, n), some(r, n), some(r, n)
		all := make([]byte, n)
		for i := range all {
			all[i] = x[i] ^ y[i] ^ z[i]
		}
		if crc.Sum(all) != crc.Sum(x)^crc.Sum(y)^crc.Sum(z) {
			t.Fatalf("three rows of %d bytes", n)
		}
		four := crc.Four(crc.Sum(x))
		sum := crc.Sum(x, four[:])
		if n == 0 {
			one = sum
		}
		if sum != one || one != 0x2144df1c {
			t.Fatalf("with the four behind: %#x, %#x", sum, one)
		}
	}
}

func TestArgumentsStay(t *testing.T) {
	whole := []byte("0123456789")
	was := bytes.Clone(whole)
	crc.Sum(whole[:3], whole[5:7])
	crc.Next(5, whole[:4])
	if !bytes.Equal(whole, was) {
		t.Error("an argument was changed")
	}
}
