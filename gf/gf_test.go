package gf_test

import (
	"math"
	"sync"
	"testing"

	"helix/api"
	"helix/gf"
)

// product is a times b, bit by bit.
func product(a, b byte) byte {
	x := 0
	for k := range 8 {
		if b>>k&1 == 1 {
			x ^= int(a) << k
		}
	}
	for k := 14; k >= 8; k-- {
		if x>>k&1 == 1 {
			x ^= 0x11d << (k - 8)
		}
	}
	return byte(x)
}

// power is a to the power of n, n from 0 on.
func power(a byte, n int) byte {
	x := byte(1)
	for range n {
		x = product(x, a)
	}
	return x
}

// It stands first, so that Div's first call is one of those that come at once.
func TestP3_1DivFromManyAtOnce(t *testing.T) {
	var all sync.WaitGroup
	var wrong [16]int
	for i := range wrong {
		all.Go(func() {
			for a := range 256 {
				b := byte(16*i + 1)
				if q, e := gf.Div(byte(a), b); e != api.OK || product(q, b) != byte(a) {
					wrong[i]++
				}
			}
		})
	}
	all.Wait()
	if wrong != [16]int{} {
		t.Error("wrong answers", wrong)
	}
}

func TestP3_1Mul(t *testing.T) {
	if gf.Mul(2, 0x80) != 0x1d {
		t.Error("2 by 0x80", gf.Mul(2, 0x80))
	}
	for a := range 256 {
		for b := range 256 {
			if got, want := gf.Mul(byte(a), byte(b)), product(byte(a), byte(b)); got != want {
				t.Fatalf("%d by %d: %d, not %d", a, b, got, want)
			}
		}
	}
}

func TestP3_1InvAndDiv(t *testing.T) {
	if x, e := gf.Inv(0); x != 0 || e != api.ErrZero {
		t.Error("Inv of 0", x, e)
	}
	if x, e := gf.Inv(1); x != 1 || e != api.OK {
		t.Error("Inv of 1", x, e)
	}
	for b := range 256 {
		if x, e := gf.Div(byte(b), 0); x != 0 || e != api.ErrZero {
			t.Error(b, "by 0", x, e)
		}
		if b == 0 {
			continue
		}
		x, e := gf.Inv(byte(b))
		if e != api.OK || product(x, byte(b)) != 1 {
			t.Errorf("Inv(%d): %d, %d", b, x, e)
		}
		for a := range 256 {
			q, e := gf.Div(byte(a), byte(b))
			if e != api.OK || product(q, byte(b)) != byte(a) || q != gf.Mul(byte(a), x) {
				t.Fatalf("%d by %d: %d, %d", a, b, q, e)
			}
		}
	}
}

func TestP3_2Exp(t *testing.T) {
	if gf.Exp(0) != 1 || gf.Exp(1) != 2 || gf.Exp(8) != 0x1d || gf.Exp(254) != 0x8e || gf.Exp(255) != 1 || gf.Exp(-1) != 0x8e {
		t.Error("first powers")
	}
	for n := range 600 {
		if gf.Exp(n) != power(2, n) || product(gf.Exp(-n), power(2, n)) != 1 {
			t.Errorf("Exp(%d): %d, Exp(%d): %d", n, gf.Exp(n), -n, gf.Exp(-n))
		}
	}
	for _, n := range []int{math.MaxInt, math.MinInt, math.MaxInt - 254, math.MinInt + 254} {
		want := power(2, (n%255+255)%255)
		if gf.Exp(n) != want {
			t.Errorf("Exp(%d): %d, not %d", n, gf.Exp(n), want)
		}
	}
}

func TestP3_2Log(t *testing.T) {
	if n, e := gf.Log(0); n != 0 || e != api.ErrZero {
		t.Error("Log of 0", n, e)
	}
	if n, e := gf.Log(1); n != 0 || e != api.OK {
		t.Error("Log of 1", n, e)
	}
	for n := range 255 {
		if l, e := gf.Log(power(2, n)); l != n || e != api.OK {
			t.Errorf("Log of power %d: %d, %d", n, l, e)
		}
	}
}

func TestP3_2Pow(t *testing.T) {
	for a := range 256 {
		if gf.Pow(byte(a), 0) != 1 || gf.Pow(byte(a), 1) != byte(a) {
			t.Errorf("first powers of %d", a)
		}
		for _, n := range []int{2, 3, 7, 16, 254, 255, 256, 300, 511} {
			want := power(byte(a), n)
			if gf.Pow(byte(a), n) != want {
				t.Errorf("Pow(%d, %d): %d, not %d", a, n, gf.Pow(byte(a), n), want)
			}
			if a > 0 && product(gf.Pow(byte(a), -n), want) != 1 {
				t.Errorf("Pow(%d, %d): %d", a, -n, gf.Pow(byte(a), -n))
			}
		}
		for _, n := range []int{math.MaxInt, math.MaxInt - 1, math.MinInt, math.MinInt + 1, -1} {
			want := power(byte(a), (n%255+255)%255)
			if a == 0 {
				want = 0
			}
			if gf.Pow(byte(a), n) != want {
				t.Errorf("Pow(%d, %d): %d, not %d", a, n, gf.Pow(byte(a), n), want)
			}
		}
	}
}

func TestP3_3Laws(t *testing.T) {
	seen := map[byte]bool{}
	for n := range 255 {
		x := gf.Exp(n)
		if x == 0 || seen[x] {
			t.Errorf("the power %d comes again: %d", n, x)
		}
		seen[x] = true
	}
	for a := range 256 {
		for b := 0; b < 256; b += 5 {
			for c := 0; c < 256; c += 7 {
				a, b, c := byte(a), byte(b), byte(c)
				if gf.Mul(a, b) != gf.Mul(b, a) || gf.Mul(a, gf.Mul(b, c)) != gf.Mul(gf.Mul(a, b), c) || gf.Mul(a, b^c) != gf.Mul(a, b)^gf.Mul(a, c) {
					t.Fatal("laws", a, b, c)
				}
			}
		}
		if gf.Mul(byte(a), 1) != byte(a) || gf.Mul(byte(a), 0) != 0 {
			t.Error("one and nought", a)
		}
	}
}
