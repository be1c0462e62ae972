package poly_test

import (
	"bytes"
	"math"
	"math/rand"
	"testing"

	"helix/api"
	"helix/gf"
	"helix/poly"
)

// some are n factors, a third of them noughts.
func some(r *rand.Rand, n int) []byte {
	p := make([]byte, n)
	for i := range p {
		if r.Intn(3) > 0 {
			p[i] = byte(r.Intn(256))
		}
	}
	return p
}

// trimmed tells whether p has no nought at its end.
func trimmed(p []byte) bool {
	return len(p) == 0 || p[len(p)-1] != 0
}

func TestP4_1Trim(t *testing.T) {
	for _, c := range []struct{ p, want []byte }{
		{nil, nil}, {[]byte{0}, nil}, {[]byte{0, 0, 0}, nil}, {[]byte{5}, []byte{5}}, {[]byte{0, 1}, []byte{0, 1}},
		{[]byte{1, 0, 2, 0, 0}, []byte{1, 0, 2}}, {[]byte{1, 0}, []byte{1}},
	} {
		if o := poly.Trim(c.p); !bytes.Equal(o, c.want) {
			t.Errorf("Trim(%v): %v", c.p, o)
		}
	}
}

func TestP4_1Add(t *testing.T) {
	for _, c := range []struct{ p, q, want []byte }{
		{nil, nil, nil}, {[]byte{1}, nil, []byte{1}}, {nil, []byte{0, 3, 0}, []byte{0, 3}}, {[]byte{1, 2}, []byte{4}, []byte{5, 2}},
		{[]byte{1}, []byte{1, 7}, []byte{0, 7}}, {[]byte{1, 2, 3}, []byte{5, 2, 3}, []byte{4}}, {[]byte{9, 9}, []byte{9, 9}, nil},
	} {
		if o := poly.Add(c.p, c.q); !bytes.Equal(o, c.want) {
			t.Errorf("Add(%v, %v): %v", c.p, c.q, o)
		}
	}
}

func TestP4_1Mul(t *testing.T) {
	for _, c := range []struct{ p, q, want []byte }{
		{nil, nil, nil}, {[]byte{1, 2}, nil, nil}, {[]byte{0, 0}, []byte{1, 2}, nil}, {[]byte{1}, []byte{7, 8}, []byte{7, 8}},
		{[]byte{1, 1}, []byte{1, 1}, []byte{1, 0, 1}}, {[]byte{1, 1}, []byte{2, 1}, []byte{2, 3, 1}}, {[]byte{0, 1, 0}, []byte{5, 6, 0}, []byte{0, 5, 6}},
		{[]byte{2}, []byte{0x80}, []byte{0x1d}},
	} {
		if o := poly.Mul(c.p, c.q); !bytes.Equal(o, c.want) {
			t.Errorf("Mul(%v, %v): %v", c.p, c.q, o)
		}
	}
}

func TestP4_1ScaleAndShift(t *testing.T) {
	if o := poly.Scale([]byte{1, 0, 0x80, 0}, 2); !bytes.Equal(o, []byte{2, 0, 0x1d}) {
		t.Error("Scale", o)
	}
	if o := poly.Scale([]byte{1, 2}, 0); len(o) != 0 {
		t.Error("Scale by 0", o)
	}
	if o := poly.Scale(nil, 3); len(o) != 0 {
		t.Error("Scale of 0", o)
	}
	for _, c := range []struct{ n, zeros int }{{0, 0}, {-1, 0}, {math.MinInt, 0}, {1, 1}, {2, 2}, {999, 999}, {1000, 1000}, {1001, 1000}, {math.MaxInt, 1000}} {
		want := append(make([]byte, c.zeros), 7, 0, 9)
		if o := poly.Shift([]byte{7, 0, 9, 0}, c.n); !bytes.Equal(o, want) {
			t.Errorf("Shift by %d: %d factors", c.n, len(o))
		}
		if o := poly.Shift([]byte{0, 0}, c.n); len(o) != 0 {
			t.Errorf("Shift of 0 by %d: %v", c.n, o)
		}
	}
}

func TestP4_2EvalAndDeriv(t *testing.T) {
	for _, c := range []struct {
		p       []byte
		x, want byte
	}{{nil, 5, 0}, {[]byte{7}, 0, 7}, {[]byte{7}, 9, 7}, {[]byte{7, 1}, 9, 14}, {[]byte{0, 2}, 0x80, 0x1d}, {[]byte{2, 3, 1}, 1, 0}, {[]byte{2, 3, 1}, 2, 0}, {[]byte{2, 3, 1, 0, 0}, 0, 2}, {[]byte{0, 0, 1}, 4, 16}} {
		if o := poly.Eval(c.p, c.x); o != c.want {
			t.Errorf("Eval(%v, %d): %d", c.p, c.x, o)
		}
	}
	for _, c := range []struct{ p, want []byte }{
		{nil, nil}, {[]byte{5}, nil}, {[]byte{5, 6}, []byte{6}}, {[]byte{5, 6, 7}, []byte{6}}, {[]byte{5, 6, 7, 8}, []byte{6, 0, 8}},
		{[]byte{5, 0, 7}, nil}, {[]byte{0, 0, 0, 8, 9, 1, 0}, []byte{0, 0, 8, 0, 1}},
	} {
		if o := poly.Deriv(c.p); !bytes.Equal(o, c.want) {
			t.Errorf("Deriv(%v): %v", c.p, o)
		}
	}
}

func TestP4_3Divide(t *testing.T) {
	for _, c := range []struct{ p, q, quotient, rest []byte }{
		{nil, []byte{1}, nil, nil},
		{nil, []byte{3, 5, 0}, nil, nil},
		{[]byte{4, 6}, []byte{2, 0}, []byte{2, 3}, nil},
		{[]byte{4, 6}, []byte{1, 1, 1}, nil, []byte{4, 6}},
		{[]byte{2, 3, 1}, []byte{1, 1}, []byte{2, 1}, nil},
		{[]byte{2, 3, 1, 0}, []byte{0, 1}, []byte{3, 1}, []byte{2}},
		{[]byte{0, 0, 0, 1}, []byte{1, 0, 1}, []byte{0, 1}, []byte{0, 1}},
	} {
		quotient, rest, e := poly.Divide(c.p, c.q)
		if e != api.OK || !bytes.Equal(quotient, c.quotient) || !bytes.Equal(rest, c.rest) {
			t.Errorf("Divide(%v, %v): %v, %v, %d", c.p, c.q, quotient, rest, e)
		}
	}
	for _, q := range [][]byte{nil, {}, {0}, {0, 0, 0}} {
		for _, p := range [][]byte{nil, {0}, {1, 2, 3}} {
			if quotient, rest, e := poly.Divide(p, q); e != api.ErrZero || len(quotient) != 0 || len(rest) != 0 {
				t.Errorf("Divide(%v, %v): %v, %v, %d", p, q, quotient, rest, e)
			}
		}
	}
}

func TestP4_3DivideLong(t *testing.T) {
	r := rand.New(rand.NewSource(1))
	for _, n := range []int{1000, 1001} {
		p, q := some(r, n), append(some(r, 30), 9)
		p[n-1] = 3
		quotient, rest, e := poly.Divide(p, q)
		if e != api.OK || len(quotient) != n-30 || len(rest) > 30 || !bytes.Equal(poly.Add(poly.Mul(quotient, q), rest), p) {
			t.Errorf("of %d factors: %d, %d, %d", n, len(quotient), len(rest), e)
		}
	}
}

func TestP4_3Roots(t *testing.T) {
	for _, c := range []struct{ l, want []byte }{
		{nil, []byte{1}}, {[]byte{5}, []byte{5, 1}}, {[]byte{0}, []byte{0, 1}}, {[]byte{1, 2}, []byte{2, 3, 1}},
		{[]byte{2, 1}, []byte{2, 3, 1}}, {[]byte{3, 3}, []byte{5, 0, 1}}, {[]byte{0, 0, 1}, []byte{0, 0, 1, 1}},
	} {
		if o := poly.Roots(c.l...); !bytes.Equal(o, c.want) {
			t.Errorf("Roots(%v): %v", c.l, o)
		}
	}
	roots := map[byte]bool{3: true, 77: true, 200: true, 0: true}
	p := poly.Roots(3, 77, 200, 0, 77)
	for x := range 256 {
		if (poly.Eval(p, byte(x)) == 0) != roots[byte(x)] {
			t.Errorf("at %d: %d", x, poly.Eval(p, byte(x)))
		}
	}
}

func TestP4_4Values(t *testing.T) {
	r := rand.New(rand.NewSource(2))
	for range 500 {
		p, q, x := some(r, r.Intn(12)), some(r, r.Intn(12)), byte(r.Intn(256))
		sum, product := poly.Add(p, q), poly.Mul(p, q)
		if poly.Eval(sum, x) != poly.Eval(p, x)^poly.Eval(q, x) || poly.Eval(product, x) != gf.Mul(poly.Eval(p, x), poly.Eval(q, x)) {
			t.Fatalf("values of %v, %v at %d", p, q, x)
		}
		if !trimmed(sum) || !trimmed(product) || !trimmed(poly.Deriv(p)) || !trimmed(poly.Scale(p, x)) || !trimmed(poly.Shift(p, 3)) {
			t.Fatalf("not trimmed: of %v, %v", p, q)
		}
		if poly.Eval(poly.Scale(p, x), 7) != gf.Mul(poly.Eval(p, 7), x) || poly.Eval(poly.Shift(p, 3), x) != gf.Mul(poly.Eval(p, x), gf.Pow(x, 3)) {
			t.Fatalf("scaled, shifted: %v by %d", p, x)
		}
		both := poly.Add(poly.Mul(poly.Deriv(p), q), poly.Mul(p, poly.Deriv(q)))
		if !bytes.Equal(poly.Deriv(product), both) {
			t.Fatalf("derivative of %v times %v", p, q)
		}
		quotient, rest, e := poly.Divide(p, q)
		if len(poly.Trim(q)) == 0 {
			if e != api.ErrZero {
				t.Fatal("by nought", e)
			}
			continue
		}
		if e != api.OK || !trimmed(quotient) || !trimmed(rest) || len(rest) >= len(poly.Trim(q)) {
			t.Fatalf("Divide(%v, %v): %v, %v, %d", p, q, quotient, rest, e)
		}
		if !bytes.Equal(poly.Add(poly.Mul(quotient, q), rest), poly.Trim(p)) {
			t.Fatalf("%v is not %v times %v, and %v", p, quotient, q, rest)
		}
	}
}

func TestP4_4Roots(t *testing.T) {
	r := rand.New(rand.NewSource(3))
	for range 50 {
		l := some(r, r.Intn(20))
		p := poly.Roots(l...)
		if len(p) != len(l)+1 {
			t.Fatalf("Roots(%v): %v", l, p)
		}
		for x := range 256 {
			if (poly.Eval(p, byte(x)) == 0) != bytes.Contains(l, []byte{byte(x)}) {
				t.Fatalf("Roots(%v) at %d", l, x)
			}
		}
	}
}

func TestOwnMemory(t *testing.T) {
	whole := []byte{1, 2, 3, 0, 5, 6, 7, 8}
	was := bytes.Clone(whole)
	p, q := whole[:4], whole[4:6]
	quotient, rest, _ := poly.Divide(p, q)
	short, same, _ := poly.Divide(q, p)
	for _, o := range [][]byte{poly.Trim(p), poly.Add(p, q), poly.Add(p, nil), poly.Add(nil, p), poly.Mul(p, q), poly.Mul(p, []byte{1}), poly.Scale(p, 1), poly.Shift(p, 0), poly.Deriv(p), poly.Roots(p...), quotient, rest, short, same} {
		o = append(o, 1, 2, 3)
		for i := range o {
			o[i] = 0xee
		}
	}
	if !bytes.Equal(whole, was) {
		t.Error("an argument was changed", whole)
	}
}
