package figures_test

import (
	"math"
	"math/big"
	"math/rand"
	"slices"
	"strconv"
	"strings"
	"testing"

	"helix/api"
	"helix/figures"
)

var (
	nan  = math.NaN()
	inf  = math.Inf(1)
	zero = 0.0
	nega = math.Copysign(0, -1)
	tiny = math.SmallestNonzeroFloat64
	huge = math.MaxFloat64
)

// same tells whether a and b are alike.
func same(a, b float64) bool {
	return a != a && b != b || math.Float64bits(a) == math.Float64bits(b)
}

// inOrder are numbers each of which is ahead of the next one.
func inOrder() []float64 {
	return []float64{-inf, -huge, -2, -1, -tiny, nega, zero, tiny, 0.1, 1, 2, huge, inf}
}

func TestP24_1AlikeAndAhead(t *testing.T) {
	l := append(inOrder(), nan)
	for i, a := range l {
		for k, b := range l {
			if figures.Alike(a, b) != (i == k) {
				t.Errorf("Alike(%v, %v)", a, b)
			}
			if figures.Ahead(a, b) != (i < k) {
				t.Errorf("Ahead(%v, %v)", a, b)
			}
		}
	}
	other := math.Float64frombits(0xfff8000000000123)
	if !figures.Alike(nan, other) || figures.Ahead(nan, other) || figures.Ahead(other, nan) || !figures.Ahead(1, other) || figures.Ahead(other, -inf) {
		t.Error("NaN of other bits")
	}
}

func TestP24_1Sort(t *testing.T) {
	r := rand.New(rand.NewSource(1))
	want := append(inOrder(), nan)
	for range 50 {
		l := slices.Clone(want)
		r.Shuffle(len(l), func(i, k int) { l[i], l[k] = l[k], l[i] })
		was := slices.Clone(l)
		o := figures.Sort(l)
		if !slices.EqualFunc(o, want, same) {
			t.Fatalf("Sort(%v): %v", l, o)
		}
		clear(append(o, 5))
		clear(o)
		if !slices.EqualFunc(l, was, same) {
			t.Fatal("an argument was changed")
		}
	}
	if o := figures.Sort([]float64{nan, zero, nega, zero, nan, nega, 1, 1}); !slices.EqualFunc(o, []float64{nega, nega, zero, zero, 1, 1, nan, nan}, same) {
		t.Error("with some twice", o)
	}
	if len(figures.Sort(nil)) != 0 {
		t.Error("Sort of nothing")
	}
}

func TestP24_1Text(t *testing.T) {
	for _, c := range []struct {
		x    float64
		want string
	}{
		{nan, "NaN"}, {math.Float64frombits(0xfff8000000000123), "NaN"}, {inf, "+Inf"}, {-inf, "-Inf"}, {zero, "0"}, {nega, "-0"}, {1, "1"}, {-1.5, "-1.5"}, {0.1, "0.1"}, {1.0 / 3, "0.3333333333333333"},
		{100000, "100000"}, {1e6, "1e+06"}, {1234567, "1.234567e+06"}, {1e21, "1e+21"}, {1e-4, "0.0001"}, {1e-5, "1e-05"}, {tiny, "5e-324"}, {huge, "1.7976931348623157e+308"}, {1e100, "1e+100"},
	} {
		if s := figures.Text(c.x); s != c.want {
			t.Errorf("Text(%v): %s", c.x, s)
		}
		if x, e := figures.Parse(c.want); e != api.OK || !figures.Alike(x, c.x) {
			t.Errorf("Parse(%s): %v, %d", c.want, x, e)
		}
	}
}

func TestP24_1Parse(t *testing.T) {
	for _, s := range []string{
		"", " ", "x", "nan", "NAN", "+NaN", "-NaN", "Inf", "inf", "+inf", "+Infinity", "-infinity", "+0", "00", "0.0", "-0.0", "+1", "01", "1.", ".5", "1.0", "1e6", "1E+06", "1e+6", "1e+006", "1000000",
		"0.10", "0x1p-2", "0X10", "1_000", "1e400", "-1e400", "1e-400", "0.33333333333333333", "0.3333333333333333148", " 1", "1 ", "1\n", "--1", "1e", "0e0", "1,5", "1e-4", "0.00001", "12345678", "\x00",
		strings.Repeat("9", 400), "0." + strings.Repeat("0", 400) + "1", "4.9e-324", "1.7976931348623158e+308",
	} {
		if x, e := figures.Parse(s); e != api.ErrArg || !same(x, 0) {
			t.Errorf("Parse(%.20q): %v, %d", s, x, e)
		}
	}
}

func TestP24_2Share(t *testing.T) {
	for _, c := range []struct {
		a, b int
		want float64
	}{
		{0, 0, nan}, {1, 0, inf}, {-1, 0, -inf}, {0, 5, zero}, {0, -5, nega}, {1, 2, 0.5}, {-1, 3, -1.0 / 3}, {1, 3, 1.0 / 3}, {7, -7, -1}, {math.MinInt, math.MinInt, 1}, {math.MaxInt, 1, 9223372036854775807},
		{math.MinInt, 0, -inf}, {1<<53 + 1, 1, 1 << 53}, {1<<53 + 1, 1<<53 + 1, 1},
	} {
		if x := figures.Share(c.a, c.b); !same(x, c.want) {
			t.Errorf("Share(%d, %d): %v", c.a, c.b, x)
		}
	}
}

func TestP24_2Sums(t *testing.T) {
	for _, c := range []struct {
		l                 []float64
		sum, mean, spread float64
	}{
		{nil, zero, nan, nan}, {[]float64{nega}, zero, zero, zero}, {[]float64{nega, nega}, zero, zero, zero}, {[]float64{3}, 3, 3, zero}, {[]float64{1, 2, 3, 4}, 10, 2.5, 1.25},
		{[]float64{inf, 1}, inf, inf, nan}, {[]float64{inf, -inf}, nan, nan, nan}, {[]float64{-inf}, -inf, -inf, nan}, {[]float64{tiny, tiny}, 2 * tiny, tiny, zero},
		{[]float64{nan, 1}, nan, nan, nan}, {[]float64{huge, huge}, inf, inf, inf}, {[]float64{huge, -huge}, zero, zero, inf}, {[]float64{-1, 1}, zero, zero, 1},
	} {
		was := slices.Clone(c.l)
		if x := figures.Sum(c.l...); !same(x, c.sum) {
			t.Errorf("Sum(%v): %v", c.l, x)
		}
		if x := figures.Mean(c.l...); !same(x, c.mean) {
			t.Errorf("Mean(%v): %v", c.l, x)
		}
		if x := figures.Spread(c.l...); !same(x, c.spread) {
			t.Errorf("Spread(%v): %v", c.l, x)
		}
		if !slices.EqualFunc(c.l, was, same) {
			t.Error("an argument was changed", c.l)
		}
	}
	r := rand.New(rand.NewSource(2))
	for range 500 {
		l := make([]float64, 1+r.Intn(12))
		for i := range l {
			l[i] = r.NormFloat64() * math.Pow(2, float64(r.Intn(40)))
		}
		sum := plus(l, func(x float64) float64 { return x })
		mean := sum / float64(len(l))
		spread := plus(l, func(x float64) float64 { return times(minus(x, mean)) }) / float64(len(l))
		if !same(figures.Sum(l...), sum) || !same(figures.Mean(l...), mean) || !same(figures.Spread(l...), spread) {
			t.Fatalf("%v: %v, %v, %v, not %v, %v, %v", l, figures.Sum(l...), figures.Mean(l...), figures.Spread(l...), sum, mean, spread)
		}
	}
	if x := figures.Sum(1e16, 1, -1e16); !same(x, 0) {
		t.Error("summed in order", x)
	}
	if x := figures.Sum(1e16, -1e16, 1); !same(x, 1) {
		t.Error("summed in order", x)
	}
}

// The sums by exact numbers, each rounded by itself.

func exact(x float64) *big.Float { return new(big.Float).SetPrec(3000).SetFloat64(x) }

func rounded(x *big.Float) float64 {
	f, _ := x.Float64()
	return f
}

func minus(a, b float64) float64 {
	return rounded(new(big.Float).SetPrec(3000).Sub(exact(a), exact(b)))
}

func times(a float64) float64 { return rounded(new(big.Float).SetPrec(3000).Mul(exact(a), exact(a))) }

func plus(l []float64, term func(float64) float64) float64 {
	sum := 0.0
	for _, x := range l {
		sum = rounded(new(big.Float).SetPrec(3000).Add(exact(sum), exact(term(x))))
	}
	return sum
}

func TestP24_3Ends(t *testing.T) {
	for _, c := range []struct {
		l                       []float64
		least, greatest, middle float64
	}{
		{nil, inf, -inf, nan}, {[]float64{3}, 3, 3, 3}, {[]float64{zero, nega}, nega, zero, zero}, {[]float64{nega, zero}, nega, zero, zero}, {[]float64{nega, nega}, nega, nega, nega},
		{[]float64{nega}, nega, nega, nega}, {[]float64{zero, nega, nega}, nega, zero, nega}, {[]float64{nan}, nan, nan, nan}, {[]float64{1, nan}, nan, nan, nan}, {[]float64{nan, 1, 2}, nan, nan, nan},
		{[]float64{-inf, nan}, nan, nan, nan}, {[]float64{3, 1, 2}, 1, 3, 2}, {[]float64{4, 1, 3, 2}, 1, 4, 2.5}, {[]float64{inf}, inf, inf, inf}, {[]float64{-inf}, -inf, -inf, -inf}, {[]float64{inf, -inf}, -inf, inf, nan},
		{[]float64{inf, inf}, inf, inf, inf}, {[]float64{huge, huge}, huge, huge, inf}, {[]float64{tiny, tiny, tiny, tiny}, tiny, tiny, tiny}, {[]float64{tiny, zero}, zero, tiny, zero}, {[]float64{5, 5, 1}, 1, 5, 5}, {[]float64{5, 1, 4, 2, 3}, 1, 5, 3}, {[]float64{9, 1, 8, 2, 7, 3}, 1, 9, 5}, {[]float64{7, -1, 6, 0, 5, 1, 4}, -1, 7, 4},
		{[]float64{-1, -3, inf, -2}, -3, inf, -1.5},
	} {
		was := slices.Clone(c.l)
		if x := figures.Least(c.l...); !same(x, c.least) {
			t.Errorf("Least(%v): %v", c.l, x)
		}
		if x := figures.Greatest(c.l...); !same(x, c.greatest) {
			t.Errorf("Greatest(%v): %v", c.l, x)
		}
		if x := figures.Middle(c.l...); !same(x, c.middle) {
			t.Errorf("Middle(%v): %v", c.l, x)
		}
		if !slices.EqualFunc(c.l, was, same) {
			t.Error("an argument was changed", c.l)
		}
	}
}

func TestP24_4Bins(t *testing.T) {
	for _, c := range []struct {
		l, edges []float64
		want     []int
		e        api.Errno
	}{
		{nil, nil, []int{0}, api.OK}, {[]float64{1, nan, -inf}, nil, []int{2}, api.OK}, {[]float64{1, 2, 3}, []float64{2}, []int{1, 2}, api.OK}, {[]float64{nega, zero, nan}, []float64{zero}, []int{1, 1}, api.OK},
		{[]float64{nega, zero, -tiny, tiny}, []float64{nega, zero}, []int{1, 1, 2}, api.OK}, {[]float64{-inf, inf, 0}, []float64{-inf, inf}, []int{0, 2, 1}, api.OK}, {nil, []float64{1, 2, 3}, []int{0, 0, 0, 0}, api.OK},
		{[]float64{5, 1, 2, 2, 9, 0}, []float64{1, 2, 5}, []int{1, 1, 2, 2}, api.OK}, {[]float64{nan, nan}, []float64{1}, []int{0, 0}, api.OK},
		{[]float64{1}, []float64{nan}, nil, api.ErrArg}, {nil, []float64{1, nan}, nil, api.ErrArg}, {nil, []float64{1, 1}, nil, api.ErrArg}, {nil, []float64{2, 1}, nil, api.ErrArg}, {nil, []float64{zero, nega}, nil, api.ErrArg},
		{[]float64{1}, []float64{1, 2, 2}, nil, api.ErrArg}, {nil, []float64{nan, 1}, nil, api.ErrArg}, {nil, []float64{zero, zero}, nil, api.ErrArg}, {nil, []float64{inf, inf}, nil, api.ErrArg},
	} {
		l, edges := slices.Clone(c.l), slices.Clone(c.edges)
		o, e := figures.Bins(c.l, c.edges)
		if e != c.e || !slices.Equal(o, c.want) {
			t.Errorf("Bins(%v, %v): %v, %d", c.l, c.edges, o, e)
		}
		if !slices.EqualFunc(c.l, l, same) || !slices.EqualFunc(c.edges, edges, same) {
			t.Error("an argument was changed")
		}
	}
	r := rand.New(rand.NewSource(3))
	for range 200 {
		var l, edges []float64
		for range r.Intn(30) {
			l = append(l, float64(r.Intn(9)-4))
		}
		for x := -5.0; x < 5; x++ {
			if r.Intn(2) == 0 {
				edges = append(edges, x)
			}
		}
		want := make([]int, len(edges)+1)
		for _, x := range l {
			at := 0
			for at < len(edges) && x >= edges[at] {
				at++
			}
			want[at]++
		}
		if o, e := figures.Bins(l, edges); e != api.OK || !slices.Equal(o, want) {
			t.Fatalf("Bins(%v, %v): %v, %d, not %v", l, edges, o, e, want)
		}
	}
}

func TestP24_5Follows(t *testing.T) {
	r := rand.New(rand.NewSource(4))
	some := func() float64 {
		l := append(inOrder(), nan)
		if r.Intn(2) == 0 {
			return l[r.Intn(len(l))]
		}
		return math.Float64frombits(r.Uint64())
	}
	for range 3000 {
		a, b, c := some(), some(), some()
		if figures.Ahead(a, a) || figures.Ahead(a, b) && figures.Ahead(b, a) || figures.Ahead(a, b) && figures.Ahead(b, c) && !figures.Ahead(a, c) {
			t.Fatal("no order:", a, b, c)
		}
		if !figures.Alike(a, b) && !figures.Ahead(a, b) && !figures.Ahead(b, a) {
			t.Fatal("not alike, and none ahead:", a, b)
		}
		if x, e := figures.Parse(figures.Text(a)); e != api.OK || !figures.Alike(x, a) || figures.Text(a) != strconv.FormatFloat(a, 'g', -1, 64) {
			t.Fatal("not parsed as it is:", a, x, e)
		}
		if a == a && b == b && c == c && figures.Ahead(figures.Least(a, b), figures.Least(a, b, c)) {
			t.Fatal("one more makes the least greater:", a, b, c)
		}
	}
}
