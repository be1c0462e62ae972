package shape_test

import (
	"math"
	"math/bits"
	"testing"

	"helix/api"
	"helix/shape"
)

func of(payload, data, parity int) api.Shape {
	return api.Shape{Payload: payload, Data: data, Parity: parity}
}

// wrong are shapes that may not be.
var wrong = []api.Shape{
	{}, of(0, 1, 0), of(1, 1, 0), of(3, 1, 0), of(6, 1, 0), of(8, 1, 0), of(27, 1, 0), of(-2, 1, 0), of(-3, 1, 0), of(2, 0, 0), of(2, -1, 0), of(2, 1, -1), of(2, 1, 33),
	of(2, 255, 1), of(2, 256, 0), of(22, 224, 32), of(2, math.MaxInt, 1), of(2, math.MinInt, 1), of(2, 1, math.MaxInt), of(2, math.MaxInt, math.MaxInt), of(2, 1, math.MinInt),
	of(math.MaxInt, 1, 0), of(math.MinInt, 1, 0), of(2, -5, 30),
}

// right are shapes that may be.
var right = []api.Shape{
	of(2, 1, 0), of(2, 2, 1), of(7, 1, 0), of(12, 3, 2), of(17, 255, 0), of(22, 223, 32), of(2, 254, 1), of(22, 1, 32), of(7, 10, 5),
}

func TestP18_1Check(t *testing.T) {
	for _, s := range right {
		if e := shape.Check(s); e != api.OK {
			t.Errorf("%v: %d", s, e)
		}
	}
	for _, s := range wrong {
		if e := shape.Check(s); e != api.ErrGeometry {
			t.Errorf("%v: %d", s, e)
		}
	}
	for payload := -5; payload < 40; payload++ {
		may := payload == 2 || payload == 7 || payload == 12 || payload == 17 || payload == 22
		if (shape.Check(of(payload, 1, 0)) == api.OK) != may {
			t.Errorf("Payload %d", payload)
		}
	}
	for data := -1; data < 260; data++ {
		for parity := -1; parity < 35; parity++ {
			may := data >= 1 && parity >= 0 && parity <= 32 && data+parity <= 255
			if (shape.Check(of(12, data, parity)) == api.OK) != may {
				t.Errorf("Data %d, Parity %d", data, parity)
			}
		}
	}
}

func TestP18_1Sizes(t *testing.T) {
	for _, c := range []struct{ payload, body, index, inner, field, word, strand int }{
		{2, 26, 6, 32, 16, 81, 113}, {7, 52, 6, 58, 18, 113, 145}, {12, 78, 8, 86, 20, 147, 179}, {17, 104, 8, 112, 20, 173, 205}, {22, 130, 8, 138, 20, 199, 231},
	} {
		for _, s := range []api.Shape{of(c.payload, 1, 0), of(c.payload, 20, 5)} {
			if shape.Body(s) != c.body || shape.Index(s) != c.index || shape.Inner(s) != c.inner || shape.Field(s) != c.field || shape.Word(s) != c.word || shape.Strand(s) != c.strand {
				t.Errorf("%v: %d, %d, %d, %d, %d, %d", s, shape.Body(s), shape.Index(s), shape.Inner(s), shape.Field(s), shape.Word(s), shape.Strand(s))
			}
		}
		need := bits.Len(uint(c.inner-1)) + 2 + bits.Len(uint(6*c.inner))
		if c.field != need+need%2 || c.word != c.inner+1+3*c.field || c.strand != c.word+32 {
			t.Errorf("Payload %d: the table", c.payload)
		}
	}
	for _, s := range wrong {
		for i, size := range []func(api.Shape) int{shape.Body, shape.Index, shape.Inner, shape.Field, shape.Word, shape.Strand} {
			if n := size(s); n != -1 {
				t.Errorf("the size %d of %v: %d", i, s, n)
			}
		}
	}
}

func TestP18_2Wrong(t *testing.T) {
	for _, s := range wrong {
		for _, length := range []int{-1, 0, 5, 4000, 4001} {
			if shape.Groups(s, length) != -1 || shape.Pieces(s, length, 0) != -1 || shape.Pieces(s, length, -1) != -1 || shape.Count(s, length) != -1 {
				t.Errorf("%v, %d bytes", s, length)
			}
		}
	}
	for _, s := range right {
		for _, length := range []int{-1, 4001, math.MaxInt, math.MinInt} {
			if shape.Groups(s, length) != -1 || shape.Pieces(s, length, 0) != -1 || shape.Pieces(s, length, -1) != -1 || shape.Count(s, length) != -1 {
				t.Errorf("%v, %d bytes", s, length)
			}
		}
		if shape.Groups(s, 0) != 0 || shape.Count(s, 0) != 0 || shape.Pieces(s, 0, 0) != 0 {
			t.Errorf("%v, an empty file", s)
		}
		groups := shape.Groups(s, 100)
		for _, group := range []int{-1, groups, groups + 1, math.MaxInt, math.MinInt} {
			if n := shape.Pieces(s, 100, group); n != 0 {
				t.Errorf("%v, the group %d: %d", s, group, n)
			}
		}
	}
}

func TestP18_2Examples(t *testing.T) {
	for _, c := range []struct {
		s                     api.Shape
		length, groups, count int
		last                  int
	}{
		{of(2, 2, 1), 3, 1, 3, 2}, {of(2, 2, 1), 1, 1, 2, 1}, {of(2, 2, 1), 4, 1, 3, 2}, {of(2, 2, 1), 5, 2, 5, 1}, {of(2, 1, 0), 4000, 2000, 2000, 1},
		{of(22, 223, 32), 4000, 1, 214, 182}, {of(7, 10, 5), 71, 2, 21, 1}, {of(7, 10, 5), 70, 1, 15, 10}, {of(2, 1, 32), 3999, 2000, 66000, 1},
	} {
		if shape.Groups(c.s, c.length) != c.groups || shape.Count(c.s, c.length) != c.count || shape.Pieces(c.s, c.length, c.groups-1) != c.last {
			t.Errorf("%v, %d bytes: %d, %d, %d", c.s, c.length, shape.Groups(c.s, c.length), shape.Count(c.s, c.length), shape.Pieces(c.s, c.length, c.groups-1))
		}
	}
}

func TestP18_3Follows(t *testing.T) {
	for _, s := range right {
		if shape.Body(s)%2 != 0 || shape.Index(s)%2 != 0 || shape.Field(s)%2 != 0 {
			t.Errorf("%v: odd", s)
		}
		for _, length := range []int{0, 1, 2, 3, 10, 21, 22, 23, 44, 500, 1999, 3999, 4000} {
			groups, left, all := shape.Groups(s, length), (length+s.Payload-1)/s.Payload, 0
			for group := range groups {
				pieces := shape.Pieces(s, length, group)
				if pieces != min(left, s.Data) || pieces < 1 || pieces+s.Parity > 255 {
					t.Errorf("%v, %d bytes, group %d: %d", s, length, group, pieces)
				}
				left -= pieces
				all += pieces + s.Parity
			}
			if left != 0 || shape.Count(s, length) != all {
				t.Errorf("%v, %d bytes: %d left, %d strands, not %d", s, length, left, shape.Count(s, length), all)
			}
		}
	}
}
