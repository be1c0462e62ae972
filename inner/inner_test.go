package inner_test

import (
	"bytes"
	"math"
	"math/rand"
	"strings"
	"testing"

	"helix/api"
	"helix/edit"
	"helix/inner"
	"helix/word"
)

// row is n letters of the first many of ACGT.
func row(r *rand.Rand, n, many int) []byte {
	s := make([]byte, n)
	for i := range s {
		s[i] = "ACGT"[r.Intn(many)]
	}
	return s
}

// made is the word of x.
func made(t *testing.T, x []byte) []byte {
	t.Helper()
	w, e := word.Make(x)
	if e != api.OK {
		t.Fatal(string(x), e)
	}
	return w
}

func TestP17_1AsItIs(t *testing.T) {
	r := rand.New(rand.NewSource(1))
	for _, n := range []int{2, 3, 32, 58, 100, 799, 800} {
		x := row(r, n, 4)
		w := made(t, x)
		o, e := inner.Decode(w, n)
		one, e2 := inner.Edit(w, n)
		kind, e3 := inner.Kind(w, n)
		if e != api.OK || e2 != api.OK || e3 != api.OK || !bytes.Equal(o, x) || one != (api.Edit{}) || kind != api.EditNone {
			t.Errorf("a word of %d letters: %s, %v, %d, %d, %d, %d", n, o, one, kind, e, e2, e3)
		}
	}
}

func TestP17_1Wrong(t *testing.T) {
	w := made(t, []byte("ACGT"))
	for _, n := range []int{1, 0, -1, 801, 1000, math.MaxInt, math.MinInt} {
		for _, y := range [][]byte{nil, w, []byte("N"), bytes.Repeat([]byte("A"), 3000)} {
			o, e := inner.Decode(y, n)
			one, e2 := inner.Edit(y, n)
			kind, e3 := inner.Kind(y, n)
			if e != api.ErrArg || e2 != api.ErrArg || e3 != api.ErrArg || len(o) != 0 || one != (api.Edit{}) || kind != 0 {
				t.Errorf("n %d: %s, %v, %d, %d, %d, %d", n, o, one, kind, e, e2, e3)
			}
		}
	}
	for _, n := range []int{2, 3, 4, 5, 800} {
		for _, y := range []string{"", "A", "AC", "N", strings.Repeat("A", 879), strings.Repeat("AC", 1000), strings.Repeat("ACGT", 8), strings.Repeat("N", 27), string(w[2:]), "AC" + string(w), string(w[:len(w)-2])} {
			o, e := inner.Decode([]byte(y), n)
			one, e2 := inner.Edit([]byte(y), n)
			kind, e3 := inner.Kind([]byte(y), n)
			if e != api.ErrNone || e2 != api.ErrNone || e3 != api.ErrNone || len(o) != 0 || one != (api.Edit{}) || kind != 0 {
				t.Errorf("%.40s, n %d: %s, %v, %d, %d, %d, %d", y, n, o, one, kind, e, e2, e3)
			}
		}
	}
}

// TestP17_3EachEdit: whatever the edit, its word is mended, and the edit is the first one that tells the row.
func TestP17_3EachEdit(t *testing.T) {
	r := rand.New(rand.NewSource(2))
	for i := range 24 {
		n := 2 + i
		x := row(r, n, 1+i%4)
		w := made(t, x)
		first := map[string]api.Edit{}
		for _, one := range edit.Edits(w) {
			y := edit.Apply(w, one)
			if _, ok := first[string(y)]; !ok {
				first[string(y)] = one
			}
		}
		for y, one := range first {
			whole := []byte(y + "spare")
			o, e := inner.Decode(whole[:len(y)], n)
			if e != api.OK || !bytes.Equal(o, x) {
				t.Fatalf("%s with %v: %s, %d", w, one, o, e)
			}
			clear(append(o, "more"...))
			clear(o)
			if string(whole) != y+"spare" {
				t.Fatal("an argument was changed")
			}
			told, e := inner.Edit([]byte(y), n)
			kind, e2 := inner.Kind([]byte(y), n)
			if e != api.OK || e2 != api.OK || told != one || kind != one.Kind {
				t.Fatalf("%s with %v: %v, %d, %d, %d", w, one, told, kind, e, e2)
			}
		}
	}
}

func TestP17_1OtherBytes(t *testing.T) {
	r := rand.New(rand.NewSource(3))
	for i := range 20 {
		n := 2 + i*2
		x := row(r, n, 4)
		w := made(t, x)
		for at := range len(w) + 1 {
			for _, one := range []api.Edit{{Kind: api.EditMore, At: at, By: 'N'}, {Kind: api.EditSwap, At: at, By: 0}} {
				y := edit.Apply(w, one)
				o, e := inner.Decode(y, n)
				if e != api.OK || !bytes.Equal(o, x) {
					t.Fatalf("%s with %v: %s, %d", w, one, o, e)
				}
				told, e := inner.Edit(y, n)
				kind, e2 := inner.Kind(y, n)
				if e != api.ErrNone || e2 != api.ErrNone || told != (api.Edit{}) || kind != 0 {
					t.Fatalf("the edit of %q: %v, %d, %d, %d", y, told, kind, e, e2)
				}
			}
		}
		y := edit.Apply(edit.Apply(w, api.Edit{Kind: api.EditSwap, At: 1, By: 'N'}), api.Edit{Kind: api.EditSwap, At: len(w) - 1, By: 'N'})
		if o, e := inner.Decode(y, n); e != api.ErrNone || len(o) != 0 {
			t.Fatalf("with two other bytes: %s, %d", o, e)
		}
		y = edit.Apply(edit.Apply(w, api.Edit{Kind: api.EditSwap, At: 1, By: 'N'}), api.Edit{Kind: api.EditGap, At: len(w) - 1})
		if o, e := inner.Decode(y, n); e != api.ErrNone || len(o) != 0 {
			t.Fatalf("with another byte, and one left out: %s, %d", o, e)
		}
	}
}

// TestP17_1TwoEdits: with two edits the word of its letters is told just if the row is near some word.
func TestP17_1TwoEdits(t *testing.T) {
	r := rand.New(rand.NewSource(4))
	for range 3000 {
		n := 2 + r.Intn(5)
		x := row(r, n, 4)
		w := made(t, x)
		one := edit.Edits(w)
		y := edit.Apply(w, one[r.Intn(len(one))])
		two := edit.Edits(y)
		y = edit.Apply(y, two[r.Intn(len(two))])
		o, e := inner.Decode(y, n)
		switch {
		case edit.Near(w, y) && (e != api.OK || !bytes.Equal(o, x)):
			t.Fatalf("%s is near the word of %s: %s, %d", y, x, o, e)
		case e == api.OK && !edit.Near(made(t, o), y):
			t.Fatalf("%s is not near the word of %s", y, o)
		case e != api.OK && (e != api.ErrNone || len(o) != 0):
			t.Fatalf("%s: %s, %d", y, o, e)
		}
	}
}

// TestP17_1All holds Decode against all words of three letters.
func TestP17_1All(t *testing.T) {
	var words [][]byte
	for i := range 64 {
		words = append(words, made(t, []byte{"ACGT"[i/16], "ACGT"[i/4%4], "ACGT"[i%4]}))
	}
	r := rand.New(rand.NewSource(5))
	for range 2000 {
		a, b := words[r.Intn(64)], words[r.Intn(64)]
		cut := r.Intn(8)
		y := append(bytes.Clone(a[:cut]), b[cut:]...)
		if r.Intn(2) == 0 {
			l := edit.Edits(y)
			y = edit.Apply(y, l[r.Intn(len(l))])
		}
		var want []byte
		for _, w := range words {
			if edit.Near(w, y) {
				want = w[:3]
			}
		}
		o, e := inner.Decode(y, 3)
		if want == nil && (e != api.ErrNone || len(o) != 0) || want != nil && (e != api.OK || !bytes.Equal(o, want)) {
			t.Fatalf("%s: %s, %d, not %s", y, o, e, want)
		}
	}
}

func TestP17_3Apart(t *testing.T) {
	r := rand.New(rand.NewSource(6))
	for range 200 {
		n := 2 + r.Intn(60)
		x := row(r, n, 4)
		other := bytes.Clone(x)
		at := r.Intn(n)
		other[at] = "ACGT"[r.Intn(4)]
		if bytes.Equal(x, other) {
			continue
		}
		if d := edit.Distance(made(t, x), made(t, other)); d < 3 {
			t.Fatalf("%s, %s: %d", x, other, d)
		}
	}
}
