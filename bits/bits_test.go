package bits_test

import (
	"bytes"
	"math"
	"math/rand"
	"strconv"
	"strings"
	"testing"

	"helix/api"
	"helix/bits"
	"helix/nt"
)

// of are the bits that a text of digits tells.
func of(digits string) []byte {
	b := []byte(digits)
	for i := range b {
		b[i] -= '0'
	}
	return b
}

func TestP11_1Field(t *testing.T) {
	for _, c := range []struct {
		b    []byte
		want string
		e    api.Errno
	}{
		{of("1001"), "TCAG", api.OK}, {nil, "", api.OK}, {of("0"), "A", api.OK}, {of("1"), "T", api.OK}, {of("00"), "AC", api.OK}, {of("11"), "TG", api.OK},
		{of("000111"), "ACAGTG", api.OK}, {of("2"), "", api.ErrArg}, {of("0102"), "", api.ErrArg}, {of("3101"), "", api.ErrArg}, {[]byte{0, 255}, "", api.ErrArg},
		{[]byte("01"), "", api.ErrArg},
	} {
		if s, e := bits.Field(c.b); e != c.e || string(s) != c.want {
			t.Errorf("Field(%v): %s, %d", c.b, s, e)
		}
	}
}

func TestP11_1Back(t *testing.T) {
	for s, want := range map[string]string{"TCAG": "1001", "": "", "A": "0", "T": "1", "AC": "00", "TG": "11", "ACAGTG": "000111"} {
		if b, e := bits.Back([]byte(s)); e != api.OK || !bytes.Equal(b, of(want)) {
			t.Errorf("Back(%s): %v, %d", s, b, e)
		}
	}
	for at := range 4 {
		for c := range 256 {
			s := []byte("TCAG")
			s[at] = byte(c)
			bit := strings.IndexByte([]string{"AT", "CG"}[at%2], byte(c))
			b, e := bits.Back(s)
			if bit < 0 && (e != api.ErrLetter || len(b) != 0) || bit >= 0 && (e != api.OK || len(b) != 4 || int(b[at]) != bit) {
				t.Errorf("Back(%q): %v, %d", s, b, e)
			}
		}
	}
}

func TestP11_2Number(t *testing.T) {
	for _, c := range []struct {
		x    uint64
		many int
		want string
		e    api.Errno
	}{
		{5, 4, "0101", api.OK}, {5, 3, "101", api.OK}, {5, 2, "", api.ErrArg}, {0, 0, "", api.OK}, {1, 0, "", api.ErrArg}, {0, 3, "000", api.OK},
		{0, -1, "", api.ErrArg}, {0, 65, "", api.ErrArg}, {0, math.MinInt, "", api.ErrArg}, {5, math.MaxInt, "", api.ErrArg},
		{math.MaxUint64, 64, strings.Repeat("1", 64), api.OK}, {math.MaxUint64, 63, "", api.ErrArg}, {1 << 63, 64, "1" + strings.Repeat("0", 63), api.OK},
		{1, 64, strings.Repeat("0", 63) + "1", api.OK}, {255, 8, "11111111", api.OK}, {256, 8, "", api.ErrArg},
	} {
		if b, e := bits.Number(c.x, c.many); e != c.e || !bytes.Equal(b, of(c.want)) {
			t.Errorf("Number(%d, %d): %v, %d", c.x, c.many, b, e)
		}
	}
}

func TestP11_2Value(t *testing.T) {
	for _, c := range []struct {
		b    []byte
		want uint64
		e    api.Errno
	}{
		{nil, 0, api.OK}, {of("0101"), 5, api.OK}, {of("1"), 1, api.OK}, {of("000"), 0, api.OK}, {of(strings.Repeat("1", 64)), math.MaxUint64, api.OK},
		{of(strings.Repeat("0", 64)), 0, api.OK}, {of(strings.Repeat("0", 65)), 0, api.ErrArg}, {of(strings.Repeat("1", 100)), 0, api.ErrArg},
		{of("012"), 0, api.ErrArg}, {of("2"), 0, api.ErrArg}, {[]byte{1, 1, 255}, 0, api.ErrArg},
	} {
		if x, e := bits.Value(c.b); e != c.e || x != c.want {
			t.Errorf("Value(%v): %d, %d", c.b, x, e)
		}
	}
	r := rand.New(rand.NewSource(1))
	for range 500 {
		x := r.Uint64() >> r.Intn(64)
		need := len(strconv.FormatUint(x, 2))
		b, e := bits.Number(x, need+r.Intn(65-need))
		if back, e2 := bits.Value(b); e != api.OK || e2 != api.OK || back != x {
			t.Fatalf("%d: %v, %d", x, b, back)
		}
		if !strings.HasSuffix(string(b), string(of(strconv.FormatUint(x, 2)))) {
			t.Fatalf("%d: %v", x, b)
		}
	}
}

func TestP11_2NeedAndEven(t *testing.T) {
	for x, want := range map[uint64]int{0: 0, 1: 1, 2: 2, 3: 2, 4: 3, 255: 8, 256: 9, math.MaxUint64: 64, 1 << 63: 64, 1<<63 - 1: 63} {
		if bits.Need(x) != want {
			t.Errorf("Need(%d): %d", x, bits.Need(x))
		}
	}
	for n, want := range map[int]int{
		0: 0, 1: 2, 2: 2, 3: 4, 17: 18, 18: 18, -1: 0, -2: 0, -7: 0, math.MinInt: 0,
		math.MaxInt: math.MinInt, math.MaxInt - 1: math.MaxInt - 1, math.MaxInt - 2: math.MaxInt - 1,
	} {
		if bits.Even(n) != want {
			t.Errorf("Even(%d): %d, not %d", n, bits.Even(n), want)
		}
	}
}

func TestP11_3Fields(t *testing.T) {
	r := rand.New(rand.NewSource(2))
	for i := range 400 {
		n := i % 45
		b := make([]byte, n)
		for i := range b {
			b[i] = byte(r.Intn(2))
		}
		whole := append(bytes.Clone(b), 1, 1, 1)
		was := bytes.Clone(whole)
		s, e := bits.Field(whole[:n])
		if e != api.OK || len(s) != n {
			t.Fatalf("Field(%v): %s, %d", b, s, e)
		}
		back, e := bits.Back(s)
		if e != api.OK || !bytes.Equal(back, b) {
			t.Fatalf("Back(%s): %v, %d", s, back, e)
		}
		if n > 0 && nt.Run(s) != 1 || n%2 == 0 && 2*nt.Gc(s) != n {
			t.Fatalf("%s: two alike, or not half of them strong", s)
		}
		if n > 1 {
			if back, e := bits.Back(s[1:]); e != api.ErrLetter || len(back) != 0 {
				t.Fatalf("%s without its first letter: %v, %d", s, back, e)
			}
		}
		clear(s)
		clear(back)
		if !bytes.Equal(whole, was) {
			t.Fatal("an argument was changed")
		}
	}
}
