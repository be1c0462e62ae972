package votes_test

import (
	"bytes"
	"math"
	"math/rand"
	"slices"
	"testing"

	"helix/api"
	"helix/votes"
)

func payloads(l ...string) [][]byte {
	var o [][]byte
	for _, s := range l {
		o = append(o, []byte(s))
	}
	return o
}

func vote(group, place int, payload string) api.Vote {
	return api.Vote{Group: group, Place: place, Payload: []byte(payload)}
}

// told is a seat without a slice.
type told struct {
	group, place int
	payload      string
	votes, next  int
	ok           bool
}

func tell(s api.Seat) told {
	return told{s.Group, s.Place, string(s.Payload), s.Votes, s.Next, s.Ok}
}

func tellAll(l []api.Seat) []told {
	var o []told
	for _, s := range l {
		o = append(o, tell(s))
	}
	return o
}

func TestP25_1Winner(t *testing.T) {
	for _, c := range []struct {
		l           [][]byte
		want        string
		votes, next int
		ok          bool
	}{
		{payloads("1", "2", "1"), "1", 2, 1, true}, {payloads("1", "2"), "", 1, 1, false}, {nil, "", 0, 0, false}, {payloads("x"), "x", 1, 0, true}, {payloads("x", "x"), "x", 2, 0, true},
		{payloads("a", "b", "a", "b"), "", 2, 2, false}, {payloads("a", "b", "a", "b", "c"), "", 2, 2, false}, {payloads("c", "a", "b", "c", "b", "c"), "c", 3, 2, true},
		{payloads("a", "b", "c"), "", 1, 1, false}, {payloads("a", "aa", "a"), "a", 2, 1, true}, {payloads("", ""), "", 2, 0, true}, {[][]byte{nil, {}, []byte("x")}, "", 2, 1, true},
		{payloads("", "x"), "", 1, 1, false}, {payloads("\x00", "\x00\x00", "\x00\x00"), "\x00\x00", 2, 1, true}, {payloads("z", "a", "z", "a", "z"), "z", 3, 2, true}, {payloads("a", "z", "a", "z", "a"), "a", 3, 2, true},
		{payloads("b", "a", "c", "c", "b", "b", "d"), "b", 3, 2, true},
	} {
		o, n, next, ok := votes.Winner(c.l)
		if string(o) != c.want || n != c.votes || next != c.next || ok != c.ok || !ok && len(o) != 0 {
			t.Errorf("Winner(%q): %q, %d, %d, %v", c.l, o, n, next, ok)
		}
		was := slices.Clone(c.l)
		for i := range was {
			was[i] = bytes.Clone(was[i])
		}
		clear(append(o, "more"...))
		clear(o)
		if !slices.EqualFunc(c.l, was, bytes.Equal) {
			t.Error("Winner shares memory")
		}
	}
}

func TestP25_2Seats(t *testing.T) {
	l := []api.Vote{
		vote(2, 0, "x"), vote(0, 1, "a"), vote(0, 0, "b"), vote(-1, 5, "c"), vote(0, 1, "d"), vote(0, 1, "a"), vote(0, -1, "e"), vote(0, 0, "f"), vote(math.MaxInt, math.MinInt, ""),
		vote(0, 10, "k"), vote(0, 9, "k"), vote(1, 0, "k"),
	}
	want := []told{
		{-1, 5, "c", 1, 0, true}, {0, -1, "e", 1, 0, true}, {0, 0, "", 1, 1, false}, {0, 1, "a", 2, 1, true}, {0, 9, "k", 1, 0, true}, {0, 10, "k", 1, 0, true}, {1, 0, "k", 1, 0, true}, {2, 0, "x", 1, 0, true},
		{math.MaxInt, math.MinInt, "", 1, 0, true},
	}
	o := votes.Seats(l)
	if !slices.Equal(tellAll(o), want) {
		t.Errorf("Seats: %v", o)
	}
	if len(o[2].Payload) != 0 {
		t.Error("a payload without a winner")
	}
	for i := range o {
		clear(o[i].Payload)
	}
	if string(l[1].Payload) != "a" || l[0].Group != 2 {
		t.Error("an argument was changed")
	}
	if len(votes.Seats(nil)) != 0 {
		t.Error("Seats of nothing")
	}
}

func TestP25_3Find(t *testing.T) {
	l := []api.Seat{
		{Group: 1, Place: 2, Payload: []byte("a"), Votes: 3, Next: 1, Ok: true}, {Group: 0, Place: 0, Votes: 2, Next: 2}, {Group: 1, Place: 2, Payload: []byte("b"), Votes: 9}, {Group: -1, Place: math.MaxInt, Ok: true},
	}
	for _, c := range []struct{ group, place, at int }{{1, 2, 0}, {0, 0, 1}, {-1, math.MaxInt, 3}, {2, 1, -1}, {1, 1, -1}, {0, 2, -1}, {math.MinInt, 0, -1}} {
		s, ok := votes.Find(l, c.group, c.place)
		var want told
		if c.at >= 0 {
			want = tell(l[c.at])
		}
		if ok != (c.at >= 0) || tell(s) != want {
			t.Errorf("Find(%d, %d): %v, %v", c.group, c.place, s, ok)
		}
		clear(append(s.Payload, "more"...))
		clear(s.Payload)
	}
	if string(l[0].Payload) != "a" {
		t.Error("Find shares memory")
	}
	if s, ok := votes.Find(nil, 0, 0); ok || tell(s) != (told{}) {
		t.Error("Find of nothing")
	}
}

func TestP25_3Sort(t *testing.T) {
	want := []api.Vote{
		vote(math.MinInt, 7, "z"), vote(-1, 9, "z"), vote(0, -3, "z"), vote(0, 0, ""), vote(0, 0, "a"), vote(0, 0, "aa"), vote(0, 0, "ab"), vote(0, 0, "ab"), vote(0, 0, "b"), vote(0, 2, "a"), vote(0, 10, ""),
		vote(2, 1, "\xff"), vote(2, 2, "a"), vote(10, 0, "a"), vote(math.MaxInt, 0, ""),
	}
	same := func(a, b api.Vote) bool {
		return a.Group == b.Group && a.Place == b.Place && bytes.Equal(a.Payload, b.Payload)
	}
	r := rand.New(rand.NewSource(1))
	for range 30 {
		l := slices.Clone(want)
		r.Shuffle(len(l), func(i, k int) { l[i], l[k] = l[k], l[i] })
		was := slices.Clone(l)
		for i := range was {
			was[i].Payload = bytes.Clone(was[i].Payload)
		}
		o := votes.Sort(l)
		if !slices.EqualFunc(o, want, same) {
			t.Fatalf("Sort: %v", o)
		}
		for i := range o {
			clear(append(o[i].Payload, "more"...))
			clear(o[i].Payload)
		}
		if !slices.EqualFunc(l, was, same) {
			t.Fatal("an argument was changed")
		}
	}
	if len(votes.Sort(nil)) != 0 {
		t.Error("Sort of nothing")
	}
}

func TestP25_4Follows(t *testing.T) {
	r := rand.New(rand.NewSource(2))
	for range 300 {
		var l []api.Vote
		for range r.Intn(25) {
			l = append(l, vote(r.Intn(3), r.Intn(3), string(rune('a'+r.Intn(3)))))
		}
		seats := tellAll(votes.Seats(l))
		r.Shuffle(len(l), func(i, k int) { l[i], l[k] = l[k], l[i] })
		if o := tellAll(votes.Seats(l)); !slices.Equal(o, seats) {
			t.Fatalf("in another order: %v, not %v", o, seats)
		}
		more := vote(r.Intn(3), r.Intn(3), string(rune('a'+r.Intn(3))))
		o := tellAll(votes.Seats(append(slices.Clone(l), more)))
		others := func(s told) bool { return s.group == more.Group && s.place == more.Place }
		if !slices.Equal(slices.DeleteFunc(o, others), slices.DeleteFunc(slices.Clone(seats), others)) {
			t.Fatalf("a vote more changes another seat: %v, %v", l, more)
		}
		for _, s := range seats {
			counts, all := map[string]int{}, 0
			for _, v := range l {
				if v.Group == s.group && v.Place == s.place {
					counts[string(v.Payload)]++
					all++
				}
			}
			for payload, n := range counts {
				if n > all-n && (!s.ok || s.payload != payload || s.votes != n) {
					t.Fatalf("%v: %s has more than all others", s, payload)
				}
			}
		}
	}
}
