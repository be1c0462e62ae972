package report_test

import (
	"math"
	"math/rand"
	"slices"
	"strconv"
	"strings"
	"testing"

	"helix/api"
	"helix/report"
)

var (
	nan  = math.NaN()
	inf  = math.Inf(1)
	nega = math.Copysign(0, -1)
)

// same tells whether a and b are alike.
func same(a, b float64) bool {
	return a != a && b != b || math.Float64bits(a) == math.Float64bits(b)
}

func group(number, rows, missing, torn, wrong int, ok bool) api.GroupReport {
	return api.GroupReport{Group: number, Rows: rows, Missing: missing, Torn: torn, Wrong: wrong, Ok: ok}
}

func of(lost int, l ...api.GroupReport) api.Report {
	return api.Report{Groups: l, Lost: lost}
}

// some is a report that may be told.
func some(r *rand.Rand) api.Report {
	o := api.Report{Lost: -1}
	for n := range r.Intn(6) {
		rows := 1 + r.Intn(255)
		g := group(n, rows, r.Intn(rows/2+1), 0, 0, r.Intn(3) > 0)
		g.Torn = r.Intn(rows - g.Missing + 1)
		g.Wrong = r.Intn(rows - g.Missing - g.Torn + 1)
		if !g.Ok && o.Lost < 0 {
			o.Lost = n
		}
		o.Groups = append(o.Groups, g)
	}
	return o
}

const empty = "groups 0 lost -1\nshare NaN\nmean NaN\nspread NaN\nleast +Inf\ngreatest -Inf\nmiddle NaN\n"

const two = "groups 2 lost 1\ngroup 0 rows 4 missing 1 torn 1 wrong 2 ok\ngroup 1 rows 8 missing 0 torn 2 wrong 0 lost\n" +
	"share 0.3333333333333333\nmean 0.375\nspread 0.015625\nleast 0.25\ngreatest 0.5\nmiddle 0.375\n"

var twoGroups = of(1, group(0, 4, 1, 1, 2, true), group(1, 8, 0, 2, 0, false))

// wrong are reports that may not be told.
var wrong = []api.Report{
	of(0), of(-2), of(1), of(math.MinInt),
	of(-1, group(1, 4, 0, 0, 0, true)), of(-1, group(-1, 4, 0, 0, 0, true)), of(-1, group(0, 4, 0, 0, 0, true), group(0, 4, 0, 0, 0, true)), of(-1, group(1, 4, 0, 0, 0, true), group(0, 4, 0, 0, 0, true)),
	of(-1, group(0, 4, 0, 0, 0, true), group(2, 4, 0, 0, 0, true)), of(-1, group(0, 0, 0, 0, 0, true)), of(-1, group(0, -1, 0, 0, 0, true)), of(-1, group(0, 256, 0, 0, 0, true)),
	of(-1, group(0, 4, -1, 0, 0, true)), of(-1, group(0, 4, 0, -1, 0, true)), of(-1, group(0, 4, 0, 0, -1, true)), of(-1, group(0, 4, 5, 0, 0, true)), of(-1, group(0, 4, 0, 5, 0, true)), of(-1, group(0, 4, 0, 0, 5, true)),
	of(-1, group(0, 4, 2, 2, 1, true)), of(-1, group(0, 4, 2, 1, 2, true)), of(-1, group(0, 4, 3, -1, 2, true)), of(-1, group(0, 4, math.MaxInt, math.MaxInt, 2, true)),
	of(-1, group(0, 4, math.MaxInt, math.MaxInt, 6, true)), of(-1, group(0, math.MaxInt, 1, 1, 1, true)), of(0, group(0, 4, 0, 0, 0, true)), of(1, group(0, 4, 0, 0, 0, true)), of(-1, group(0, 4, 0, 0, 0, false)),
	of(1, group(0, 4, 0, 0, 0, false), group(1, 4, 0, 0, 0, false)), of(0, group(0, 4, 0, 0, 0, true), group(1, 4, 0, 0, 0, false)), of(-1, group(0, 4, 0, 0, 0, true), group(1, 4, 0, 0, 0, false)),
	of(2, group(0, 4, 0, 0, 0, true), group(1, 4, 0, 0, 0, false)),
}

// right are reports that may be told.
var right = []api.Report{
	of(-1), twoGroups, of(-1, group(0, 1, 0, 0, 0, true)), of(-1, group(0, 255, 255, 0, 0, true)), of(-1, group(0, 255, 0, 255, 0, true)), of(-1, group(0, 255, 0, 0, 255, true)), of(0, group(0, 6, 1, 2, 3, false)),
	of(0, group(0, 4, 0, 0, 0, false), group(1, 4, 0, 0, 0, false)), of(-1, group(0, 4, 4, 0, 0, true), group(1, 4, 0, 4, 0, true), group(2, 4, 2, 2, 0, true)),
}

func TestP29_1Right(t *testing.T) {
	for i, r := range right {
		text, e := report.Text(r)
		if !report.Right(r) || e != api.OK || text == "" {
			t.Errorf("right %d: %q, %d", i, text, e)
		}
	}
	for i, r := range wrong {
		text, e := report.Text(r)
		if report.Right(r) || e != api.ErrArg || text != "" {
			t.Errorf("wrong %d: %q, %d", i, text, e)
		}
	}
}

func TestP29_1SharesAndFigures(t *testing.T) {
	for i, c := range []struct {
		r      api.Report
		shares []float64
		f      api.Figures
	}{
		{of(5), nil, api.Figures{Share: nan, Mean: nan, Spread: nan, Least: inf, Greatest: -inf, Middle: nan}},
		{twoGroups, []float64{0.5, 0.25}, api.Figures{Share: 1.0 / 3, Mean: 0.375, Spread: 0.015625, Least: 0.25, Greatest: 0.5, Middle: 0.375}},
		{of(9, group(7, 0, 0, 0, 3, false)), []float64{nan}, api.Figures{Share: nan, Mean: nan, Spread: nan, Least: nan, Greatest: nan, Middle: nan}},
		{of(9, group(7, 0, 1, 0, 3, false)), []float64{inf}, api.Figures{Share: inf, Mean: inf, Spread: nan, Least: inf, Greatest: inf, Middle: inf}},
		{of(9, group(7, 0, -1, 0, 3, false)), []float64{-inf}, api.Figures{Share: -inf, Mean: -inf, Spread: nan, Least: -inf, Greatest: -inf, Middle: -inf}},
		{of(9, group(7, -3, 2, -2, 3, false)), []float64{nega}, api.Figures{Share: nega, Mean: 0, Spread: 0, Least: nega, Greatest: nega, Middle: nega}},
		{of(9, group(7, -3, 2, -2, 3, false), group(0, 3, 0, 0, 0, false)), []float64{nega, 0}, api.Figures{Share: nan, Mean: 0, Spread: 0, Least: nega, Greatest: 0, Middle: 0}},
		{of(0, group(0, 4, 8, 0, 99, false), group(9, 2, 1, 1, 99, true), group(9, 4, 0, 0, 4, true)), []float64{2, 1, 0}, api.Figures{Share: 1, Mean: 1, Spread: 2.0 / 3, Least: 0, Greatest: 2, Middle: 1}},
		{of(0, group(0, 2, math.MaxInt, 0, 0, false)), []float64{1 << 62}, api.Figures{Share: 1 << 62, Mean: 1 << 62, Spread: 0, Least: 1 << 62, Greatest: 1 << 62, Middle: 1 << 62}},
	} {
		l, f := report.Shares(c.r), report.Figures(c.r)
		if !slices.EqualFunc(l, c.shares, same) {
			t.Errorf("%d: shares %v", i, l)
		}
		if !same(f.Share, c.f.Share) || !same(f.Mean, c.f.Mean) || !same(f.Spread, c.f.Spread) || !same(f.Least, c.f.Least) || !same(f.Greatest, c.f.Greatest) || !same(f.Middle, c.f.Middle) {
			t.Errorf("%d: figures %v", i, f)
		}
	}
}

func TestP29_1Same(t *testing.T) {
	if !report.Same(of(3), api.Report{Groups: []api.GroupReport{}, Lost: 3}) || report.Same(of(3), of(4)) || report.Same(of(-1), twoGroups) {
		t.Error("Same of no groups")
	}
	for i, change := range []func(*api.Report){
		func(r *api.Report) { r.Lost = 0 }, func(r *api.Report) { r.Groups = r.Groups[:1] }, func(r *api.Report) { r.Groups[1].Group++ }, func(r *api.Report) { r.Groups[1].Rows++ }, func(r *api.Report) { r.Groups[1].Missing++ },
		func(r *api.Report) { r.Groups[1].Torn++ }, func(r *api.Report) { r.Groups[1].Wrong++ }, func(r *api.Report) { r.Groups[1].Ok = true }, func(r *api.Report) { slices.Reverse(r.Groups) },
	} {
		other := of(1, slices.Clone(twoGroups.Groups)...)
		if !report.Same(other, twoGroups) {
			t.Error("not the same as itself")
		}
		change(&other)
		if report.Same(other, twoGroups) || report.Same(twoGroups, other) {
			t.Errorf("the change %d makes no difference", i)
		}
	}
}

func TestP29_2Text(t *testing.T) {
	if text, e := report.Text(of(-1)); e != api.OK || text != empty {
		t.Errorf("no groups: %q, %d", text, e)
	}
	if text, e := report.Text(twoGroups); e != api.OK || text != two {
		t.Errorf("two groups: %q, %d", text, e)
	}
	if text, e := report.Text(of(-1, group(0, 255, 0, 0, 0, true))); e != api.OK || text != "groups 1 lost -1\ngroup 0 rows 255 missing 0 torn 0 wrong 0 ok\nshare 0\nmean 0\nspread 0\nleast 0\ngreatest 0\nmiddle 0\n" {
		t.Errorf("one group: %q, %d", text, e)
	}
	var many []api.GroupReport
	for n := range 12 {
		many = append(many, group(n, 3, 1, 0, 0, true))
	}
	if text, e := report.Text(of(-1, many...)); e != api.OK || !strings.HasPrefix(text, "groups 12 lost -1\ngroup 0 rows 3") || !strings.Contains(text, "\ngroup 11 rows 3 missing 1 torn 0 wrong 0 ok\nshare 0.3333333333333333\n") {
		t.Errorf("twelve groups: %q, %d", text, e)
	}
}

func TestP29_2Parse(t *testing.T) {
	for text, want := range map[string]api.Report{empty: of(-1), two: twoGroups} {
		if r, e := report.Parse(text); e != api.OK || !report.Same(r, want) {
			t.Errorf("Parse(%q): %v, %d", text, r, e)
		}
	}
	one := "group 0 rows 4 missing 1 torn 1 wrong 2 ok\n"
	for _, text := range []string{
		"", "\n", " ", "x", "groups", "groups 0", "groups 0 lost", "group", "group 0", "groups 0 lost -1", "groups 0 lost -1\n", "groups x lost -1\n", "group 0 rows 4 missing 1 torn 1 wrong 2\n", one, one + empty,
		empty[:len(empty)-1], empty + "\n", "\n" + empty, empty + empty, empty + one, two[:len(two)-1], two + "\n", two + " ", two[1:], " " + two, two + "more\n", two + one, two + empty,
		strings.Replace(empty, "0", "1", 1), strings.Replace(empty, "-1", "0", 1), strings.Replace(empty, "NaN", "nan", 1), strings.Replace(empty, "+Inf", "Inf", 1), strings.Replace(empty, "groups 0", "groups 999999999999999999999", 1),
		strings.Replace(two, "lost 1", "lost 0", 1), strings.Replace(two, "lost 1", "lost +1", 1), strings.Replace(two, "lost 1", "lost 01", 1), strings.Replace(two, "groups 2", "groups 3", 1), strings.Replace(two, "groups 2", "groups 1", 1),
		strings.Replace(two, " ok", " lost", 1), strings.Replace(two, " ok", " OK", 1), strings.Replace(two, " ok", "", 1), strings.Replace(two, " ok", " ok ok", 1), strings.Replace(two, "\n", "\r\n", 1), strings.ReplaceAll(two, "\n", "\r\n"),
		strings.Replace(two, " ", "  ", 1), strings.Replace(two, " ", "\t", 1), strings.Replace(two, one, "", 1), strings.Replace(two, one, one+one, 1), strings.Replace(two, "rows 4", "rows 0", 1), strings.Replace(two, "rows 4", "rows 300", 1),
		strings.Replace(two, "rows 4", "row 4", 1), strings.Replace(two, "missing 1", "missing 0", 1), strings.Replace(two, "missing 1", "missing -1", 1), strings.Replace(two, "missing 1", "missing 1.0", 1), strings.Replace(two, "wrong 2", "wrong 3", 1),
		strings.Replace(two, "share", "Share", 1), strings.Replace(two, "0.375", "0.3750", 1), strings.Replace(two, "0.375", ".375", 1), strings.Replace(two, "0.25", "0.26", 1), strings.Replace(two, "mean 0.375\n", "", 1),
		strings.Replace(two, "middle", "median", 1), strings.Replace(two, "group 0 ", "group 1 ", 1), strings.ToUpper(two),
	} {
		if r, e := report.Parse(text); e != api.ErrArg || !report.Same(r, api.Report{}) {
			t.Errorf("Parse(%q): %v, %d", text, r, e)
		}
	}
}

// TestP29_2EachByte: no other text, one byte away, is the report's; and no report that may not be told has one.
func TestP29_2EachByte(t *testing.T) {
	for at := range two {
		if r, e := report.Parse(two[:at]); e != api.ErrArg || !report.Same(r, api.Report{}) {
			t.Fatalf("%d bytes: %v, %d", at, r, e)
		}
		for _, c := range []string{"", "0", "x", "\n", " ", two[at:at+1] + two[at:at+1]} {
			text := two[:at] + c + two[at+1:]
			r, e := report.Parse(text)
			if text == two {
				continue
			}
			if e == api.OK {
				if again, e := report.Text(r); e != api.OK || again != text {
					t.Fatalf("Parse(%q): %v", text, r)
				}
			} else if e != api.ErrArg || !report.Same(r, api.Report{}) {
				t.Fatalf("Parse(%q): %v, %d", text, r, e)
			}
		}
	}
	for i, r := range wrong {
		text := "groups " + strconv.Itoa(len(r.Groups)) + " lost " + strconv.Itoa(r.Lost) + "\n"
		for _, g := range r.Groups {
			end := " lost\n"
			if g.Ok {
				end = " ok\n"
			}
			text += "group " + strconv.Itoa(g.Group) + " rows " + strconv.Itoa(g.Rows) + " missing " + strconv.Itoa(g.Missing) + " torn " + strconv.Itoa(g.Torn) + " wrong " + strconv.Itoa(g.Wrong) + end
		}
		f := report.Figures(r)
		for k, x := range []float64{f.Share, f.Mean, f.Spread, f.Least, f.Greatest, f.Middle} {
			text += []string{"share ", "mean ", "spread ", "least ", "greatest ", "middle "}[k] + strconv.FormatFloat(x, 'g', -1, 64) + "\n"
		}
		if o, e := report.Parse(text); e != api.ErrArg || !report.Same(o, api.Report{}) {
			t.Errorf("wrong %d: %v, %d", i, o, e)
		}
	}
}

func TestP29_3Follows(t *testing.T) {
	r := rand.New(rand.NewSource(1))
	for range 500 {
		x := some(r)
		was := slices.Clone(x.Groups)
		text, e := report.Text(x)
		if e != api.OK {
			t.Fatalf("%v: %d", x, e)
		}
		o, e := report.Parse(text)
		if e != api.OK || !report.Same(o, x) {
			t.Fatalf("%q is parsed as %v, %d, not %v", text, o, e, x)
		}
		for _, share := range report.Shares(x) {
			if !(share >= 0 && share <= 1) {
				t.Fatalf("%v: a share of %v", x, share)
			}
		}
		if f := report.Figures(x); len(x.Groups) > 0 && !(f.Least <= f.Middle && f.Middle <= f.Greatest) {
			t.Fatalf("%v: %v", x, f)
		}
		clear(o.Groups)
		clear(report.Shares(x))
		if !slices.Equal(x.Groups, was) {
			t.Fatal("an argument was changed")
		}
	}
}
