package tests

import (
	"math"
	"slices"
	"strconv"
	"testing"

	"loop.example/g00579/impl"
)

func sib(val int, ns ...int) impl.Sib {
	return impl.Sib{Val: val, V: ns}
}

func sibs(list ...impl.Sib) []impl.Sib {
	return list
}

func sameSib(a impl.Sib, b impl.Sib) bool {
	return a.Val == b.Val && slices.Equal(a.V, b.V)
}

func sameSibs(a []impl.Sib, b []impl.Sib) bool {
	return slices.EqualFunc(a, b, sameSib)
}

func copySibs(list []impl.Sib) []impl.Sib {
	var out []impl.Sib
	for _, s := range list {
		out = append(out, sib(s.Val, slices.Clone(s.V)...))
	}
	return out
}

// fourSibs: siblings that rise, each by another number, none of which is under another.
func fourSibs() []impl.Sib {
	return sibs(sib(5, 0, 0, 3, 1), sib(-2, 0, 2, 1, 0), sib(5, 1, 0, 2, 0), sib(7, 2, 1, 0, 1))
}

var edgeVals = []int{0, 1, -1, 7, impl.MaxVal - 1, impl.MaxVal, -impl.MaxVal, 1 - impl.MaxVal}

var badVals = []int{impl.MaxVal + 1, -impl.MaxVal - 1, math.MaxInt, math.MinInt}

var badSites = []int{-1, impl.MaxSites, impl.MaxSites + 1, -impl.MaxSites, math.MaxInt, math.MinInt}

// sibsOver: each list of these vectors, which rise, of no two of which one is under the other; each with each of these values.
func sibsOver(vecs []impl.Vec, vals ...int) [][]impl.Sib {
	all := [][]impl.Sib{nil}
	for _, v := range vecs {
		for _, list := range all {
			if slices.ContainsFunc(list, func(s impl.Sib) bool { return cmpBy(vec(s.V...), v) != 2 }) {
				continue
			}
			for _, val := range vals {
				all = append(all, append(copySibs(list), sib(val, slices.Clone(v.V)...)))
			}
		}
	}
	return all
}

// fewVecs: vectors with noughts at two places, at the others each number below n, or below m.
func fewVecs(n int, m int) []impl.Vec {
	var all []impl.Vec
	for i := range n {
		for j := range m {
			all = append(all, vec(0, i, 0, j))
		}
	}
	return all
}

// valued: the siblings, with these values in turn.
func valued(list []impl.Sib, vals ...int) []impl.Sib {
	out := copySibs(list)
	for i := range out {
		out[i].Val = vals[i%len(vals)]
	}
	return out
}

// thrownSibs: n siblings at most, of few values; most vectors are near nought, in some lists near the most.
func thrownSibs(d *dice, n int) []impl.Sib {
	var list []impl.Sib
	base := d.below(4) / 3 * (impl.MaxTick - 6)
	for range 2 * n {
		v := vec(base+d.below(7), base+d.below(7), base+d.below(7), base+d.below(7))
		aside := func(s impl.Sib) bool { return cmpBy(vec(s.V...), v) != 2 }
		if len(list) < n && !slices.ContainsFunc(list, aside) {
			list = append(list, sib(d.below(5)-2, v.V...))
		}
	}
	slices.SortFunc(list, func(a impl.Sib, b impl.Sib) int { return slices.Compare(a.V, b.V) })
	return list
}

// badSibs: lists that are not SibsOk, most of them by one fault alone.
func badSibs() map[string][]impl.Sib {
	bad := map[string][]impl.Sib{
		"a zero one":                      sibs(impl.Sib{}),
		"alike":                           sibs(sib(5, 1, 0, 2, 0), sib(5, 1, 0, 2, 0)),
		"one V":                           sibs(sib(5, 1, 0, 2, 0), sib(6, 1, 0, 2, 0)),
		"one V, Val falls":                sibs(sib(6, 1, 0, 2, 0), sib(5, 1, 0, 2, 0)),
		"one V of noughts":                sibs(sib(1, 0, 0, 0, 0), sib(2, 0, 0, 0, 0)),
		"one V of the most":               sibs(sib(1, impl.MaxTick, impl.MaxTick, impl.MaxTick, impl.MaxTick), sib(2, impl.MaxTick, impl.MaxTick, impl.MaxTick, impl.MaxTick)),
		"one V at last":                   sibs(sib(5, 0, 0, 3, 1), sib(-2, 0, 2, 1, 0), sib(6, 0, 2, 1, 0)),
		"one V, one between":              sibs(sib(5, 0, 2, 1, 0), sib(-2, 1, 0, 2, 0), sib(6, 0, 2, 1, 0)),
		"falls by the first number":       sibs(sib(5, 2, 1, 0, 1), sib(5, 1, 0, 2, 0)),
		"falls by the second number":      sibs(sib(5, 0, 2, 1, 0), sib(5, 0, 0, 3, 1)),
		"falls by the third number":       sibs(sib(5, 0, 0, 3, 1), sib(5, 0, 0, 2, 2)),
		"falls, Val rises":                sibs(sib(4, 1, 0, 2, 0), sib(5, 0, 2, 1, 0)),
		"falls at last":                   sibs(sib(5, 0, 0, 3, 1), sib(5, 1, 0, 2, 0), sib(-2, 0, 2, 1, 0)),
		"backward":                        sibs(sib(7, 2, 1, 0, 1), sib(5, 1, 0, 2, 0), sib(-2, 0, 2, 1, 0), sib(5, 0, 0, 3, 1)),
		"falls, and is under":             sibs(sib(5, 1, 1, 2, 0), sib(5, 1, 0, 2, 0)),
		"by the last numbers backward":    sibs(sib(5, 3, 1, 0, 0), sib(6, 2, 2, 0, 0), sib(7, 1, 3, 0, 0)),
		"under by the first number":       sibs(sib(5, 1, 0, 2, 0), sib(5, 2, 0, 2, 0)),
		"under by the last number":        sibs(sib(5, 1, 0, 2, 0), sib(5, 1, 0, 2, 1)),
		"under by all numbers":            sibs(sib(5, 1, 0, 2, 0), sib(5, 2, 1, 3, 1)),
		"noughts under one":               sibs(sib(5, 0, 0, 0, 0), sib(5, 0, 0, 0, 1)),
		"noughts under several":           sibs(sib(5, 0, 0, 0, 0), sib(5, 0, 0, 0, 1), sib(5, 0, 0, 1, 0)),
		"under the most":                  sibs(sib(5, impl.MaxTick, impl.MaxTick, 0, 0), sib(5, impl.MaxTick, impl.MaxTick, impl.MaxTick, impl.MaxTick)),
		"the first two":                   sibs(sib(5, 0, 0, 2, 0), sib(5, 0, 0, 2, 1), sib(5, 1, 0, 1, 0)),
		"the last two":                    sibs(sib(5, 0, 0, 3, 1), sib(5, 1, 0, 2, 0), sib(5, 2, 0, 2, 0)),
		"the first under the last":        sibs(sib(5, 0, 1, 1, 0), sib(5, 0, 2, 0, 0), sib(5, 1, 1, 1, 0)),
		"the first under the last, of 5":  sibs(sib(5, 0, 0, 3, 0), sib(5, 0, 2, 1, 0), sib(5, 1, 0, 2, 0), sib(7, 2, 1, 0, 1), sib(5, 3, 0, 3, 0)),
		"the second under the last, of 5": sibs(sib(5, 0, 0, 3, 1), sib(5, 0, 2, 1, 0), sib(5, 1, 0, 2, 0), sib(7, 2, 1, 0, 1), sib(5, 3, 2, 1, 0)),
	}
	for name, v := range badVecs() {
		bad["V alone: "+name] = sibs(sib(5, v.V...))
		bad["the first V: "+name] = sibs(sib(5, v.V...), sib(5, 2, 0, 0, 0))
		bad["the last V: "+name] = sibs(sib(5, 0, 3, 0, 0), sib(5, v.V...))
		bad["the V between: "+name] = sibs(sib(5, 0, 3, 0, 0), sib(5, v.V...), sib(5, 2, 0, 0, 0))
	}
	for i, val := range badVals {
		name := strconv.Itoa(i)
		bad["Val alone "+name] = sibs(sib(val, 1, 0, 2, 0))
		for k := range fourSibs() {
			list := fourSibs()
			list[k].Val = val
			bad["Val "+name+" at "+strconv.Itoa(k)] = list
		}
	}
	return bad
}

// sibsOkBy, sibClockBy, sibPutBy, sibJoinBy, sibValsBy: by the words of the chapter, two by two.
func sibsOkBy(list []impl.Sib) bool {
	for i, s := range list {
		if s.Val < -1000000 || s.Val > 1000000 || !vecOkBy(vec(s.V...)) {
			return false
		}
		for _, o := range list[:i] {
			if slices.Compare(o.V, s.V) != -1 || cmpBy(vec(o.V...), vec(s.V...)) != 2 {
				return false
			}
		}
	}
	return true
}

func sibClockBy(list []impl.Sib) impl.Vec {
	if !sibsOkBy(list) {
		return impl.Vec{}
	}
	clock := vec(0, 0, 0, 0)
	for _, s := range list {
		clock = joinedVec(clock, vec(s.V...))
	}
	return clock
}

func sibPutBy(list []impl.Sib, site int, val int) ([]impl.Sib, bool) {
	if !sibsOkBy(list) || site < 0 || site >= impl.MaxSites || val < -1000000 || val > 1000000 {
		return nil, false
	}
	v := sibClockBy(list).V
	v[site]++
	return sibs(sib(val, v...)), v[site] <= impl.MaxTick
}

func sibJoinBy(a []impl.Sib, b []impl.Sib) []impl.Sib {
	if !sibsOkBy(a) || !sibsOkBy(b) {
		return nil
	}
	var out []impl.Sib
	keep := func(list []impl.Sib, others []impl.Sib) {
		for _, s := range list {
			goes := func(o impl.Sib) bool { return cmpBy(vec(s.V...), vec(o.V...)) == -1 }
			i := slices.IndexFunc(out, func(o impl.Sib) bool { return slices.Equal(s.V, o.V) })
			if i >= 0 {
				out[i].Val = min(out[i].Val, s.Val)
			} else if !slices.ContainsFunc(others, goes) {
				out = append(out, s)
			}
		}
	}
	keep(a, b)
	keep(b, a)
	slices.SortFunc(out, func(a impl.Sib, b impl.Sib) int { return slices.Compare(a.V, b.V) })
	return out
}

func sibValsBy(list []impl.Sib) []int {
	var vals []int
	for _, s := range list {
		if sibsOkBy(list) && !slices.Contains(vals, s.Val) {
			vals = append(vals, s.Val)
		}
	}
	slices.Sort(vals)
	return vals
}

// checkSibs: what is told of a list is what the words of the chapter say.
func checkSibs(t *testing.T, list []impl.Sib) {
	t.Helper()
	if got, want := impl.SibsOk(list), sibsOkBy(list); got != want {
		t.Fatalf("SibsOk(%v) = %v", list, got)
	}
	if got, want := impl.SibClock(list), sibClockBy(list); !sameVec(got, want) {
		t.Fatalf("SibClock(%v) = %v, want %v", list, got, want)
	}
	if got, want := impl.SibVals(list), sibValsBy(list); !slices.Equal(got, want) {
		t.Fatalf("SibVals(%v) = %v, want %v", list, got, want)
	}
}

// checkSibPut: what SibPut tells is what the words of the chapter say; where it is told, it is above all that was there, and joined with that alone stays.
func checkSibPut(t *testing.T, list []impl.Sib, site int, val int) ([]impl.Sib, bool) {
	t.Helper()
	got, ok := impl.SibPut(list, site, val)
	want, is := sibPutBy(list, site, val)
	if !is {
		want = nil
	}
	if ok != is || !sameSibs(got, want) {
		t.Fatalf("SibPut(%v, %d, %d) = %v, %v, want %v, %v", list, site, val, got, ok, want, is)
	}
	if !ok {
		return got, false
	}
	checkSibs(t, got)
	for _, s := range list {
		if impl.VecCmp(vec(s.V...), vec(got[0].V...)) != -1 {
			t.Fatalf("SibPut(%v, %d, %d) = %v, which is not above %v", list, site, val, got, s)
		}
	}
	if !impl.SibsOk(got) || !slices.Equal(impl.SibVals(got), []int{val}) || !sameSibs(impl.SibJoin(list, got), got) || !sameSibs(impl.SibJoin(got, list), got) {
		t.Fatalf("SibPut(%v, %d, %d) = %v, joined with what was there %v", list, site, val, got, impl.SibJoin(list, got))
	}
	return got, true
}

func mustSibPut(t *testing.T, list []impl.Sib, site int, val int) []impl.Sib {
	t.Helper()
	got, ok := checkSibPut(t, list, site, val)
	if !ok {
		t.Fatalf("SibPut(%v, %d, %d) is false", list, site, val)
	}
	return got
}

// checkSibJoin: promise 14, of two: what SibJoin tells is what the words of the chapter say, the same whichever comes first; its clock is that of both; and joined once more nothing changes.
func checkSibJoin(t *testing.T, a []impl.Sib, b []impl.Sib) []impl.Sib {
	t.Helper()
	got, back, want := impl.SibJoin(a, b), impl.SibJoin(b, a), sibJoinBy(a, b)
	if !sameSibs(got, want) || !sameSibs(back, want) || !impl.SibsOk(got) {
		t.Fatalf("SibJoin of %v, %v = %v, backward %v, want %v", a, b, got, back, want)
	}
	if clock := impl.VecJoin(impl.SibClock(a), impl.SibClock(b)); !sameVec(impl.SibClock(got), clock) || !impl.VecOk(clock) {
		t.Fatalf("SibJoin of %v, %v = %v, its clock %v, that of both %v", a, b, got, impl.SibClock(got), clock)
	}
	for _, list := range [][]impl.Sib{a, b, got} {
		if again := impl.SibJoin(got, list); !sameSibs(again, got) {
			t.Fatalf("SibJoin(%v, %v) = %v", got, list, again)
		}
	}
	return got
}

func TestSibsOk(t *testing.T) {
	good := append(sibsOver(vecsBelow(2), 5), nil, []impl.Sib{}, fourSibs())
	for _, v := range edgeVecs() {
		for _, val := range edgeVals {
			good = append(good, sibs(sib(val, v.V...)))
		}
	}
	for k := range fourSibs() {
		for _, val := range edgeVals {
			list := fourSibs()
			list[k].Val = val
			good = append(good, list)
		}
	}
	for _, list := range good {
		if !impl.SibsOk(list) {
			t.Errorf("SibsOk(%v) = false", list)
		}
	}
	for name, list := range badSibs() {
		if impl.SibsOk(list) {
			t.Errorf("%s: SibsOk(%v) = true", name, list)
		}
	}
}

// TestSibsOkOfTwo: of each two vectors, just where the first comes ahead of the second and neither is under the other; whatever the values.
func TestSibsOkOfTwo(t *testing.T) {
	all := append(vecsBelow(3), edgeVecs()...)
	told := 0
	for i, a := range all {
		for j, b := range all {
			want := slices.Compare(a.V, b.V) == -1 && impl.VecCmp(a, b) == 2
			if want {
				told++
			}
			list := sibs(sib(i%3, a.V...), sib(j%3, b.V...))
			if got := impl.SibsOk(list); got != want {
				t.Fatalf("SibsOk(%v) = %v", list, got)
			}
		}
	}
	if told < 500 || told > len(all)*len(all)/2 {
		t.Errorf("%d of %d were told", told, len(all)*len(all))
	}
}

// TestSibsOkOfThree: of each three vectors of noughts and ones.
func TestSibsOkOfThree(t *testing.T) {
	all := vecsBelow(2)
	for _, a := range all {
		for _, b := range all {
			for _, c := range all {
				checkSibs(t, sibs(sib(1, a.V...), sib(1, b.V...), sib(2, c.V...)))
			}
		}
	}
}

func TestSibClock(t *testing.T) {
	most := impl.MaxTick
	for name, x := range map[string]struct {
		list []impl.Sib
		want impl.Vec
	}{
		"none":           {nil, vec(0, 0, 0, 0)},
		"an empty list":  {[]impl.Sib{}, vec(0, 0, 0, 0)},
		"noughts":        {sibs(sib(5, 0, 0, 0, 0)), vec(0, 0, 0, 0)},
		"one":            {sibs(sib(5, 1, 0, 2, 9)), vec(1, 0, 2, 9)},
		"the most":       {sibs(sib(5, most, most, most, most)), vec(most, most, most, most)},
		"two":            {sibs(sib(5, 0, 2, 1, 0), sib(6, 1, 0, 2, 0)), vec(1, 2, 2, 0)},
		"four":           {fourSibs(), vec(2, 2, 3, 1)},
		"one the most":   {sibs(sib(5, 0, 0, 0, most), sib(5, 0, 0, 1, most-1), sib(5, most, 0, 0, 0)), vec(most, 0, 1, most)},
		"each its own":   {sibs(sib(5, 0, 0, 0, 4), sib(5, 0, 0, 3, 0), sib(5, 0, 2, 0, 0), sib(5, 1, 0, 0, 0)), vec(1, 2, 3, 4)},
		"the first most": {sibs(sib(5, 0, 9, 9, 9), sib(5, 1, 8, 8, 8), sib(5, 2, 7, 7, 7)), vec(2, 9, 9, 9)},
	} {
		if got := impl.SibClock(x.list); !sameVec(got, x.want) {
			t.Errorf("%s: SibClock(%v) = %v, want %v", name, x.list, got, x.want)
		}
		checkSibs(t, x.list)
	}
}

func TestSibVals(t *testing.T) {
	for name, x := range map[string]struct {
		vals []int
		want []int
	}{
		"rising":             {[]int{1, 2, 3, 4}, []int{1, 2, 3, 4}},
		"falling":            {[]int{4, 3, 2, 1}, []int{1, 2, 3, 4}},
		"all alike":          {[]int{5}, []int{5}},
		"all noughts":        {[]int{0}, []int{0}},
		"two by two":         {[]int{7, 3}, []int{3, 7}},
		"neighbours alike":   {[]int{7, 7, 3, 3}, []int{3, 7}},
		"the ends alike":     {[]int{7, 3, 9, 7}, []int{3, 7, 9}},
		"below nought":       {[]int{-1, 1, -2, 0}, []int{-2, -1, 0, 1}},
		"the most and least": {[]int{1000000, -1000000, 0, 1000000}, []int{-1000000, 0, 1000000}},
	} {
		list := valued(fourSibs(), x.vals...)
		if got := impl.SibVals(list); !slices.Equal(got, x.want) {
			t.Errorf("%s: SibVals(%v) = %v, want %v", name, list, got, x.want)
		}
	}
	for _, list := range [][]impl.Sib{nil, {}} {
		if got := impl.SibVals(list); len(got) != 0 {
			t.Errorf("SibVals of none = %v", got)
		}
	}
	for _, val := range edgeVals {
		if got := impl.SibVals(sibs(sib(val, 0, 0, 0, 0))); !slices.Equal(got, []int{val}) {
			t.Errorf("SibVals of one = %v, want %d", got, val)
		}
	}
}

func TestSibsOfMany(t *testing.T) {
	d := dice(1401)
	for i, list := range sibsOver(vecsBelow(2), 5) {
		checkSibs(t, valued(list, i%3, 2, 0))
	}
	long := 0
	for i := range 2000 {
		list := thrownSibs(&d, i%20)
		long = max(long, len(list))
		checkSibs(t, list)
		if len(list) > 1 {
			// Two of them change places, or one comes in place of another.
			i, j := d.below(len(list)), d.below(len(list))
			list[i], list[j] = list[j], list[i]
			checkSibs(t, list)
			list[i] = list[j]
			checkSibs(t, list)
		}
	}
	if long < 8 {
		t.Errorf("%d siblings in the longest list", long)
	}
}

func TestSibPut(t *testing.T) {
	most := impl.MaxTick
	for name, x := range map[string]struct {
		list []impl.Sib
		site int
		val  int
		want impl.Sib
	}{
		"to none":                        {nil, 0, 5, sib(5, 1, 0, 0, 0)},
		"to an empty list":               {[]impl.Sib{}, 2, 5, sib(5, 0, 0, 1, 0)},
		"at the last site":               {nil, impl.MaxSites - 1, 0, sib(0, 0, 0, 0, 1)},
		"MaxVal":                         {nil, 0, 1000000, sib(1000000, 1, 0, 0, 0)},
		"-MaxVal":                        {nil, 1, -1000000, sib(-1000000, 0, 1, 0, 0)},
		"over noughts":                   {sibs(sib(5, 0, 0, 0, 0)), 1, 6, sib(6, 0, 1, 0, 0)},
		"over one":                       {sibs(sib(5, 1, 0, 2, 0)), 0, 6, sib(6, 2, 0, 2, 0)},
		"over one, elsewhere":            {sibs(sib(5, 1, 0, 2, 0)), 3, 6, sib(6, 1, 0, 2, 1)},
		"over one with this value":       {sibs(sib(5, 1, 0, 2, 0)), 2, 5, sib(5, 1, 0, 3, 0)},
		"over one, the lesser value":     {sibs(sib(5, 1, 0, 2, 0)), 2, -5, sib(-5, 1, 0, 3, 0)},
		"over two":                       {sibs(sib(5, 0, 2, 1, 0), sib(6, 1, 0, 2, 0)), 3, 7, sib(7, 1, 2, 2, 1)},
		"over two, at the first's":       {sibs(sib(5, 0, 2, 1, 0), sib(6, 1, 0, 2, 0)), 1, 7, sib(7, 1, 3, 2, 0)},
		"over two, at the other's":       {sibs(sib(5, 0, 2, 1, 0), sib(6, 1, 0, 2, 0)), 0, 7, sib(7, 2, 2, 2, 0)},
		"over four":                      {fourSibs(), 2, 7, sib(7, 2, 2, 4, 1)},
		"up to the most":                 {sibs(sib(5, 0, most-1, 0, 0)), 1, 7, sib(7, 0, most, 0, 0)},
		"up to the most, of several":     {sibs(sib(5, 0, most-1, 0, 0), sib(5, 3, most-2, 0, 0)), 1, 7, sib(7, 3, most, 0, 0)},
		"the most elsewhere":             {sibs(sib(5, 0, most, 0, 0)), 0, 7, sib(7, 1, most, 0, 0)},
		"the most at all other places":   {sibs(sib(5, most, most, 0, most)), 2, 7, sib(7, most, most, 1, most)},
		"the most elsewhere, of several": {sibs(sib(5, 0, 0, 0, most), sib(5, most, 0, 0, 0)), 1, 7, sib(7, most, 1, 0, most)},
	} {
		if got := mustSibPut(t, x.list, x.site, x.val); len(got) != 1 || !sameSib(got[0], x.want) {
			t.Errorf("%s: SibPut(%v, %d, %d) = %v, want %v", name, x.list, x.site, x.val, got, x.want)
		}
	}
}

// TestSibPutNoTick: where the clock has the most already at the site, in whichever sibling, nothing is put there; elsewhere it is.
func TestSibPutNoTick(t *testing.T) {
	most := impl.MaxTick
	for name, list := range map[string][]impl.Sib{
		"one":                  sibs(sib(5, 0, most, 0, 0)),
		"all the most but one": sibs(sib(5, most, most, 0, most)),
		"in the first":         sibs(sib(5, 0, most, 0, 0), sib(5, 1, 0, 0, 0)),
		"in the last":          sibs(sib(5, 0, 1, 2, 0), sib(5, 0, most, 0, 0)),
		"in the one between":   sibs(sib(5, 0, 0, 9, 0), sib(5, 0, most, 0, 0), sib(5, 1, 7, 0, 0)),
		"in several":           sibs(sib(5, 0, most, 0, 1), sib(5, 0, most, 1, 0), sib(5, 1, most, 0, 0)),
	} {
		for site := range impl.MaxSites {
			_, ok := checkSibPut(t, list, site, 7)
			if want := sibClockBy(list).V[site] < most; ok != want {
				t.Errorf("%s: SibPut(%v, %d) is %v", name, list, site, ok)
			}
		}
		if got, ok := impl.SibPut(list, 1, 7); ok || len(got) != 0 {
			t.Errorf("%s: SibPut(%v, 1, 7) = %v, %v", name, list, got, ok)
		}
		mustSibPut(t, list, 2, 7)
	}
}

func TestSibPutOfMany(t *testing.T) {
	d := dice(1403)
	for i, list := range sibsOver(vecsBelow(2), 5) {
		for site := -1; site <= impl.MaxSites; site++ {
			checkSibPut(t, list, site, i)
		}
	}
	told := 0
	for i := range 3000 {
		if _, ok := checkSibPut(t, thrownSibs(&d, i%12), d.below(impl.MaxSites), d.below(2000001)-1000000); ok {
			told++
		}
	}
	if told < 2000 || told == 3000 {
		t.Errorf("%d of 3000 were told: too few of the one or the other", told)
	}
	for _, v := range edgeVecs() {
		for site := range impl.MaxSites {
			for _, val := range edgeVals {
				checkSibPut(t, sibs(sib(5, v.V...)), site, val)
			}
		}
	}
}

func TestSibJoin(t *testing.T) {
	four := fourSibs()
	for name, x := range map[string]struct{ a, b, want []impl.Sib }{
		"none":                            {nil, nil, nil},
		"one list is empty":               {four, nil, four},
		"noughts and none":                {sibs(sib(5, 0, 0, 0, 0)), nil, sibs(sib(5, 0, 0, 0, 0))},
		"noughts and one":                 {sibs(sib(5, 0, 0, 0, 0)), sibs(sib(6, 0, 0, 1, 0)), sibs(sib(6, 0, 0, 1, 0))},
		"noughts and several":             {sibs(sib(5, 0, 0, 0, 0)), four, four},
		"the same":                        {four, four, four},
		"side by side":                    {sibs(sib(5, 0, 1, 0, 0)), sibs(sib(6, 1, 0, 0, 0)), sibs(sib(5, 0, 1, 0, 0), sib(6, 1, 0, 0, 0))},
		"side by side with one value":     {sibs(sib(5, 0, 1, 0, 0)), sibs(sib(5, 1, 0, 0, 0)), sibs(sib(5, 0, 1, 0, 0), sib(5, 1, 0, 0, 0))},
		"each in turn":                    {sibs(four[0], four[2]), sibs(four[1], four[3]), four},
		"one list behind the other":       {four[2:], four[:2], four},
		"some in both":                    {four[:3], four[1:], four},
		"one is part of the other":        {four, four[1:3], four},
		"under one":                       {sibs(sib(5, 1, 0, 0, 0)), sibs(sib(6, 1, 1, 0, 0)), sibs(sib(6, 1, 1, 0, 0))},
		"under one with the lesser value": {sibs(sib(5, 1, 0, 0, 0)), sibs(sib(4, 2, 0, 0, 0)), sibs(sib(4, 2, 0, 0, 0))},
		"under one with this value":       {sibs(sib(5, 1, 0, 0, 0)), sibs(sib(5, 1, 0, 0, 1)), sibs(sib(5, 1, 0, 0, 1))},
		"under by the first number alone": {sibs(sib(5, 1, 2, 3, 4)), sibs(sib(6, 2, 2, 3, 4)), sibs(sib(6, 2, 2, 3, 4))},
		"under by the last number alone":  {sibs(sib(5, 1, 2, 3, 4)), sibs(sib(6, 1, 2, 3, 5)), sibs(sib(6, 1, 2, 3, 5))},
		"one under several":               {sibs(sib(5, 1, 0, 0, 0)), sibs(sib(6, 1, 0, 1, 0), sib(7, 1, 1, 0, 0), sib(8, 2, 0, 0, 0)), sibs(sib(6, 1, 0, 1, 0), sib(7, 1, 1, 0, 0), sib(8, 2, 0, 0, 0))},
		"several under one":               {sibs(sib(5, 0, 0, 1, 0), sib(6, 0, 1, 0, 0), sib(7, 1, 0, 0, 0)), sibs(sib(8, 1, 1, 1, 1)), sibs(sib(8, 1, 1, 1, 1))},
		"all but one under one":           {sibs(sib(5, 0, 0, 1, 0), sib(6, 0, 1, 0, 0), sib(7, 1, 0, 0, 0)), sibs(sib(8, 0, 1, 1, 1)), sibs(sib(8, 0, 1, 1, 1), sib(7, 1, 0, 0, 0))},
		"one of several under one":        {sibs(sib(5, 0, 0, 9, 0), sib(6, 0, 1, 0, 0), sib(7, 3, 0, 0, 0)), sibs(sib(8, 1, 1, 1, 1)), sibs(sib(5, 0, 0, 9, 0), sib(8, 1, 1, 1, 1), sib(7, 3, 0, 0, 0))},
		"one under one on either side":    {sibs(sib(5, 0, 1, 0, 0), sib(6, 2, 0, 0, 0)), sibs(sib(7, 0, 2, 0, 0), sib(8, 1, 0, 0, 0)), sibs(sib(7, 0, 2, 0, 0), sib(6, 2, 0, 0, 0))},
		"under, the same, and aside":      {sibs(sib(5, 0, 0, 0, 1), sib(6, 0, 2, 0, 0), sib(7, 1, 0, 0, 0)), sibs(sib(8, 0, 0, 1, 1), sib(9, 0, 1, 5, 0), sib(6, 0, 2, 0, 0)), sibs(sib(8, 0, 0, 1, 1), sib(9, 0, 1, 5, 0), sib(6, 0, 2, 0, 0), sib(7, 1, 0, 0, 0))},
		"one V, two Vals":                 {sibs(sib(5, 1, 0, 2, 0)), sibs(sib(4, 1, 0, 2, 0)), sibs(sib(4, 1, 0, 2, 0))},
		"one V, the most and the least":   {sibs(sib(1000000, 1, 0, 2, 0)), sibs(sib(-1000000, 1, 0, 2, 0)), sibs(sib(-1000000, 1, 0, 2, 0))},
		"one V, 0 and -1":                 {sibs(sib(0, 1, 0, 2, 0)), sibs(sib(-1, 1, 0, 2, 0)), sibs(sib(-1, 1, 0, 2, 0))},
		"one V of noughts":                {sibs(sib(5, 0, 0, 0, 0)), sibs(sib(6, 0, 0, 0, 0)), sibs(sib(5, 0, 0, 0, 0))},
		"all V, two Vals":                 {valued(four, 1, 9), valued(four, 3, 3, 0, 9), valued(four, 1, 3, 0, 9)},
		"one V, two Vals, between":        {sibs(four[0], sib(-3, 0, 2, 1, 0), four[3]), sibs(four[1], four[2]), sibs(four[0], sib(-3, 0, 2, 1, 0), four[2], four[3])},
		"one V, two Vals, beside others":  {sibs(sib(9, 0, 2, 1, 0), four[2]), sibs(four[0], sib(-3, 0, 2, 1, 0)), sibs(four[0], sib(-3, 0, 2, 1, 0), four[2])},
		"the most":                        {sibs(sib(5, impl.MaxTick, 0, 0, 0)), sibs(sib(6, impl.MaxTick, 0, 0, impl.MaxTick)), sibs(sib(6, impl.MaxTick, 0, 0, impl.MaxTick))},
		"the most, side by side":          {sibs(sib(5, impl.MaxTick, 0, 0, 0)), sibs(sib(6, impl.MaxTick-1, 0, 0, 1)), sibs(sib(6, impl.MaxTick-1, 0, 0, 1), sib(5, impl.MaxTick, 0, 0, 0))},
	} {
		for _, ab := range [][2][]impl.Sib{{x.a, x.b}, {x.b, x.a}} {
			if got := checkSibJoin(t, ab[0], ab[1]); !sameSibs(got, x.want) {
				t.Errorf("%s: SibJoin(%v, %v) = %v, want %v", name, ab[0], ab[1], got, x.want)
			}
		}
	}
}

// TestSibJoinOfOneEach: of each two vectors: what is under the other goes, of one vector the lesser value stays, all else stays side by side, in order.
func TestSibJoinOfOneEach(t *testing.T) {
	for _, a := range append(vecsBelow(3), edgeVecs()...) {
		for _, b := range append(vecsBelow(3), edgeVecs()...) {
			x, y := sib(6, a.V...), sib(5, b.V...)
			want := sibs(x, y)
			switch impl.VecCmp(a, b) {
			case 0, -1:
				want = sibs(y)
			case 1:
				want = sibs(x)
			case 2:
				if slices.Compare(a.V, b.V) > 0 {
					want = sibs(y, x)
				}
			}
			got, back := impl.SibJoin(sibs(x), sibs(y)), impl.SibJoin(sibs(y), sibs(x))
			if !sameSibs(got, want) || !sameSibs(back, want) {
				t.Fatalf("SibJoin of %v, %v = %v, backward %v, want %v", x, y, got, back, want)
			}
		}
	}
}

// TestSibJoinWhicheverFirst: promise 14, of each two of all lists of noughts and ones, of all lists of a few vectors with either of two values, and of thrown ones.
func TestSibJoinWhicheverFirst(t *testing.T) {
	all := sibsOver(vecsBelow(2), 5)
	if len(all) != 168 {
		t.Errorf("%d lists", len(all))
	}
	for i, a := range all {
		if got := impl.SibJoin(a, a); !sameSibs(got, a) {
			t.Fatalf("SibJoin(%v, itself) = %v", a, got)
		}
		for _, b := range all {
			checkSibJoin(t, a, valued(b, 5, 4+i%3))
		}
	}
	few := sibsOver(fewVecs(3, 3), 3, 7)
	for _, a := range few {
		for _, b := range few {
			checkSibJoin(t, a, b)
		}
	}
	d := dice(1405)
	for i := range 3000 {
		a, b := thrownSibs(&d, i%16), thrownSibs(&d, (i/7)%16)
		got := checkSibJoin(t, a, b)
		checkSibs(t, got)
		checkSibJoin(t, got, valued(got, 0, -1, 1))
	}
}

// TestSibJoinOfThree: promise 14, of each three of all lists of a few vectors with either of two values, and of thrown ones, in each order.
func TestSibJoinOfThree(t *testing.T) {
	check := func(a []impl.Sib, b []impl.Sib, c []impl.Sib) {
		t.Helper()
		want := impl.SibJoin(impl.SibJoin(a, b), c)
		for _, got := range [][]impl.Sib{impl.SibJoin(a, impl.SibJoin(b, c)), impl.SibJoin(impl.SibJoin(c, a), b), impl.SibJoin(c, impl.SibJoin(b, a)), impl.SibJoin(impl.SibJoin(b, c), impl.SibJoin(a, b))} {
			if !sameSibs(got, want) {
				t.Fatalf("of %v, %v, %v: SibJoin = %v and %v", a, b, c, got, want)
			}
		}
	}
	for _, all := range [][][]impl.Sib{sibsOver(fewVecs(2, 3), 3, 7), sibsOver(fewVecs(3, 3), 5)} {
		for _, a := range all {
			for _, b := range all {
				for _, c := range all {
					check(a, b, c)
				}
			}
		}
	}
	d := dice(1407)
	for i := range 2000 {
		a, b, c := thrownSibs(&d, i%12), thrownSibs(&d, (i/3)%12), thrownSibs(&d, (i/7)%12)
		check(a, b, c)
		if got, want := impl.SibJoin(impl.SibJoin(a, b), c), sibJoinBy(sibJoinBy(a, b), c); !sameSibs(got, want) {
			t.Fatalf("of %v, %v, %v: SibJoin = %v, want %v", a, b, c, got, want)
		}
	}
}

// TestSibsAtOnce: promise 14: what was written at once, from what is the same, stays side by side, with each value; what is written behind their join is above all of them, and they go.
func TestSibsAtOnce(t *testing.T) {
	for i, start := range sibsOver(vecsBelow(2), 5) {
		var all []impl.Sib
		for site := range impl.MaxSites {
			put := mustSibPut(t, start, site, 10*site+i)
			next := checkSibJoin(t, all, put)
			if len(next) != site+1 || !slices.ContainsFunc(next, func(s impl.Sib) bool { return sameSib(s, put[0]) }) {
				t.Fatalf("from %v: %v put to %v: %v", start, put, all, next)
			}
			all = next
		}
		if got := impl.SibVals(all); !slices.Equal(got, []int{i, 10 + i, 20 + i, 30 + i}) {
			t.Fatalf("from %v: %v, with %v", start, all, got)
		}
		if got := checkSibJoin(t, all, start); !sameSibs(got, all) {
			t.Fatalf("%v was written over, but comes back: %v", start, got)
		}
		for site := range impl.MaxSites {
			over := mustSibPut(t, all, site, 99)
			if got := checkSibJoin(t, over, all); !sameSibs(got, over) || len(got) != 1 {
				t.Fatalf("%v put over %v: %v", over, all, got)
			}
		}
	}
}

// TestSibsUnseenStay: promise 14: who writes over some of the siblings, and has not seen the others, leaves the others.
func TestSibsUnseenStay(t *testing.T) {
	for i, seen := range sibsOver(fewVecs(3, 3), 3, 7) {
		for _, unseen := range sibsOver(fewVecs(3, 3), 4) {
			site := i % impl.MaxSites
			over := mustSibPut(t, seen, site, 9)
			all := checkSibJoin(t, seen, unseen)
			got := checkSibJoin(t, all, over)
			for _, s := range all {
				gone := impl.VecCmp(vec(s.V...), vec(over[0].V...)) == -1
				stays := slices.ContainsFunc(got, func(o impl.Sib) bool { return slices.Equal(o.V, s.V) })
				if gone == stays && !slices.Equal(s.V, over[0].V) {
					t.Fatalf("%v, of which %v were seen, written over by %v: %v", all, seen, over, got)
				}
			}
			if !sameSibs(got, checkSibJoin(t, unseen, over)) {
				t.Fatalf("%v, of which %v were seen, written over by %v: %v", all, seen, over, got)
			}
		}
	}
}

// TestSibsPutTwiceAtOneSite: two that one site wrote from what is the same have one vector: in one list they are not SibsOk, of two lists the lesser value stays.
func TestSibsPutTwiceAtOneSite(t *testing.T) {
	for i, start := range sibsOver(vecsBelow(2), 5) {
		site := i % impl.MaxSites
		for _, vals := range [][2]int{{6, 7}, {7, 6}, {6, 6}, {-1, 0}, {1000000, -1000000}} {
			one, other := mustSibPut(t, start, site, vals[0]), mustSibPut(t, start, site, vals[1])
			if list := slices.Concat(one, other); impl.SibsOk(list) {
				t.Fatalf("SibsOk(%v) = true", list)
			}
			got := checkSibJoin(t, one, other)
			if len(got) != 1 || got[0].Val != min(vals[0], vals[1]) || !slices.Equal(got[0].V, one[0].V) {
				t.Fatalf("SibJoin(%v, %v) = %v", one, other, got)
			}
		}
	}
}

// TestSibsOfCourses: promise 14: sites write over what they have, and take in what others told, late, doubled, in any order or never: each has just those values that it knows and knows nobody to have written over; and when all have seen all, all have the same.
func TestSibsOfCourses(t *testing.T) {
	type told struct {
		list  []impl.Sib
		known uint64
	}
	d := dice(1409)
	aside, alone := 0, 0
	for range 300 {
		var sites [impl.MaxSites]told
		var sent []told
		// Of each value what its site knew when it wrote it: bit k says that it knew k.
		var past []uint64
		for range 60 {
			at := d.below(impl.MaxSites)
			s := &sites[at]
			switch {
			case d.below(4) == 0 && len(past) < 40:
				s.list = mustSibPut(t, s.list, at, len(past))
				past = append(past, s.known)
				s.known |= 1 << (len(past) - 1)
			case d.below(2) == 0 || len(sent) == 0:
				sent = append(sent, *s)
			default:
				m := sent[d.below(len(sent))]
				s.list = checkSibJoin(t, s.list, m.list)
				s.known |= m.known
			}
			var over uint64
			for k, knew := range past {
				if s.known>>k&1 == 1 {
					over |= knew
				}
			}
			var want []int
			for k := range past {
				if s.known>>k&1 == 1 && over>>k&1 == 0 {
					want = append(want, k)
				}
			}
			if got := impl.SibVals(s.list); !slices.Equal(got, want) || len(s.list) != len(want) {
				t.Fatalf("site %d has %v, with %v, want %v", at, s.list, got, want)
			}
			if len(want) > 1 {
				aside++
			} else {
				alone++
			}
		}
		all := append(slices.Clone(sent), sites[:]...)
		var ends [][]impl.Sib
		for range 4 {
			var end []impl.Sib
			for i := range all {
				j := i + d.below(len(all)-i)
				all[i], all[j] = all[j], all[i]
				end = impl.SibJoin(end, all[i].list)
			}
			ends = append(ends, end)
		}
		for _, end := range ends {
			if !sameSibs(end, ends[0]) {
				t.Fatalf("when all have seen all: %v and %v", end, ends[0])
			}
		}
	}
	if aside < 2000 || alone < 2000 {
		t.Errorf("%d times values stood side by side, %d times not: too few to tell", aside, alone)
	}
}

// TestSibsWrong: of a list that is not SibsOk, as the one argument, the other, or both.
func TestSibsWrong(t *testing.T) {
	good := [][]impl.Sib{nil, {}, sibs(sib(5, 0, 0, 0, 0)), sibs(sib(5, 9, 9, 9, 9)), fourSibs()}
	all := badSibs()
	for name, bad := range all {
		for _, list := range good {
			for _, x := range [][2][]impl.Sib{{bad, list}, {list, bad}, {bad, bad}} {
				if got := impl.SibJoin(x[0], x[1]); len(got) != 0 {
					t.Errorf("%s: SibJoin(%v, %v) = %v", name, x[0], x[1], got)
				}
			}
		}
		for other, worse := range all {
			if got := impl.SibJoin(bad, worse); len(got) != 0 {
				t.Errorf("%s, %s: SibJoin = %v", name, other, got)
			}
		}
		if got := impl.SibVals(bad); len(got) != 0 {
			t.Errorf("%s: SibVals(%v) = %v", name, bad, got)
		}
		if got := impl.SibClock(bad); len(got.V) != 0 {
			t.Errorf("%s: SibClock(%v) = %v", name, bad, got)
		}
		for site := -1; site <= impl.MaxSites; site++ {
			for _, val := range slices.Concat(edgeVals, badVals) {
				if got, ok := impl.SibPut(bad, site, val); ok || len(got) != 0 {
					t.Errorf("%s: SibPut(%v, %d, %d) = %v, %v", name, bad, site, val, got, ok)
				}
			}
		}
	}
}

// TestSibPutWrong: what is no site, or no value, is put to no list.
func TestSibPutWrong(t *testing.T) {
	for _, list := range [][]impl.Sib{nil, {}, sibs(sib(5, 0, 0, 0, 0)), fourSibs(), sibs(sib(5, 0, impl.MaxTick, 0, 0))} {
		for _, site := range badSites {
			for _, val := range slices.Concat(edgeVals, badVals) {
				if got, ok := impl.SibPut(list, site, val); ok || len(got) != 0 {
					t.Errorf("SibPut(%v, %d, %d) = %v, %v", list, site, val, got, ok)
				}
			}
		}
		for site := range impl.MaxSites {
			for _, val := range badVals {
				if got, ok := impl.SibPut(list, site, val); ok || len(got) != 0 {
					t.Errorf("SibPut(%v, %d, %d) = %v, %v", list, site, val, got, ok)
				}
			}
		}
		for _, val := range edgeVals {
			mustSibPut(t, list, 0, val)
			mustSibPut(t, list, impl.MaxSites-1, val)
		}
	}
}

func TestSibsOfVeryMany(t *testing.T) {
	const n = 1500
	var low, high []impl.Sib
	for i := range n {
		low = append(low, sib(i%10, i, 0, 2*(n-i), 7))
		high = append(high, sib(i%7, i, i%2, 2*(n-i), 7))
	}
	got := impl.SibJoin(low, high)
	if !sameSibs(impl.SibJoin(high, low), got) || len(got) != n || !impl.SibsOk(got) {
		t.Fatalf("%d siblings", len(got))
	}
	for i, s := range got {
		val := i % 7
		if i%2 == 0 {
			val = min(i%7, i%10)
		}
		if !sameSib(s, sib(val, high[i].V...)) {
			t.Fatalf("%v at %d", s, i)
		}
	}
	if vals := impl.SibVals(got); !slices.Equal(vals, []int{0, 1, 2, 3, 4, 5, 6}) {
		t.Errorf("values %v", vals)
	}
	over := mustSibPut(t, got, 3, 8)
	if !sameSibs(over, sibs(sib(8, n-1, 1, 2*n, 8))) {
		t.Errorf("put over all: %v", over)
	}
	if last := append(copySibs(got), sib(1, n, 1, 2*n, 7)); impl.SibsOk(last) {
		t.Error("the first ones are under the last, but SibsOk")
	}
}

// roomySibs: the siblings, with spare room behind each of their lists; behind the last of them lie ones above them all.
func roomySibs(list []impl.Sib) []impl.Sib {
	var out []impl.Sib
	for _, s := range list {
		out = append(out, sib(s.Val, roomyNums(s.V)...))
	}
	return append(out, sib(88, 900, 900, 900, 900), sib(99, 990, 990, 990, 990))[:len(list)]
}

// wholeSibs: copies of all lists of the siblings, and of all that lies behind them.
func wholeSibs(list []impl.Sib) []impl.Sib {
	out := slices.Clone(list[:cap(list)])
	for i := range out {
		out[i].V = wholeNums(out[i].V)
	}
	return out
}

func spoilSibs(list []impl.Sib) {
	list = list[:cap(list)]
	for i := range list {
		spoilPlaces(list[i].V)
		list[i] = sib(-7, -7, -7, -7, -7)
	}
}

// sibCalls: each that answers siblings, of what it takes and of what it refuses; and the clock, as if it were one.
func sibCalls() map[string]func(a []impl.Sib, b []impl.Sib) []impl.Sib {
	told := func(list []impl.Sib, _ bool) []impl.Sib { return list }
	wrong := func(list []impl.Sib) []impl.Sib { return slices.Concat(list, sibs(sib(5, 1, 0))) }
	return map[string]func(a []impl.Sib, b []impl.Sib) []impl.Sib{
		"SibJoin":              impl.SibJoin,
		"SibJoin, turned":      func(a []impl.Sib, b []impl.Sib) []impl.Sib { return impl.SibJoin(b, a) },
		"SibJoin of one":       func(a []impl.Sib, b []impl.Sib) []impl.Sib { return impl.SibJoin(a, a) },
		"SibJoin and none":     func(a []impl.Sib, b []impl.Sib) []impl.Sib { return impl.SibJoin(a, nil) },
		"SibJoin to none":      func(a []impl.Sib, b []impl.Sib) []impl.Sib { return impl.SibJoin(nil, b) },
		"SibJoin of wrong":     func(a []impl.Sib, b []impl.Sib) []impl.Sib { return impl.SibJoin(wrong(a), b) },
		"SibJoin of the first": func(a []impl.Sib, b []impl.Sib) []impl.Sib { return impl.SibJoin(a[:min(1, len(a))], b) },
		"SibPut":               func(a []impl.Sib, b []impl.Sib) []impl.Sib { return told(impl.SibPut(a, 1, 5)) },
		"SibPut to other":      func(a []impl.Sib, b []impl.Sib) []impl.Sib { return told(impl.SibPut(b, 3, -5)) },
		"SibPut nowhere":       func(a []impl.Sib, b []impl.Sib) []impl.Sib { return told(impl.SibPut(a, 4, 5)) },
		"SibPut to wrong":      func(a []impl.Sib, b []impl.Sib) []impl.Sib { return told(impl.SibPut(wrong(a), 0, 5)) },
		"SibClock":             func(a []impl.Sib, b []impl.Sib) []impl.Sib { return sibs(sib(0, impl.SibClock(a).V...)) },
		"SibClock of other":    func(a []impl.Sib, b []impl.Sib) []impl.Sib { return sibs(sib(0, impl.SibClock(b).V...)) },
		"SibClock of wrong":    func(a []impl.Sib, b []impl.Sib) []impl.Sib { return sibs(sib(0, impl.SibClock(wrong(a)).V...)) },
		"SibClock of the first": func(a []impl.Sib, b []impl.Sib) []impl.Sib {
			return sibs(sib(0, impl.SibClock(a[:min(1, len(a))]).V...))
		},
	}
}

// sibPairs: twos of lists, of which each has its own, or some under the other's, or the same; in the last ones they share their lists.
func sibPairs() [][2][]impl.Sib {
	four := fourSibs()
	room := []int{0, 0, 3, 1, 0, 0, 2}
	shared := sibs(sib(5, room[0:4]...), sib(6, room[1:5]...), sib(7, room[2:6]...))
	return [][2][]impl.Sib{
		{nil, nil},
		{nil, fourSibs()},
		{fourSibs(), fourSibs()},
		{fourSibs(), valued(fourSibs(), 0, 9)},
		{sibs(sib(5, 0, 1, 0, 0), sib(6, 2, 0, 0, 0)), sibs(sib(7, 0, 2, 0, 0), sib(8, 1, 0, 0, 0))},
		{sibs(sib(5, 0, 0, 1, 0), sib(6, 0, 1, 0, 0), sib(7, 1, 0, 0, 0)), sibs(sib(8, 1, 1, 1, 1))},
		{four, four},
		{four[:2], four[1:3]},
		{four[:3], four[2:]},
		{shared[:1], shared[1:2]},
		{shared[2:], shared[:1]},
	}
}

// TestSibsLeaveArguments: neither arguments nor the room behind them are written by a call, or by what is done to its answer; and what lies in that room changes no answer, and is not handed out.
func TestSibsLeaveArguments(t *testing.T) {
	for _, x := range sibPairs() {
		for name, call := range sibCalls() {
			a, b := roomySibs(x[0]), roomySibs(x[1])
			wholeA, wholeB := wholeSibs(a), wholeSibs(b)
			got := call(a, b)
			if want := call(copySibs(x[0]), copySibs(x[1])); !sameSibs(got, want) {
				t.Errorf("%s of %v: what lies behind a list is read: %v, want %v", name, x, got, want)
			}
			for i, s := range got[:cap(got)] {
				behind := slices.ContainsFunc(s.V[len(s.V):cap(s.V)], func(n int) bool { return n != 0 })
				if behind || i >= len(got) && !sameSib(s, impl.Sib{}) {
					t.Errorf("%s of %v: what lies behind a list is handed out: %v", name, x, wholeSibs(got))
				}
			}
			vals := impl.SibVals(a)
			if !impl.SibsOk(a) || !impl.SibsOk(b) || !slices.Equal(vals, sibValsBy(x[0])) {
				t.Errorf("of %v: what lies behind a list is read", x)
			}
			spoilPlaces(vals)
			spoilSibs(got)
			if !sameSibs(wholeSibs(a), wholeA) || !sameSibs(wholeSibs(b), wholeB) {
				t.Errorf("%s of %v: written into an argument: %v, %v", name, x, wholeSibs(a), wholeSibs(b))
			}
			one, other := copySibs(x[0]), copySibs(x[1])
			spoilSibs(call(x[0], x[1]))
			if !sameSibs(x[0], one) || !sameSibs(x[1], other) {
				t.Fatalf("%s: written into an argument: %v, was %v, %v", name, x, one, other)
			}
		}
	}
	short := sibs(sib(5, append(make([]int, 0, 8), 1, 0, 2, 0)[:3]...))
	if got, ok := impl.SibPut(short, 0, 5); impl.SibsOk(short) || ok || len(got) != 0 || len(impl.SibClock(short).V) != 0 {
		t.Errorf("what lies behind a list is read: %v", short)
	}
}

// TestSibsLeaveWrong: also an argument that is refused stays as it is, in whatever order it is.
func TestSibsLeaveWrong(t *testing.T) {
	for name, bad := range badSibs() {
		was := copySibs(bad)
		impl.SibsOk(bad)
		impl.SibVals(bad)
		impl.SibClock(bad)
		impl.SibPut(bad, 1, 5)
		impl.SibJoin(bad, fourSibs())
		impl.SibJoin(fourSibs(), bad)
		if !sameSibs(bad, was) {
			t.Errorf("%s: written into an argument: %v, was %v", name, bad, was)
		}
	}
}

// TestSibsNewMemory: no two lists of an answer share any, also where those of the siblings do; nor do those of two answers.
func TestSibsNewMemory(t *testing.T) {
	for _, x := range sibPairs() {
		for name, call := range sibCalls() {
			want := copySibs(call(x[0], x[1]))
			for i := range want {
				got := call(x[0], x[1])
				spoilPlaces(got[i].V)
				for j := range got {
					if j != i && !sameSib(got[j], want[j]) {
						t.Errorf("%s of %v: lists %d and %d of the answer share memory", name, x, i, j)
					}
				}
			}
			first := call(x[0], x[1])
			spoilSibs(call(x[0], x[1]))
			if again := call(x[0], x[1]); !sameSibs(first, want) || !sameSibs(again, want) {
				t.Errorf("%s of %v: two answers share memory: %v, %v, want %v", name, x, first, again, want)
			}
		}
		want := sibValsBy(x[0])
		first := impl.SibVals(x[0])
		spoilPlaces(impl.SibVals(x[0]))
		if again := impl.SibVals(x[0]); !slices.Equal(first, want) || !slices.Equal(again, want) {
			t.Errorf("SibVals of %v: two answers share memory: %v, %v, want %v", x[0], first, again, want)
		}
	}
}

// TestSibsSameEachTime: no call keeps anything for another one.
func TestSibsSameEachTime(t *testing.T) {
	d := dice(1411)
	a, b := fourSibs(), sibs(sib(1, 0, 0, 3, 1), sib(2, 0, 5, 0, 0), sib(3, 1, 1, 1, 1))
	want, clock := sibJoinBy(a, b), sibClockBy(a)
	for i := range 200 {
		list := thrownSibs(&d, i%12)
		impl.SibPut(list, d.below(5), d.below(9))
		impl.SibJoin(list, a)
		impl.SibClock(list)
		if got := impl.SibJoin(a, b); !sameSibs(got, want) || !sameVec(impl.SibClock(a), clock) {
			t.Fatalf("SibJoin(%v, %v) = %v, then %v", a, b, want, got)
		}
		mustSibPut(t, a, d.below(impl.MaxSites), 5)
	}
}
