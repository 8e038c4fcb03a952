package tests

import (
	"math"
	"slices"
	"strconv"
	"testing"

	"loop.example/g00579/impl"
)

// counter: one whose Up are the first MaxSites numbers, whose Down those behind them.
func counter(ns ...int) impl.Counter {
	return impl.Counter{Up: slices.Clone(ns[:impl.MaxSites]), Down: slices.Clone(ns[impl.MaxSites:])}
}

func noughts() impl.Counter {
	return counter(0, 0, 0, 0, 0, 0, 0, 0)
}

func copyCounter(c impl.Counter) impl.Counter {
	return impl.Counter{Up: slices.Clone(c.Up), Down: slices.Clone(c.Down)}
}

func sameCounter(a impl.Counter, b impl.Counter) bool {
	return slices.Equal(a.Up, b.Up) && slices.Equal(a.Down, b.Down)
}

func isNothing(c impl.Counter) bool {
	return sameCounter(c, impl.Counter{})
}

// countersBelow: each counter of numbers below n.
func countersBelow(n int) []impl.Counter {
	var all []impl.Counter
	for _, up := range vecsBelow(n) {
		for _, down := range vecsBelow(n) {
			all = append(all, impl.Counter{Up: slices.Clone(up.V), Down: slices.Clone(down.V)})
		}
	}
	return all
}

// edgeCounters: counters with the numbers that the document names at each place of Up and of Down.
func edgeCounters() []impl.Counter {
	all := []impl.Counter{noughts(), counter(1, 2, 3, 4, 8, 7, 6, 5), counter(4, 3, 2, 1, 5, 6, 7, 8)}
	for _, n := range []int{1, impl.MaxCount - 1, impl.MaxCount} {
		all = append(all, counter(n, n, n, n, n, n, n, n), counter(n, n, n, n, 0, 0, 0, 0), counter(0, 0, 0, 0, n, n, n, n))
		for i := range impl.MaxSites {
			up, down := noughts(), noughts()
			up.Up[i], down.Down[i] = n, n
			all = append(all, up, down)
		}
	}
	return all
}

func someCounters() []impl.Counter {
	return append(countersBelow(2), edgeCounters()...)
}

// badLists: what neither Up nor Down may be.
func badLists() map[string][]int {
	bad := map[string][]int{
		"nil":                 nil,
		"none":                {},
		"one number":          {1},
		"one too few":         {1, 0, 2},
		"one too few of room": []int{1, 0, 2, 0}[:3],
		"one too many":        {1, 0, 2, 0, 0},
		"twice as many":       {1, 0, 2, 0, 1, 0, 2, 0},
	}
	for _, n := range []int{-1, impl.MaxCount + 1, math.MinInt, math.MaxInt, -impl.MaxCount, 2 * impl.MaxCount} {
		for i := range impl.MaxSites {
			list := []int{1, 0, 2, 0}
			list[i] = n
			bad[strconv.Itoa(n)+" at "+strconv.Itoa(i)] = list
		}
	}
	return bad
}

// badCounters: counters that are not CounterOk: in Up, in Down, in both.
func badCounters() map[string]impl.Counter {
	bad := map[string]impl.Counter{
		"all in Up":               {Up: []int{1, 0, 2, 0, 0, 3, 0, 0}},
		"all in Down":             {Down: []int{1, 0, 2, 0, 0, 3, 0, 0}},
		"one of Up is in Down":    {Up: []int{1, 0, 2}, Down: []int{0, 0, 3, 0, 0}},
		"one of Down is in Up":    {Up: []int{1, 0, 2, 0, 0}, Down: []int{3, 0, 0}},
		"too much and too little": {Up: []int{impl.MaxCount + 1, 0, 0, 0}, Down: []int{-1, 0, 0, 0}},
	}
	for name, list := range badLists() {
		bad[name+" in Up"] = impl.Counter{Up: list, Down: []int{0, 3, 0, 1}}
		bad[name+" in Down"] = impl.Counter{Up: []int{0, 3, 0, 1}, Down: list}
		bad[name+" in both"] = impl.Counter{Up: list, Down: slices.Clone(list)}
	}
	return bad
}

// addedBy, joinedBy, valueBy, atMostBy: by the words of the chapter, number by number, of counters that are CounterOk.
func addedBy(c impl.Counter, site int, n int) (impl.Counter, bool) {
	if site < 0 || site > 3 || n < -1000000000 || n > 1000000000 {
		return impl.Counter{}, false
	}
	out := copyCounter(c)
	if n >= 0 {
		out.Up[site] += n
	} else {
		out.Down[site] += -n
	}
	if out.Up[site] > 1000000000 || out.Down[site] > 1000000000 {
		return impl.Counter{}, false
	}
	return out, true
}

func joinedBy(a impl.Counter, b impl.Counter) impl.Counter {
	return impl.Counter{Up: joinedVec(vec(a.Up...), vec(b.Up...)).V, Down: joinedVec(vec(a.Down...), vec(b.Down...)).V}
}

func valueBy(c impl.Counter) int {
	n := 0
	for _, up := range c.Up {
		n += up
	}
	for _, down := range c.Down {
		n -= down
	}
	return n
}

func atMostBy(a impl.Counter, b impl.Counter) bool {
	for i := range a.Up {
		if a.Up[i] > b.Up[i] || a.Down[i] > b.Down[i] {
			return false
		}
	}
	return true
}

// checkAdd: what is told is what the words of the chapter say; where it is told, its value is n more, and nothing fell.
func checkAdd(t *testing.T, c impl.Counter, site int, n int) impl.Counter {
	t.Helper()
	got, ok := impl.CounterAdd(c, site, n)
	if want, is := addedBy(c, site, n); ok != is || !sameCounter(got, want) {
		t.Fatalf("CounterAdd(%v, %d, %d) = %v, %v, want %v, %v", c, site, n, got, ok, want, is)
	}
	if !ok {
		return got
	}
	if !impl.CounterOk(got) || impl.CounterValue(got) != impl.CounterValue(c)+n || !impl.CounterLeq(c, got) {
		t.Fatalf("CounterAdd(%v, %d, %d) = %v, of value %d, behind one of %d", c, site, n, got, impl.CounterValue(got), impl.CounterValue(c))
	}
	return got
}

func mustAdd(t *testing.T, c impl.Counter, site int, n int) impl.Counter {
	t.Helper()
	got := checkAdd(t, c, site, n)
	if isNothing(got) {
		t.Fatalf("CounterAdd(%v, %d, %d) told nothing", c, site, n)
	}
	return got
}

func TestCounterOk(t *testing.T) {
	if impl.MaxCount != 1000000000 {
		t.Errorf("MaxCount = %d", impl.MaxCount)
	}
	for _, c := range someCounters() {
		if !impl.CounterOk(c) {
			t.Errorf("CounterOk(%v) = false", c)
		}
	}
	for name, c := range badCounters() {
		if impl.CounterOk(c) {
			t.Errorf("%s: CounterOk(%v) = true", name, c)
		}
	}
	for up := range 10 {
		for down := range 10 {
			c := impl.Counter{Up: make([]int, up), Down: make([]int, down)}
			if got := impl.CounterOk(c); got != (up == 4 && down == 4) {
				t.Errorf("%d and %d noughts: CounterOk = %v", up, down, got)
			}
		}
	}
}

func TestCounterAdd(t *testing.T) {
	c, most := counter(1, 0, 2, 0, 0, 3, 0, 0), impl.MaxCount
	for name, x := range map[string]struct {
		c       impl.Counter
		site, n int
		want    impl.Counter
	}{
		"to noughts":             {noughts(), 0, 5, counter(5, 0, 0, 0, 0, 0, 0, 0)},
		"below 0, to noughts":    {noughts(), 0, -5, counter(0, 0, 0, 0, 5, 0, 0, 0)},
		"0":                      {c, 1, 0, c},
		"0 to noughts":           {noughts(), 3, 0, noughts()},
		"1":                      {c, 0, 1, counter(2, 0, 2, 0, 0, 3, 0, 0)},
		"-1":                     {c, 1, -1, counter(1, 0, 2, 0, 0, 4, 0, 0)},
		"beside what went down":  {c, 1, 7, counter(1, 7, 2, 0, 0, 3, 0, 0)},
		"beside what went up":    {c, 2, -7, counter(1, 0, 2, 0, 0, 3, 7, 0)},
		"as much as went up":     {c, 2, -2, counter(1, 0, 2, 0, 0, 3, 2, 0)},
		"the last place":         {c, 3, 4, counter(1, 0, 2, 4, 0, 3, 0, 0)},
		"below 0, at the last":   {c, 3, -4, counter(1, 0, 2, 0, 0, 3, 0, 4)},
		"MaxCount":               {c, 3, most, counter(1, 0, 2, most, 0, 3, 0, 0)},
		"-MaxCount":              {c, 0, -most, counter(1, 0, 2, 0, most, 3, 0, 0)},
		"MaxCount just":          {c, 0, most - 1, counter(most, 0, 2, 0, 0, 3, 0, 0)},
		"MaxCount just, below 0": {c, 1, 3 - most, counter(1, 0, 2, 0, 0, most, 0, 0)},
		"Down is full":           {counter(0, 0, 0, 0, 0, most, 0, 0), 1, most, counter(0, most, 0, 0, 0, most, 0, 0)},
		"Up is full":             {counter(0, most, 0, 0, 0, 0, 0, 0), 1, -most, counter(0, most, 0, 0, 0, most, 0, 0)},
		"0 to what is full":      {counter(most, most, most, most, most, most, most, most), 2, 0, counter(most, most, most, most, most, most, most, most)},
	} {
		if got := mustAdd(t, x.c, x.site, x.n); !sameCounter(got, x.want) {
			t.Errorf("%s: CounterAdd(%v, %d, %d) = %v, want %v", name, x.c, x.site, x.n, got, x.want)
		}
	}
}

func TestCounterAddOfMany(t *testing.T) {
	most := impl.MaxCount
	sites := []int{-1, 0, 1, 2, 3, 4, 5, math.MinInt, math.MaxInt}
	ns := []int{0, 1, -1, 2, -2, 999, most - 1, 1 - most, most, -most, most + 1, -most - 1, 2 * most, math.MinInt, math.MinInt + 1, math.MaxInt}
	for _, c := range someCounters() {
		for _, site := range sites {
			for _, n := range ns {
				checkAdd(t, c, site, n)
			}
		}
	}
}

// TestCounterAddToTheMost: a sum that comes to MaxCount just is told, one more is not, in Up and in Down, at each site, whatever the other numbers are.
func TestCounterAddToTheMost(t *testing.T) {
	most := impl.MaxCount
	for site := range impl.MaxSites {
		for _, other := range []int{0, 5, most} {
			for _, had := range []int{0, 1, 2, most / 2, most - 1, most} {
				up := counter(other, other, other, other, other, other, other, other)
				down := copyCounter(up)
				up.Up[site], down.Down[site] = had, had
				if got := mustAdd(t, up, site, most-had); got.Up[site] != most || got.Down[site] != other {
					t.Errorf("CounterAdd(%v, %d, %d) = %v", up, site, most-had, got)
				}
				if got := mustAdd(t, down, site, had-most); got.Down[site] != most || got.Up[site] != other {
					t.Errorf("CounterAdd(%v, %d, %d) = %v", down, site, had-most, got)
				}
				for _, beyond := range []int{most - had + 1, most - had + 2, most} {
					if had+beyond <= most {
						continue
					}
					if got, ok := impl.CounterAdd(up, site, beyond); ok || !isNothing(got) {
						t.Errorf("CounterAdd(%v, %d, %d) = %v, %v", up, site, beyond, got, ok)
					}
					if got, ok := impl.CounterAdd(down, site, -beyond); ok || !isNothing(got) {
						t.Errorf("CounterAdd(%v, %d, %d) = %v, %v", down, site, -beyond, got, ok)
					}
				}
			}
		}
	}
}

func TestCounterJoin(t *testing.T) {
	most := impl.MaxCount
	for name, x := range map[string]struct{ a, b, want impl.Counter }{
		"noughts":        {noughts(), noughts(), noughts()},
		"Up and Down":    {counter(5, 0, 0, 0, 0, 0, 0, 0), counter(0, 0, 0, 0, 0, 2, 0, 0), counter(5, 0, 0, 0, 0, 2, 0, 0)},
		"side by side":   {counter(1, 0, 2, 0, 7, 0, 0, 8), counter(0, 3, 2, 0, 0, 9, 0, 9), counter(1, 3, 2, 0, 7, 9, 0, 9)},
		"of one site":    {counter(4, 0, 0, 0, 6, 0, 0, 0), counter(5, 0, 0, 0, 5, 0, 0, 0), counter(5, 0, 0, 0, 6, 0, 0, 0)},
		"the last place": {counter(0, 0, 0, 1, 0, 0, 0, 9), counter(0, 0, 0, 2, 0, 0, 0, 8), counter(0, 0, 0, 2, 0, 0, 0, 9)},
		"one has more":   {counter(5, 6, 7, 8, 1, 2, 3, 4), counter(4, 6, 0, 7, 1, 1, 1, 1), counter(5, 6, 7, 8, 1, 2, 3, 4)},
		"the most":       {counter(most, 0, 1, 0, 0, most-1, 0, 0), counter(0, most, 0, 0, 0, most, 0, 3), counter(most, most, 1, 0, 0, most, 0, 3)},
	} {
		for _, ab := range [][2]impl.Counter{{x.a, x.b}, {x.b, x.a}} {
			if got := impl.CounterJoin(ab[0], ab[1]); !sameCounter(got, x.want) {
				t.Errorf("%s: CounterJoin(%v, %v) = %v, want %v", name, ab[0], ab[1], got, x.want)
			}
		}
	}
}

// TestCounterJoinWhicheverFirst: promise 12, of each two: joined they are the same whichever comes first, both are at most that, and joined once more nothing changes; one is at most another just where joined they are that one.
func TestCounterJoinWhicheverFirst(t *testing.T) {
	all := someCounters()
	for _, a := range all {
		if got := impl.CounterJoin(a, a); !sameCounter(got, a) || !impl.CounterLeq(a, a) {
			t.Fatalf("CounterJoin(%v, itself) = %v", a, got)
		}
		for _, b := range all {
			got, back := impl.CounterJoin(a, b), impl.CounterJoin(b, a)
			if want := joinedBy(a, b); !sameCounter(got, want) || !sameCounter(back, want) || !impl.CounterOk(got) {
				t.Fatalf("CounterJoin of %v, %v = %v, backward %v, want %v", a, b, got, back, want)
			}
			for _, c := range []impl.Counter{a, b, got} {
				if again := impl.CounterJoin(got, c); !sameCounter(again, got) || !impl.CounterLeq(c, got) {
					t.Fatalf("CounterJoin(%v, %v) = %v; at most: %v", got, c, again, impl.CounterLeq(c, got))
				}
			}
			if leq := impl.CounterLeq(a, b); leq != atMostBy(a, b) || leq != sameCounter(got, b) {
				t.Fatalf("CounterLeq(%v, %v) = %v, joined they are %v", a, b, leq, got)
			}
		}
	}
}

// fewCounters: some of which each is more than some, less than some, and neither of some.
func fewCounters() []impl.Counter {
	all := []impl.Counter{noughts(), counter(2, 1, 0, 3, 0, 0, 1, 2), counter(impl.MaxCount, 0, 0, 1, 0, 0, 0, impl.MaxCount), counter(0, 0, 0, 0, impl.MaxCount, 0, 2, 0)}
	for i := range impl.MaxSites {
		for n := 1; n <= 2; n++ {
			up, down, both := noughts(), noughts(), counter(1, 1, 1, 1, 1, 1, 1, 1)
			up.Up[i], down.Down[i], both.Up[i], both.Down[impl.MaxSites-1-i] = n, n, 3-n, n
			all = append(all, up, down, both)
		}
	}
	return all
}

// TestCounterJoinOfThree: promise 12, of each three; and what is joined is the least that both are at most.
func TestCounterJoinOfThree(t *testing.T) {
	all := fewCounters()
	for _, a := range all {
		for _, b := range all {
			ab, leq := impl.CounterJoin(a, b), impl.CounterLeq(a, b)
			for _, c := range all {
				want := impl.CounterJoin(ab, c)
				for _, got := range []impl.Counter{impl.CounterJoin(a, impl.CounterJoin(b, c)), impl.CounterJoin(impl.CounterJoin(c, a), b), impl.CounterJoin(c, impl.CounterJoin(b, a))} {
					if !sameCounter(got, want) {
						t.Fatalf("of %v, %v, %v: CounterJoin = %v and %v", a, b, c, got, want)
					}
				}
				if got := impl.CounterLeq(ab, c); got != (impl.CounterLeq(a, c) && impl.CounterLeq(b, c)) {
					t.Fatalf("%v, %v joined are at most %v: %v", a, b, c, got)
				}
				if leq && impl.CounterLeq(b, c) && !impl.CounterLeq(a, c) {
					t.Fatalf("%v is at most %v, that %v, but the first not the last", a, b, c)
				}
			}
		}
	}
}

func TestCounterValue(t *testing.T) {
	most := impl.MaxCount
	for name, x := range map[string]struct {
		c    impl.Counter
		want int
	}{
		"noughts":                 {noughts(), 0},
		"Up alone":                {counter(1, 2, 3, 4, 0, 0, 0, 0), 10},
		"Down alone":              {counter(0, 0, 0, 0, 1, 2, 3, 4), -10},
		"both":                    {counter(5, 0, 0, 0, 0, 2, 0, 0), 3},
		"as much down as up":      {counter(1, 2, 3, 4, 4, 3, 2, 1), 0},
		"below 0":                 {counter(1, 0, 0, 0, 0, 0, 0, 2), -1},
		"each place of its own":   {counter(1000, 200, 30, 4, 50000, 600000, 7000000, 80000000), 1234 - 87650000},
		"the most, up":            {counter(most, most, most, most, 0, 0, 0, 0), 4 * most},
		"the most, down":          {counter(0, 0, 0, 0, most, most, most, most), -4 * most},
		"the most, up and down":   {counter(most, most, most, most, most, most, most, most), 0},
		"the most up, one less":   {counter(most, most, most, most-1, most, most, most, most), -1},
		"the most down, one less": {counter(most, most, most, most, most, most-1, most, most), 1},
	} {
		if got := impl.CounterValue(x.c); got != x.want {
			t.Errorf("%s: CounterValue(%v) = %d, want %d", name, x.c, got, x.want)
		}
	}
	for _, c := range someCounters() {
		if got := impl.CounterValue(c); got != valueBy(c) {
			t.Errorf("CounterValue(%v) = %d, want %d", c, got, valueBy(c))
		}
	}
}

func TestCounterLeq(t *testing.T) {
	most := impl.MaxCount
	for name, x := range map[string]struct {
		a, b      impl.Counter
		leq, back bool
	}{
		"noughts":                   {noughts(), noughts(), true, true},
		"the same":                  {counter(1, 2, 3, 4, 5, 6, 7, 8), counter(1, 2, 3, 4, 5, 6, 7, 8), true, true},
		"the same, the most":        {counter(most, most, most, most, most, most, most, most), counter(most, most, most, most, most, most, most, most), true, true},
		"less at the first of Up":   {counter(0, 2, 3, 4, 5, 6, 7, 8), counter(1, 2, 3, 4, 5, 6, 7, 8), true, false},
		"less at the last of Up":    {counter(1, 2, 3, 3, 5, 6, 7, 8), counter(1, 2, 3, 4, 5, 6, 7, 8), true, false},
		"less at the first of Down": {counter(1, 2, 3, 4, 4, 6, 7, 8), counter(1, 2, 3, 4, 5, 6, 7, 8), true, false},
		"less at the last of Down":  {counter(1, 2, 3, 4, 5, 6, 7, 7), counter(1, 2, 3, 4, 5, 6, 7, 8), true, false},
		"less everywhere":           {counter(0, 1, 2, 3, 4, 5, 6, 7), counter(1, 2, 3, 4, 5, 6, 7, 8), true, false},
		"noughts and the most":      {noughts(), counter(most, most, most, most, most, most, most, most), true, false},
		"less, but of more value":   {counter(1, 0, 0, 0, 0, 0, 0, 0), counter(1, 0, 0, 0, 0, 9, 0, 0), true, false},
		"neither, in Up":            {counter(2, 1, 0, 0, 0, 0, 0, 0), counter(1, 2, 0, 0, 0, 0, 0, 0), false, false},
		"neither, in Down":          {counter(0, 0, 0, 0, 0, 0, 2, 1), counter(0, 0, 0, 0, 0, 0, 1, 2), false, false},
		"more up, less down":        {counter(2, 0, 0, 0, 1, 0, 0, 0), counter(1, 0, 0, 0, 2, 0, 0, 0), false, false},
		"two that added at once":    {counter(5, 0, 0, 0, 0, 0, 0, 0), counter(0, 0, 0, 0, 0, 2, 0, 0), false, false},
		"neither, of one value":     {counter(3, 0, 0, 0, 0, 0, 0, 0), counter(0, 3, 0, 0, 0, 0, 0, 0), false, false},
		"neither, the most":         {counter(most, 0, 0, 0, 0, 0, 0, 0), counter(0, 0, 0, 0, 0, 0, 0, 1), false, false},
	} {
		if leq, back := impl.CounterLeq(x.a, x.b), impl.CounterLeq(x.b, x.a); leq != x.leq || back != x.back {
			t.Errorf("%s: CounterLeq of %v, %v = %v, backward %v", name, x.a, x.b, leq, back)
		}
	}
}

// TestCounterWrong: of a counter that is not CounterOk, as the one argument, the other, or both.
func TestCounterWrong(t *testing.T) {
	most := impl.MaxCount
	good := []impl.Counter{noughts(), counter(1, 0, 2, 0, 0, 3, 0, 1), counter(0, 3, 0, 1, 1, 0, 2, 0), counter(most, most, most, most, most, most, most, most)}
	all := badCounters()
	for name, bad := range all {
		for _, c := range good {
			for _, x := range [][2]impl.Counter{{bad, c}, {c, bad}, {bad, bad}} {
				if got := impl.CounterJoin(x[0], x[1]); !isNothing(got) || impl.CounterLeq(x[0], x[1]) {
					t.Errorf("%s: of %v, %v: CounterJoin = %v, CounterLeq = %v", name, x[0], x[1], got, impl.CounterLeq(x[0], x[1]))
				}
			}
		}
		for other, worse := range all {
			if got := impl.CounterJoin(bad, worse); !isNothing(got) || impl.CounterLeq(bad, worse) {
				t.Errorf("%s, %s: CounterJoin = %v, CounterLeq = %v", name, other, got, impl.CounterLeq(bad, worse))
			}
		}
		if got := impl.CounterValue(bad); got != 0 {
			t.Errorf("%s: CounterValue(%v) = %d", name, bad, got)
		}
		for site := -1; site <= impl.MaxSites; site++ {
			for _, n := range []int{0, 1, -1, most, -most} {
				if got, ok := impl.CounterAdd(bad, site, n); ok || !isNothing(got) {
					t.Errorf("%s: CounterAdd(%v, %d, %d) = %v, %v", name, bad, site, n, got, ok)
				}
			}
		}
	}
}

// TestCounterAddMendsNothing: a counter that is not CounterOk is refused, also where it would be one with n more, or where a sum wraps round.
func TestCounterAddMendsNothing(t *testing.T) {
	most := impl.MaxCount
	for name, x := range map[string]struct {
		c       impl.Counter
		site, n int
	}{
		"-1 and 1":                 {counter(-1, 0, 0, 0, 0, 0, 0, 0), 0, 1},
		"-5 and 9":                 {counter(0, 0, -5, 0, 0, 0, 0, 0), 2, 9},
		"-1 and -1":                {counter(0, 0, 0, 0, 0, 0, 0, -1), 3, -1},
		"one too much and -1":      {counter(0, most+1, 0, 0, 0, 0, 0, 0), 1, -1},
		"one too much down and 1":  {counter(0, 0, 0, 0, 0, most+1, 0, 0), 1, 1},
		"the least and -1":         {counter(0, 0, 0, 0, math.MinInt, 0, 0, 0), 0, -1},
		"the greatest wraps round": {counter(math.MaxInt, 0, 0, 0, 0, 0, 0, 0), 0, 1},
	} {
		if got, ok := impl.CounterAdd(x.c, x.site, x.n); ok || !isNothing(got) {
			t.Errorf("%s: CounterAdd(%v, %d, %d) = %v, %v", name, x.c, x.site, x.n, got, ok)
		}
	}
}

// TestCounterAddedAtOnce: promise 12: two that added at two sites to the same counter are together that one and both numbers; joined once more, or in another order, nothing changes.
func TestCounterAddedAtOnce(t *testing.T) {
	ns := []int{0, 1, -1, 5, -7, 400000000, -400000000}
	for _, c := range append(fewCounters()[:2], counter(400, 0, 30, 2, 1, 0, 500, 60)) {
		for one := range impl.MaxSites {
			for other := range impl.MaxSites {
				for _, n := range ns {
					for _, m := range ns {
						if one == other {
							continue
						}
						a, b := mustAdd(t, c, one, n), mustAdd(t, c, other, m)
						both := impl.CounterJoin(a, b)
						if got := impl.CounterValue(both); got != impl.CounterValue(c)+n+m {
							t.Fatalf("%v with %d at %d and %d at %d: %v, of value %d", c, n, one, m, other, both, got)
						}
						if want := mustAdd(t, a, other, m); !sameCounter(both, want) {
							t.Fatalf("%v with %d at %d and %d at %d: joined %v, one behind the other %v", c, n, one, m, other, both, want)
						}
						for _, list := range [][]impl.Counter{{b, a}, {a, b, a, b, b}, {c, b, c, a, c}, {both, a, both}, {a, both, b}, {c, both, c}} {
							all := c
							for _, more := range list {
								all = impl.CounterJoin(all, more)
							}
							if !sameCounter(all, both) {
								t.Fatalf("%v with %d at %d and %d at %d: %v, joined otherwise %v", c, n, one, m, other, both, all)
							}
						}
					}
				}
			}
		}
	}
}

// TestCounterAddedAtOneSite: of what a site told it is the last that counts, also where something earlier comes behind it.
func TestCounterAddedAtOneSite(t *testing.T) {
	for site := range impl.MaxSites {
		told := []impl.Counter{noughts()}
		for _, n := range []int{5, -2, 0, 7, -9, 1} {
			told = append(told, mustAdd(t, told[len(told)-1], site, n))
		}
		last := told[len(told)-1]
		if last.Up[site] != 13 || last.Down[site] != 11 || impl.CounterValue(last) != 2 {
			t.Fatalf("at %d: %v, of value %d", site, last, impl.CounterValue(last))
		}
		for i, a := range told {
			for j, b := range told {
				if got := impl.CounterJoin(a, b); !sameCounter(got, told[max(i, j)]) {
					t.Errorf("CounterJoin(%v, %v) = %v, want %v", a, b, got, told[max(i, j)])
				}
				if got := impl.CounterLeq(a, b); got != (i <= j || sameCounter(a, b)) {
					t.Errorf("CounterLeq(%v, %v) = %v", a, b, got)
				}
			}
		}
	}
}

// TestCounterOfCourses: promise 12: sites add at their own places and take what others told, late, doubled, in any order or never: what each has is what it had of each site as that site had added it; and at last, when all have seen all, the value is all that was added.
func TestCounterOfCourses(t *testing.T) {
	d := dice(1201)
	below := 0
	for range 300 {
		var sites [impl.MaxSites]impl.Counter
		for i := range sites {
			sites[i] = noughts()
		}
		total, told := 0, []impl.Counter{noughts()}
		for range 40 {
			site := d.below(impl.MaxSites)
			was := sites[site]
			switch d.below(3) {
			case 0:
				n := d.below(2001) - 1000
				total += n
				sites[site] = mustAdd(t, was, site, n)
			case 1:
				told = append(told, copyCounter(was))
			default:
				other := told[d.below(len(told))]
				sites[site] = impl.CounterJoin(was, other)
				if want := joinedBy(was, other); !sameCounter(sites[site], want) {
					t.Fatalf("CounterJoin(%v, %v) = %v, want %v", was, other, sites[site], want)
				}
			}
			if !impl.CounterLeq(was, sites[site]) {
				t.Fatalf("site %d had %v, then %v", site, was, sites[site])
			}
		}
		lists := append(slices.Clone(told), sites[:]...)
		lists = append(lists, lists...)
		for range 5 {
			all := noughts()
			for i := range lists {
				j := i + d.below(len(lists)-i)
				lists[i], lists[j] = lists[j], lists[i]
				all = impl.CounterJoin(all, lists[i])
			}
			if got := impl.CounterValue(all); got != total {
				t.Fatalf("%d was added, all have %v: %d", total, all, got)
			}
		}
		if total < 0 {
			below++
		}
	}
	if below < 50 || below > 250 {
		t.Errorf("%d of 300 came below 0: too few to tell", below)
	}
}

// TestCounterBelowNought: numbers below 0 go to Down, none falls, and the value may be below 0.
func TestCounterBelowNought(t *testing.T) {
	c := noughts()
	for i, x := range []struct {
		site, n int
		want    impl.Counter
		value   int
	}{
		{1, -2, counter(0, 0, 0, 0, 0, 2, 0, 0), -2},
		{1, 2, counter(0, 2, 0, 0, 0, 2, 0, 0), 0},
		{1, 3, counter(0, 5, 0, 0, 0, 2, 0, 0), 3},
		{0, -5, counter(0, 5, 0, 0, 5, 2, 0, 0), -2},
		{1, -4, counter(0, 5, 0, 0, 5, 6, 0, 0), -6},
		{3, 1, counter(0, 5, 0, 1, 5, 6, 0, 0), -5},
		{3, -1, counter(0, 5, 0, 1, 5, 6, 0, 1), -6},
		{2, 0, counter(0, 5, 0, 1, 5, 6, 0, 1), -6},
	} {
		next := mustAdd(t, c, x.site, x.n)
		if !sameCounter(next, x.want) || impl.CounterValue(next) != x.value {
			t.Errorf("at %d: CounterAdd(%v, %d, %d) = %v, of value %d, want %v, %d", i, c, x.site, x.n, next, impl.CounterValue(next), x.want, x.value)
		}
		if back := impl.CounterJoin(next, c); !sameCounter(back, next) || !impl.CounterLeq(c, next) {
			t.Errorf("at %d: %v was taken back: %v", i, next, back)
		}
		c = next
	}
}

// roomyCounter: the counter, with spare room behind each list, in which numbers lie.
func roomyCounter(c impl.Counter) impl.Counter {
	return impl.Counter{Up: roomyNums(c.Up), Down: roomyNums(c.Down)}
}

func wholeCounter(c impl.Counter) impl.Counter {
	return impl.Counter{Up: wholeNums(c.Up), Down: wholeNums(c.Down)}
}

func spoilCounter(c impl.Counter) {
	spoilPlaces(c.Up)
	spoilPlaces(c.Down)
}

// counterCalls: each that answers a counter, of what it takes and of what it refuses.
func counterCalls() map[string]func(a impl.Counter, b impl.Counter) impl.Counter {
	added := func(c impl.Counter, _ bool) impl.Counter { return c }
	short := func(c impl.Counter) impl.Counter { return impl.Counter{Up: c.Up, Down: c.Down[:3]} }
	return map[string]func(a impl.Counter, b impl.Counter) impl.Counter{
		"CounterJoin":          impl.CounterJoin,
		"CounterJoin, turned":  func(a impl.Counter, b impl.Counter) impl.Counter { return impl.CounterJoin(b, a) },
		"CounterJoin of one":   func(a impl.Counter, b impl.Counter) impl.Counter { return impl.CounterJoin(a, a) },
		"CounterJoin of short": func(a impl.Counter, b impl.Counter) impl.Counter { return impl.CounterJoin(short(a), b) },
		"CounterAdd":           func(a impl.Counter, b impl.Counter) impl.Counter { return added(impl.CounterAdd(a, 1, 2)) },
		"CounterAdd below 0":   func(a impl.Counter, b impl.Counter) impl.Counter { return added(impl.CounterAdd(b, 3, -2)) },
		"CounterAdd of 0":      func(a impl.Counter, b impl.Counter) impl.Counter { return added(impl.CounterAdd(a, 0, 0)) },
		"CounterAdd too much":  func(a impl.Counter, b impl.Counter) impl.Counter { return added(impl.CounterAdd(b, 0, impl.MaxCount)) },
		"CounterAdd nowhere":   func(a impl.Counter, b impl.Counter) impl.Counter { return added(impl.CounterAdd(a, 4, 1)) },
		"CounterAdd to short":  func(a impl.Counter, b impl.Counter) impl.Counter { return added(impl.CounterAdd(short(b), 0, 1)) },
	}
}

// counterPairs: twos of counters, the first of which is less, the same, more, or neither; in the last ones the lists share their numbers.
func counterPairs() [][2]impl.Counter {
	ns := []int{1, 0, 2, 0, 3, 0, 1, 0}
	one := impl.Counter{Up: ns[:4], Down: ns[:4]}
	return [][2]impl.Counter{
		{noughts(), counter(1, 1, 0, 0, 0, 0, 0, 2)},
		{counter(1, 0, 2, 0, 0, 3, 0, 1), counter(1, 0, 2, 0, 0, 3, 0, 1)},
		{counter(3, 3, 3, 3, 4, 4, 4, 4), counter(3, 2, 3, 3, 4, 4, 4, 3)},
		{counter(1, 0, 2, 0, 7, 0, 0, 8), counter(0, 3, 2, 0, 0, 9, 0, 9)},
		{counter(0, impl.MaxCount-2, 0, 0, 0, 0, 0, 0), counter(5, 0, 0, 0, 0, 0, 0, impl.MaxCount-2)},
		{one, one},
		{one, {Up: ns[2:6], Down: ns[4:8]}},
	}
}

// TestCountersLeaveArguments: neither arguments nor the room behind them are written by a call, or by what is done to its answer; and what lies in that room changes no answer, and is not handed out.
func TestCountersLeaveArguments(t *testing.T) {
	for _, x := range counterPairs() {
		for name, call := range counterCalls() {
			a, b := roomyCounter(x[0]), roomyCounter(x[1])
			wholeA, wholeB := wholeCounter(a), wholeCounter(b)
			got := call(a, b)
			if want := call(copyCounter(x[0]), copyCounter(x[1])); !sameCounter(got, want) {
				t.Errorf("%s of %v: what lies behind a list is read: %v, want %v", name, x, got, want)
			}
			for _, list := range [][]int{got.Up, got.Down} {
				if slices.ContainsFunc(list[len(list):cap(list)], func(n int) bool { return n != 0 }) {
					t.Errorf("%s of %v: what lies behind a list is handed out: %v", name, x, list[:cap(list)])
				}
			}
			if !impl.CounterOk(a) || impl.CounterValue(b) != valueBy(x[1]) || impl.CounterLeq(a, b) != atMostBy(x[0], x[1]) {
				t.Errorf("of %v: what lies behind a list is read", x)
			}
			spoilCounter(got)
			if !sameCounter(wholeCounter(a), wholeA) || !sameCounter(wholeCounter(b), wholeB) {
				t.Errorf("%s of %v: written into an argument: %v, %v", name, x, wholeCounter(a), wholeCounter(b))
			}
			one, other := copyCounter(x[0]), copyCounter(x[1])
			spoilCounter(call(x[0], x[1]))
			if !sameCounter(x[0], one) || !sameCounter(x[1], other) {
				t.Fatalf("%s: written into an argument: %v, was %v, %v", name, x, one, other)
			}
		}
	}
	short := impl.Counter{Up: []int{1, 0, 2, 0}[:3], Down: []int{0, 3, 0, 1}}
	if impl.CounterOk(short) || impl.CounterValue(short) != 0 || impl.CounterLeq(noughts(), short) || impl.CounterLeq(short, counter(9, 9, 9, 9, 9, 9, 9, 9)) {
		t.Errorf("what lies behind a list is read: %v", short)
	}
}

// TestCountersNewMemory: Up and Down of an answer share none, nor do those of two answers, also where those of the arguments do.
func TestCountersNewMemory(t *testing.T) {
	for _, x := range counterPairs() {
		for name, call := range counterCalls() {
			want := copyCounter(call(x[0], x[1]))
			first, up, down := call(x[0], x[1]), call(x[0], x[1]), call(x[0], x[1])
			spoilPlaces(up.Up)
			spoilPlaces(down.Down)
			if !slices.Equal(up.Down, want.Down) || !slices.Equal(down.Up, want.Up) {
				t.Errorf("%s of %v: Up and Down share memory: %v, %v, want %v", name, x, up, down, want)
			}
			if again := call(x[0], x[1]); !sameCounter(first, want) || !sameCounter(again, want) {
				t.Errorf("%s of %v: two answers share memory: %v, %v, want %v", name, x, first, again, want)
			}
			grown := call(x[0], x[1])
			_, _ = append(grown.Up, -7, -7, -7, -7), append(grown.Down, -7, -7, -7, -7)
			if !sameCounter(grown, want) {
				t.Errorf("%s of %v: Up reaches into Down: %v, want %v", name, x, grown, want)
			}
		}
	}
}

// TestCountersSameEachTime: no call keeps anything for another one.
func TestCountersSameEachTime(t *testing.T) {
	d := dice(1211)
	all := someCounters()
	a, b := counter(1, 0, 2, 0, 7, 0, 0, 8), counter(0, 3, 2, 0, 0, 9, 0, 9)
	want := joinedBy(a, b)
	for range 200 {
		impl.CounterAdd(all[d.below(len(all))], d.below(5), d.below(9)-4)
		impl.CounterJoin(all[d.below(len(all))], all[d.below(len(all))])
		if got := impl.CounterJoin(a, b); !sameCounter(got, want) || impl.CounterValue(got) != -19 || impl.CounterLeq(a, b) {
			t.Fatalf("CounterJoin(%v, %v) = %v, then %v", a, b, want, got)
		}
		checkAdd(t, a, 1, 4)
	}
}
