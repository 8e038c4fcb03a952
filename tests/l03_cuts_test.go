package tests

import (
	"math"
	"slices"
	"testing"

	"loop.example/g00579/impl"
)

// covers: told by the words of the chapter, without the program's own help.
func covers(m []impl.Write, deps []impl.Dep) bool {
	for _, d := range deps {
		i := slices.IndexFunc(m, func(w impl.Write) bool { return w.Key == d.Key })
		if i < 0 || impl.TagCmp(m[i].T, d.T) < 0 {
			return false
		}
	}
	return true
}

func isCut(m []impl.Write) bool {
	return !slices.ContainsFunc(m, func(w impl.Write) bool { return !covers(m, w.Deps) })
}

// parted: round by round, as the chapter says it, what fits and what is held.
func parted(m []impl.Write, more []impl.Write) (fit []impl.Write, held []impl.Write) {
	there := slices.Repeat([]bool{true}, len(more))
	for {
		fit, held = nil, nil
		for i, w := range more {
			if there[i] {
				fit = append(fit, w)
			} else {
				held = append(held, w)
			}
		}
		all, some := joined(m, fit), false
		for i, w := range more {
			if there[i] && !covers(all, w.Deps) {
				there[i], some = false, true
			}
		}
		if !some {
			return fit, held
		}
	}
}

// mostOf: of all parts of more that fit as a whole the one with the most writes, and whether it has all the others.
func mostOf(m []impl.Write, more []impl.Write) ([]impl.Write, bool) {
	var best []impl.Write
	most, union := 0, 0
	for set := range 1 << len(more) {
		var part []impl.Write
		for i, w := range more {
			if set>>i&1 == 1 {
				part = append(part, w)
			}
		}
		all := joined(m, part)
		if slices.ContainsFunc(part, func(w impl.Write) bool { return !covers(all, w.Deps) }) {
			continue
		}
		union |= set
		if len(part) >= len(best) {
			best, most = part, set
		}
	}
	return best, union == most
}

// checkSeen: all that the chapter says of m and more, against what is looked for round by round.
func checkSeen(t *testing.T, m []impl.Write, more []impl.Write) {
	t.Helper()
	fit, held := parted(m, more)
	if got := impl.Fitting(m, more); !sameList(got, fit) {
		t.Fatalf("Fitting(%v, %v) = %v, want %v", m, more, got, fit)
	}
	if got := impl.Held(m, more); !sameList(got, held) {
		t.Fatalf("Held(%v, %v) = %v, want %v", m, more, got, held)
	}
	wide := impl.Widest(m, more)
	if !sameList(wide, joined(m, fit)) || !impl.MapOk(wide) || !impl.Within(m, wide) {
		t.Fatalf("Widest(%v, %v) = %v, want %v", m, more, wide, joined(m, fit))
	}
	for _, w := range held {
		if impl.Covered(wide, w.Deps) {
			t.Fatalf("Widest(%v, %v) = %v, and %v is held", m, more, wide, w)
		}
	}
	if impl.IsCut(m) && !impl.IsCut(wide) {
		t.Fatalf("the widest of the cut %v and %v is none: %v", m, more, wide)
	}
}

// causal: writes of three keys that hang together, two tags of each key.
func causal() []impl.Write {
	return []impl.Write{
		put(0, tag(1, 0, 1), 1),
		put(1, tag(2, 1, 1), 2, dep(0, 1, 0, 1)),
		put(2, tag(3, 2, 1), 3, dep(0, 1, 0, 1), dep(1, 2, 1, 1)),
		put(0, tag(4, 0, 2), 4, dep(2, 3, 2, 1)),
		gone(1, tag(5, 1, 2), dep(0, 4, 0, 2), dep(1, 2, 1, 1)),
		put(2, tag(6, 2, 2), 6, dep(1, 5, 1, 2)),
		put(2, tag(6, 2, 2), 7, dep(3, 1, 0, 9)),
	}
}

// causalMaps: all maps of writes of causal.
func causalMaps() [][]impl.Write {
	return mapsOf([]int{0, 1, 2}, func(key int) []impl.Write {
		return slices.DeleteFunc(causal(), func(w impl.Write) bool { return w.Key != key })
	})
}

func causalCuts() [][]impl.Write {
	return slices.DeleteFunc(causalMaps(), func(m []impl.Write) bool { return !isCut(m) })
}

func TestLacks(t *testing.T) {
	m := []impl.Write{put(0, tag(1, 0, 1), 7), gone(2, tag(5, 1, 4)), put(5, tag(9, 0, 2), -8, dep(4, 8, 0, 1))}
	for name, c := range map[string]struct {
		deps []impl.Dep
		want []impl.Dep
	}{
		"none":              {nil, nil},
		"empty":             {[]impl.Dep{}, nil},
		"the same T":        {[]impl.Dep{dep(2, 5, 1, 4)}, nil},
		"behind by seq":     {[]impl.Dep{dep(2, 5, 1, 3)}, nil},
		"behind by site":    {[]impl.Dep{dep(2, 5, 0, 9)}, nil},
		"behind by clock":   {[]impl.Dep{dep(2, 4, 3, 9)}, nil},
		"ahead by seq":      {[]impl.Dep{dep(2, 5, 1, 5)}, []impl.Dep{dep(2, 5, 1, 5)}},
		"ahead by site":     {[]impl.Dep{dep(2, 5, 2, 1)}, []impl.Dep{dep(2, 5, 2, 1)}},
		"ahead by clock":    {[]impl.Dep{dep(2, 6, 0, 1)}, []impl.Dep{dep(2, 6, 0, 1)}},
		"no write":          {[]impl.Dep{dep(1, 1, 0, 1)}, []impl.Dep{dep(1, 1, 0, 1)}},
		"a Dep of m's own":  {[]impl.Dep{dep(4, 8, 0, 1)}, []impl.Dep{dep(4, 8, 0, 1)}},
		"in order":          {[]impl.Dep{dep(0, 1, 0, 2), dep(2, 5, 1, 4), dep(3, 1, 0, 1), dep(5, 9, 1, 1)}, []impl.Dep{dep(0, 1, 0, 2), dep(3, 1, 0, 1), dep(5, 9, 1, 1)}},
		"no DepsOk list":    {[]impl.Dep{dep(5, 9, 1, 1), dep(0, 2, 0, 1), dep(5, 9, 0, 2), dep(0, 2, 0, 1)}, []impl.Dep{dep(5, 9, 1, 1), dep(0, 2, 0, 1), dep(0, 2, 0, 1)}},
		"no keys":           {[]impl.Dep{dep(-1, 1, 0, 1), dep(impl.MaxKeys, 1, 0, 1), dep(math.MaxInt, 1, 0, 1)}, []impl.Dep{dep(-1, 1, 0, 1), dep(impl.MaxKeys, 1, 0, 1), dep(math.MaxInt, 1, 0, 1)}},
		"zero tag, no key":  {[]impl.Dep{{Key: 1}, {Key: 2}}, []impl.Dep{{Key: 1}}},
		"tags that are not": {[]impl.Dep{dep(5, math.MaxInt, 0, 0), dep(5, math.MinInt, 0, 0), dep(5, 9, 0, math.MaxInt), dep(5, 9, -1, 9)}, []impl.Dep{dep(5, math.MaxInt, 0, 0), dep(5, 9, 0, math.MaxInt)}},
	} {
		if got := impl.Lacks(m, c.deps); !slices.Equal(got, c.want) {
			t.Errorf("%s: Lacks = %v, want %v", name, got, c.want)
		}
		if got := impl.Covered(m, c.deps); got != (len(c.want) == 0) {
			t.Errorf("%s: Covered = %v", name, got)
		}
	}
}

func TestLacksOfNoMap(t *testing.T) {
	deps := []impl.Dep{dep(0, 1, 0, 1), dep(3, 1, 0, 1)}
	for _, m := range [][]impl.Write{nil, {}} {
		if !slices.Equal(impl.Lacks(m, deps), deps) || impl.Covered(m, deps) || !impl.Covered(m, nil) || len(impl.Lacks(m, nil)) != 0 {
			t.Errorf("Lacks of none = %v", impl.Lacks(m, deps))
		}
	}
}

// TestLacksOfAnyList: Lacks and Covered ask for no MapOk map: of each key the first counts, as MapAt tells it.
func TestLacksOfAnyList(t *testing.T) {
	list := []impl.Write{put(4, tag(3, 0, 1), 1), put(2, tag(9, 0, 1), 2), put(4, tag(8, 0, 1), 3), put(99, tag(2, 0, 1), math.MaxInt), put(-1, impl.Tag{}, 6)}
	deps := []impl.Dep{dep(4, 3, 0, 1), dep(4, 3, 0, 2), dep(2, 9, 0, 1), dep(99, 2, 0, 1), dep(99, 3, 0, 1), {Key: -1}, dep(0, 1, 0, 1)}
	want := []impl.Dep{dep(4, 3, 0, 2), dep(99, 3, 0, 1), dep(0, 1, 0, 1)}
	if got := impl.Lacks(list, deps); !slices.Equal(got, want) {
		t.Errorf("Lacks = %v, want %v", got, want)
	}
	if impl.Covered(list, deps) || impl.Covered(list, deps[1:2]) || !impl.Covered(list, []impl.Dep{deps[0], deps[2], deps[3], deps[5]}) {
		t.Error("Covered by another write than the first")
	}
}

func TestIsCut(t *testing.T) {
	a, b := put(0, tag(1, 0, 1), 7), put(1, tag(2, 1, 1), 8, dep(0, 1, 0, 1))
	for name, c := range map[string]struct {
		m    []impl.Write
		want bool
	}{
		"none":                       {nil, true},
		"empty":                      {[]impl.Write{}, true},
		"no Deps":                    {[]impl.Write{a, put(3, tag(1, 0, 1), 1)}, true},
		"the same T":                 {[]impl.Write{a, b}, true},
		"no write":                   {[]impl.Write{b}, false},
		"one that is behind":         {[]impl.Write{put(0, tag(1, 0, 2), 7), b}, true},
		"one that comes ahead":       {[]impl.Write{a, put(1, tag(2, 1, 1), 8, dep(0, 1, 0, 2))}, false},
		"a dead one covers":          {[]impl.Write{gone(0, tag(1, 0, 1)), b}, true},
		"a dead one lacks":           {[]impl.Write{gone(1, tag(2, 1, 1), dep(0, 1, 0, 1))}, false},
		"because of an own earlier":  {[]impl.Write{put(1, tag(2, 1, 2), 8, dep(1, 2, 1, 1))}, true},
		"one because of the other":   {[]impl.Write{put(0, tag(5, 0, 1), 1, dep(1, 4, 1, 1)), put(1, tag(6, 1, 1), 2, dep(0, 5, 0, 1))}, true},
		"the last Dep is not there":  {[]impl.Write{a, put(1, tag(2, 1, 1), 8, dep(0, 1, 0, 1), dep(5, 1, 0, 1))}, false},
		"the first Dep is not there": {[]impl.Write{put(1, tag(2, 1, 1), 8, dep(0, 1, 0, 1), dep(5, 1, 0, 1)), put(5, tag(1, 0, 1), 1)}, false},
		"the first write lacks":      {[]impl.Write{put(0, tag(3, 0, 1), 1, dep(4, 1, 0, 1)), put(1, tag(3, 0, 1), 1)}, false},
		"the last write lacks":       {[]impl.Write{a, b, put(2, tag(3, 0, 1), 1, dep(1, 2, 1, 2))}, false},
	} {
		if got := impl.IsCut(c.m); got != c.want || !impl.MapOk(c.m) {
			t.Errorf("%s: IsCut = %v", name, got)
		}
	}
	for name, m := range badMaps() {
		if impl.IsCut(m) {
			t.Errorf("%s: IsCut = true", name)
		}
	}
	for _, m := range causalMaps() {
		if got := impl.IsCut(m); got != isCut(m) {
			t.Errorf("IsCut(%v) = %v", m, got)
		}
	}
}

func TestFittingEdges(t *testing.T) {
	a, b := put(0, tag(1, 0, 1), 7), put(1, tag(2, 1, 1), 8, dep(0, 1, 0, 1))
	c := put(2, tag(3, 2, 1), 9, dep(1, 2, 1, 1), dep(3, 1, 3, 1))
	d := put(3, tag(1, 3, 1), 10)
	// Each of these two is because of the other, or an earlier one in its place.
	x, y := put(0, tag(5, 0, 1), 1, dep(1, 4, 1, 1)), put(1, tag(6, 1, 1), 2, dep(0, 5, 0, 1))
	z := put(1, tag(6, 1, 1), 2, dep(0, 5, 0, 1), dep(4, 1, 0, 1))
	later := gone(0, tag(9, 0, 2), dep(4, 1, 0, 1))
	for name, s := range map[string]struct {
		m, more, fit, held []impl.Write
	}{
		"nothing":                   {},
		"more is empty":             {m: []impl.Write{a, b}, more: []impl.Write{}},
		"no Deps":                   {more: []impl.Write{d, a}, fit: []impl.Write{d, a}},
		"covered by m":              {m: []impl.Write{a}, more: []impl.Write{b}, fit: []impl.Write{b}},
		"m has none":                {more: []impl.Write{b}, held: []impl.Write{b}},
		"m has an earlier one":      {m: []impl.Write{a}, more: []impl.Write{put(1, tag(2, 1, 1), 8, dep(0, 1, 0, 2))}, held: []impl.Write{put(1, tag(2, 1, 1), 8, dep(0, 1, 0, 2))}},
		"m has a later one":         {m: []impl.Write{put(0, tag(1, 0, 2), 7)}, more: []impl.Write{b}, fit: []impl.Write{b}},
		"causes behind":             {more: []impl.Write{c, b, d, a}, fit: []impl.Write{c, b, d, a}},
		"causes ahead":              {more: []impl.Write{a, b, d, c}, fit: []impl.Write{a, b, d, c}},
		"the order is kept":         {more: []impl.Write{c, a, b}, fit: []impl.Write{a, b}, held: []impl.Write{c}},
		"held ones too":             {more: []impl.Write{c, d, b}, fit: []impl.Write{d}, held: []impl.Write{c, b}},
		"both together":             {more: []impl.Write{x, y}, fit: []impl.Write{x, y}},
		"both together, turned":     {more: []impl.Write{y, x}, fit: []impl.Write{y, x}},
		"one alone":                 {more: []impl.Write{x}, held: []impl.Write{x}},
		"the other alone":           {more: []impl.Write{y}, held: []impl.Write{y}},
		"both go":                   {more: []impl.Write{x, z}, held: []impl.Write{x, z}},
		"of two with one T one":     {more: []impl.Write{x, z, y}, fit: []impl.Write{x, y}, held: []impl.Write{z}},
		"two of one key":            {more: []impl.Write{put(0, tag(1, 0, 2), 3), a}, fit: []impl.Write{put(0, tag(1, 0, 2), 3), a}},
		"two of one key, one goes":  {more: []impl.Write{later, a, b}, fit: []impl.Write{a, b}, held: []impl.Write{later}},
		"because of what goes":      {more: []impl.Write{a, later, put(5, tag(10, 0, 3), 1, dep(0, 2, 0, 1))}, fit: []impl.Write{a}, held: []impl.Write{later, put(5, tag(10, 0, 3), 1, dep(0, 2, 0, 1))}},
		"one twice":                 {more: []impl.Write{a, b, a, b}, fit: []impl.Write{a, b, a, b}},
		"one that lacks twice":      {more: []impl.Write{b, d, b}, fit: []impl.Write{d}, held: []impl.Write{b, b}},
		"in m already":              {m: []impl.Write{a, b}, more: []impl.Write{b, a}, fit: []impl.Write{b, a}},
		"in m, which is no cut":     {m: []impl.Write{b}, more: []impl.Write{b, d}, fit: []impl.Write{d}, held: []impl.Write{b}},
		"m is no cut, but covers":   {m: []impl.Write{b, d}, more: []impl.Write{c}, fit: []impl.Write{c}},
		"m becomes a cut":           {m: []impl.Write{b}, more: []impl.Write{a, b}, fit: []impl.Write{a, b}},
		"earlier than m":            {m: []impl.Write{put(0, tag(7, 0, 5), 3)}, more: []impl.Write{a, b}, fit: []impl.Write{a, b}},
		"earlier than m, and lacks": {m: []impl.Write{put(1, tag(7, 0, 5), 3)}, more: []impl.Write{b}, held: []impl.Write{b}},
		"because of itself earlier": {more: []impl.Write{put(1, tag(2, 1, 2), 8, dep(1, 2, 1, 1))}, fit: []impl.Write{put(1, tag(2, 1, 2), 8, dep(1, 2, 1, 1))}},
		"m's own T, another value":  {m: []impl.Write{a}, more: []impl.Write{put(0, tag(1, 0, 1), 8), b}, fit: []impl.Write{put(0, tag(1, 0, 1), 8), b}},
	} {
		if got := impl.Fitting(s.m, s.more); !sameList(got, s.fit) {
			t.Errorf("%s: Fitting = %v, want %v", name, got, s.fit)
		}
		if got := impl.Held(s.m, s.more); !sameList(got, s.held) {
			t.Errorf("%s: Held = %v, want %v", name, got, s.held)
		}
		if got := impl.Widest(s.m, s.more); !sameList(got, joined(s.m, s.fit)) {
			t.Errorf("%s: Widest = %v, want %v", name, got, joined(s.m, s.fit))
		}
		checkSeen(t, s.m, s.more)
	}
}

// TestFittingIsTheMost: of every short list, in every order, beside every map, what fits has all that could fit.
func TestFittingIsTheMost(t *testing.T) {
	pool := causal()
	lists := [][]impl.Write{nil}
	for from := 0; len(lists[from]) < 3; from++ {
		for _, w := range pool {
			lists = append(lists, append(slices.Clone(lists[from]), w))
		}
	}
	lists = append(lists, pool, append(slices.Clone(pool), put(3, tag(1, 0, 9), 9)))
	for _, m := range causalMaps() {
		for _, more := range lists {
			checkSeen(t, m, more)
			want, whole := mostOf(m, more)
			if got := impl.Fitting(m, more); !whole || !sameList(got, want) {
				t.Fatalf("Fitting(%v, %v) = %v, want %v", m, more, got, want)
			}
		}
	}
}

// dice: numbers that are the same in every run.
type dice uint64

func (d *dice) below(n int) int {
	*d = *d*6364136223846793005 + 1442695040888963407
	return int(uint64(*d)>>33) % n
}

// thrown: many writes of all keys, of few tags, so that they often lack one another and often cover one another.
func thrown(d *dice, n int) []impl.Write {
	var list []impl.Write
	for range n {
		w := put(d.below(impl.MaxKeys), tag(1+d.below(12), d.below(impl.MaxSites), 1+d.below(2)), d.below(3))
		if d.below(5) == 0 {
			w.Val, w.Dead = 0, true
		}
		for key := range impl.MaxKeys {
			if at := tag(1+d.below(12), d.below(impl.MaxSites), 1+d.below(2)); d.below(4) == 0 && impl.TagCmp(at, w.T) < 0 {
				w.Deps = append(w.Deps, impl.Dep{Key: key, T: at})
			}
		}
		list = append(list, w)
	}
	return list
}

func TestSeenOfMany(t *testing.T) {
	d := dice(3)
	fitted, held := 0, 0
	for range 4000 {
		m := joined(thrown(&d, d.below(8)))
		more := thrown(&d, d.below(24))
		checkSeen(t, m, more)
		checkSeen(t, impl.Widest(nil, m), more)
		fitted += len(impl.Fitting(m, more))
		held += len(impl.Held(m, more))
	}
	if fitted < 1000 || held < 1000 {
		t.Errorf("%d fitted and %d were held: too few to tell", fitted, held)
	}
}

// TestWidestInAnyOrder: whichever stand first in more, the same is shown; and seeing it again changes nothing.
func TestWidestInAnyOrder(t *testing.T) {
	d := dice(5)
	for range 1000 {
		m := impl.Widest(nil, thrown(&d, 6))
		more := thrown(&d, 12)
		wide := impl.Widest(m, more)
		turned := slices.Clone(more)
		slices.Reverse(turned)
		if got := impl.Widest(m, turned); !sameList(got, wide) {
			t.Fatalf("Widest(%v, %v) = %v, turned %v", m, more, wide, got)
		}
		if got := impl.Widest(wide, more); !sameList(got, wide) {
			t.Fatalf("Widest(%v, %v) = %v, once more %v", m, more, wide, got)
		}
	}
}

func TestWidestOfCuts(t *testing.T) {
	for _, m := range causalCuts() {
		for _, more := range causalMaps() {
			wide := impl.Widest(m, more)
			if !isCut(wide) || !impl.IsCut(wide) || !impl.Within(m, wide) {
				t.Fatalf("Widest(%v, %v) = %v", m, more, wide)
			}
			if all := joined(m, more); isCut(all) && isCut(more) && !sameList(wide, all) {
				t.Fatalf("Widest(%v, %v) = %v, though all may be shown", m, more, wide)
			}
		}
	}
}

func TestCutsJoined(t *testing.T) {
	cuts := causalCuts()
	d := dice(7)
	for range 300 {
		cuts = append(cuts, impl.Widest(nil, thrown(&d, 14)))
	}
	for _, a := range cuts {
		for _, b := range cuts {
			both := impl.MapJoin(a, b)
			if !impl.IsCut(both) || !isCut(both) {
				t.Fatalf("the cuts %v and %v joined: %v", a, b, both)
			}
			if !sameList(impl.Widest(a, b), both) || len(impl.Held(a, b)) != 0 {
				t.Fatalf("of the cut %v is held beside %v: %v", b, a, impl.Held(a, b))
			}
		}
	}
}

// chained: writes of two keys of which, round after round, one goes: the last one of the key 0 lacks what last would cover, and each of the others lacks the one that went ahead of it.
func chained(n int) (list []impl.Write, last impl.Write) {
	for i := range n {
		list = append(list,
			put(1, tag(10*i+5, 0, 1), i, dep(0, 10*i+1, 0, 1)),
			put(0, tag(10*i+10, 0, 1), i, dep(1, 10*i+6, 0, 1)))
	}
	return list, put(1, tag(10*n+5, 0, 1), 0)
}

func TestRoundAfterRound(t *testing.T) {
	for _, n := range []int{1, 2, 31, 32, 33, 40} {
		list, last := chained(n)
		back := slices.Clone(list)
		slices.Reverse(back)
		for _, more := range [][]impl.Write{list, back} {
			if got := impl.Fitting(nil, more); len(got) != 0 {
				t.Fatalf("%d: Fitting = %v", n, got)
			}
			if got := impl.Held(nil, more); !sameList(got, more) {
				t.Fatalf("%d: Held = %v", n, got)
			}
			if got := impl.Fitting([]impl.Write{last}, more); !sameList(got, more) {
				t.Fatalf("%d: Fitting beside the last one = %v", n, got)
			}
			checkSeen(t, nil, more)
			checkSeen(t, nil, append(slices.Clone(more), last))
			checkSeen(t, nil, append([]impl.Write{last}, more[1:]...))
		}
	}
}

func TestVeryMany(t *testing.T) {
	list, last := chained(9999)
	all := append(slices.Clone(list), last)
	if len(impl.Fitting(nil, list)) != 0 || len(impl.Widest(nil, list)) != 0 || !sameList(impl.Held(nil, list), list) {
		t.Error("without the last one some are shown")
	}
	want := []impl.Write{list[len(list)-1], last}
	if !sameList(impl.Fitting(nil, all), all) || len(impl.Held(nil, all)) != 0 || !sameList(impl.Widest(nil, all), want) {
		t.Error("with the last one not all are shown")
	}
	var many []impl.Write
	for i := range impl.MaxSeq {
		many = append(many, put(5, tag(7, 1, 1+i), i))
	}
	if !sameList(impl.Fitting(nil, many), many) || !sameList(impl.Widest(nil, many), many[len(many)-1:]) {
		t.Error("many of one key")
	}
}

func seesNothing(t *testing.T, name string, m []impl.Write, more []impl.Write) {
	t.Helper()
	if fit, wide, held := impl.Fitting(m, more), impl.Widest(m, more), impl.Held(m, more); len(fit)+len(wide)+len(held) != 0 {
		t.Errorf("%s: Fitting = %v, Widest = %v, Held = %v", name, fit, wide, held)
	}
}

func TestSeenWrong(t *testing.T) {
	m := []impl.Write{put(0, tag(1, 0, 1), 7), put(1, tag(2, 1, 1), 8, dep(0, 1, 0, 1))}
	good, lacks := put(3, tag(3, 0, 1), 1), put(4, tag(3, 0, 1), 1, dep(5, 1, 0, 1))
	for name, bad := range badMaps() {
		for _, more := range [][]impl.Write{nil, {good}, {lacks}, m} {
			seesNothing(t, name, bad, more)
		}
	}
	for name, w := range badWrites() {
		for _, of := range [][]impl.Write{nil, m} {
			seesNothing(t, name+", alone", of, []impl.Write{w})
			seesNothing(t, name+", first", of, []impl.Write{w, good, lacks})
			seesNothing(t, name+", last", of, []impl.Write{good, lacks, w})
		}
		seesNothing(t, name+", behind many", m, append(slices.Repeat([]impl.Write{good}, 200), w))
	}
}

// TestCutsLeaveArguments: neither arguments nor the spare room behind them are written by a call, or by what is done to its answer.
func TestCutsLeaveArguments(t *testing.T) {
	pool := causal()
	for _, ms := range [][]impl.Write{nil, pool[:1], pool[:3], pool[1:3], {pool[1], pool[0]}} {
		for _, list := range [][]impl.Write{pool, {pool[5], pool[3], pool[0], pool[1]}, {pool[1], {}}} {
			m, more := roomy(ms), roomy(list)
			wholeM, wholeMore := wholeOf(m), wholeOf(more)
			impl.IsCut(m)
			for _, w := range more {
				impl.Covered(m, w.Deps)
				lacking := impl.Lacks(m, w.Deps)
				for i := range lacking[:cap(lacking)] {
					lacking[:cap(lacking)][i] = dep(-7, -7, -7, -7)
				}
			}
			spoil(impl.Fitting(m, more))
			spoil(impl.Widest(m, more))
			spoil(impl.Held(m, more))
			if !sameList(wholeOf(m), wholeM) || !sameList(wholeOf(more), wholeMore) {
				t.Fatalf("written into an argument: %v, %v", m, more)
			}
		}
	}
}

// TestCutsReadNoRoom: what lies behind a list's length changes no answer, and is not handed out.
func TestCutsReadNoRoom(t *testing.T) {
	x := put(2, tag(6, 0, 2), 2, dep(0, 1, 0, 1))
	alone := roomy([]impl.Write{x})
	if impl.IsCut(alone) || impl.Covered(alone, x.Deps) || len(impl.Lacks(alone, x.Deps)) != 1 || len(impl.Fitting(nil, alone)) != 0 {
		t.Error("what lies behind the list covers something")
	}
	m, more := roomy([]impl.Write{put(0, tag(2, 0, 1), 1)}), roomy([]impl.Write{x, put(3, tag(4, 0, 1), 1, dep(5, 1, 0, 1))})
	if !impl.IsCut(m) || !impl.Covered(m, more[0].Deps) || len(impl.Lacks(m, more[0].Deps)) != 0 {
		t.Error("what lies behind Deps is read")
	}
	fit, wide, held := impl.Fitting(m, more), impl.Widest(m, more), impl.Held(m, more)
	if !sameList(fit, []impl.Write{x}) || !sameList(wide, []impl.Write{m[0], x}) || !sameList(held, []impl.Write{more[1]}) {
		t.Errorf("Fitting = %v, Widest = %v, Held = %v", fit, wide, held)
	}
	for _, w := range slices.Concat(wholeOf(fit), wholeOf(wide), wholeOf(held)) {
		if w.Val == 88 || w.Val == 99 || slices.Contains(w.Deps, dep(8, 8, 8, 8)) {
			t.Errorf("what lies behind the list is handed out: %v", w)
		}
	}
}

// TestCutsShareNoLists: where arguments share their Deps, the lists of an answer don't, nor do those of two answers.
func TestCutsShareNoLists(t *testing.T) {
	deps := []impl.Dep{dep(0, 1, 0, 1), dep(1, 1, 0, 1)}
	m := []impl.Write{put(0, tag(2, 0, 1), 1), put(1, tag(2, 0, 1), 1, deps...), put(2, tag(2, 0, 2), 1, deps...)}
	more := []impl.Write{put(3, tag(2, 0, 3), 1, deps...), put(4, tag(2, 0, 4), 1, deps...)}
	for name, ask := range map[string]func() []impl.Write{
		"fitting":         func() []impl.Write { return impl.Fitting(m, more) },
		"widest":          func() []impl.Write { return impl.Widest(m, more) },
		"widest as it is": func() []impl.Write { return impl.Widest(m, m) },
		"held":            func() []impl.Write { return impl.Held(nil, more) },
	} {
		sharesNone(t, name, ask)
	}
	a := impl.Lacks(nil, deps)
	a[0] = dep(9, 9, 9, 9)
	if !slices.Equal(impl.Lacks(nil, deps), []impl.Dep{dep(0, 1, 0, 1), dep(1, 1, 0, 1)}) {
		t.Error("two answers of Lacks share memory")
	}
}
