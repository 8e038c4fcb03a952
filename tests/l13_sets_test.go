package tests

import (
	"math"
	"slices"
	"strconv"
	"testing"

	"loop.example/g00579/impl"
)

func mark(elem int, t impl.Tag) impl.Mark {
	return impl.Mark{Elem: elem, T: t}
}

func marks(list ...impl.Mark) []impl.Mark {
	return list
}

// setOf: a set of these marks, of whose tags (and of others) these are gone.
func setOf(list []impl.Mark, gone ...impl.Tag) impl.Set {
	return impl.Set{Marks: list, Gone: gone}
}

func copySet(s impl.Set) impl.Set {
	return impl.Set{Marks: slices.Clone(s.Marks), Gone: slices.Clone(s.Gone)}
}

func sameSet(a impl.Set, b impl.Set) bool {
	return slices.Equal(a.Marks, b.Marks) && slices.Equal(a.Gone, b.Gone)
}

func isNoSet(s impl.Set) bool {
	return len(s.Marks) == 0 && len(s.Gone) == 0
}

// edgeTags: tags in order, of which each two next to one another differ by Clock, by Site, or by Seq, the first and the last that are TagOk among them.
func edgeTags() []impl.Tag {
	return []impl.Tag{
		tag(1, 0, 1), tag(1, 0, 2), tag(1, 0, impl.MaxSeq), tag(1, 1, 1), tag(1, impl.MaxSites-1, impl.MaxSeq),
		tag(2, 0, 1), tag(2, 0, 3), tag(2, 2, 1), tag(2, 2, 2), tag(9, 1, 1), tag(10, 1, 1),
		tag(impl.MaxClock, 0, 1), tag(impl.MaxClock, impl.MaxSites-1, impl.MaxSeq-1), tag(impl.MaxClock, impl.MaxSites-1, impl.MaxSeq),
	}
}

// badTags: tags that are not TagOk, by one number each, most of them just not.
func badTags() []impl.Tag {
	return []impl.Tag{
		{}, tag(0, 0, 1), tag(impl.MaxClock+1, 0, 1), tag(1, -1, 1), tag(1, impl.MaxSites, 1), tag(1, 0, 0), tag(1, 0, impl.MaxSeq+1),
		tag(-1, 2, 3), tag(math.MaxInt, 2, 3), tag(math.MinInt, 2, 3), tag(3, math.MinInt, 2), tag(3, 2, math.MaxInt), tag(3, 2, math.MinInt),
	}
}

var edgeElems = []int{0, 1, 7, impl.MaxElem - 1, impl.MaxElem}

var badElems = []int{-1, impl.MaxElem + 1, -7, -impl.MaxElem, math.MinInt, math.MaxInt}

// setsOver: each set of these tags: each has no mark, or one of either of two elements, and is gone or not.
func setsOver(tags []impl.Tag) []impl.Set {
	all := []impl.Set{{}}
	for _, t := range tags {
		var next []impl.Set
		for _, s := range all {
			for _, ms := range [][]impl.Mark{nil, {mark(3, t)}, {mark(7, t)}} {
				for _, gone := range [][]impl.Tag{nil, {t}} {
					next = append(next, setOf(slices.Concat(s.Marks, ms), slices.Concat(s.Gone, gone)...))
				}
			}
		}
		all = next
	}
	return all
}

func someSets() []impl.Set {
	return setsOver([]impl.Tag{tag(1, 3, 9), tag(2, 0, 5), tag(2, 1, 1)})
}

// thrownSet: a set of n tags at most, of few different ones, with many marks of one element and with tags that are gone.
func thrownSet(d *dice, n int) impl.Set {
	var s impl.Set
	for clock := 1; len(s.Marks)+len(s.Gone) < n && clock < 3*n; clock++ {
		t := tag(clock, clock%3, 1+clock%5)
		if d.below(3) > 0 {
			s.Marks = append(s.Marks, mark(d.below(5), t))
		}
		if d.below(3) == 0 {
			s.Gone = append(s.Gone, t)
		}
	}
	return s
}

// badSets: sets that are not SetOk, each by one fault alone, but for the last ones.
func badSets() map[string]impl.Set {
	t1, t2, t3 := tag(1, 0, 2), tag(1, 1, 1), tag(2, 0, 1)
	bad := map[string]impl.Set{
		"marks alike":                   setOf(marks(mark(1, t1), mark(1, t1))),
		"marks of one tag":              setOf(marks(mark(1, t1), mark(2, t1))),
		"marks of one tag, falling":     setOf(marks(mark(2, t1), mark(1, t1))),
		"marks of one tag at last":      setOf(marks(mark(1, t1), mark(2, t2), mark(3, t2))),
		"marks alike, gone":             setOf(marks(mark(1, t1), mark(1, t1)), t1),
		"marks fall by Clock":           setOf(marks(mark(1, t3), mark(2, t2))),
		"marks fall by Site":            setOf(marks(mark(1, t2), mark(2, t1))),
		"marks fall by Seq":             setOf(marks(mark(1, t1), mark(2, tag(1, 0, 1)))),
		"marks fall at last":            setOf(marks(mark(1, t1), mark(2, t3), mark(3, t2))),
		"marks alike, one between":      setOf(marks(mark(1, t1), mark(2, t2), mark(1, t1))),
		"marks fall, their Elems rise":  setOf(marks(mark(1, t3), mark(2, t2), mark(3, t1))),
		"gone alike":                    setOf(nil, t1, t1),
		"gone alike at last":            setOf(marks(mark(1, t1)), t1, t2, t2),
		"gone falls by Clock":           setOf(marks(mark(1, t1)), t3, t1),
		"gone falls by Site":            setOf(nil, t2, t1),
		"gone falls by Seq":             setOf(nil, t1, tag(1, 0, 1)),
		"gone falls at last":            setOf(marks(mark(1, t1), mark(2, t2)), t1, t3, t2),
		"gone alike, one between":       setOf(nil, t1, t2, t1),
		"marks and gone, both alike":    setOf(marks(mark(1, t1), mark(1, t1)), t1, t1),
		"marks and gone, both fall":     setOf(marks(mark(1, t2), mark(1, t1)), t2, t1),
		"a zero mark":                   setOf(marks(impl.Mark{})),
		"a zero tag that is gone":       setOf(marks(mark(1, t1)), impl.Tag{}),
		"a wrong Elem that is gone":     setOf(marks(mark(impl.MaxElem+1, t1)), t1),
		"a wrong Elem that is gone, -1": setOf(marks(mark(-1, t1)), t1),
	}
	for i, e := range badElems {
		name := strconv.Itoa(i)
		bad["Elem alone "+name] = setOf(marks(mark(e, t1)))
		bad["the first Elem "+name] = setOf(marks(mark(e, t1), mark(1, t2)), t1)
		bad["the last Elem "+name] = setOf(marks(mark(1, t1), mark(2, t2), mark(e, t3)), t1)
	}
	for i, t := range badTags() {
		name := strconv.Itoa(i)
		bad["the tag of a mark "+name] = setOf(marks(mark(1, t)))
		bad["a tag that is gone "+name] = setOf(marks(mark(1, t1)), t)
		// One of these stands in order, the other does not.
		bad["the first tag of the marks "+name] = setOf(marks(mark(1, t), mark(1, t2)))
		bad["the last tag of the marks "+name] = setOf(marks(mark(1, t1), mark(1, t)))
		bad["the first tag that is gone "+name] = setOf(marks(mark(1, t1)), t, t2)
		bad["the last tag that is gone "+name] = setOf(marks(mark(1, t1)), t1, t)
	}
	return bad
}

// setOkBy, setHasBy, setElemsBy, setAddedBy, setTakenBy, setJoinedBy: by the words of the chapter, mark by mark, tag by tag.
func setOkBy(s impl.Set) bool {
	for i, m := range s.Marks {
		if m.Elem < 0 || m.Elem > 1000 || !impl.TagOk(m.T) || i > 0 && impl.TagCmp(s.Marks[i-1].T, m.T) != -1 {
			return false
		}
	}
	for i, t := range s.Gone {
		if !impl.TagOk(t) || i > 0 && impl.TagCmp(s.Gone[i-1], t) != -1 {
			return false
		}
	}
	return true
}

func setHasBy(s impl.Set, elem int) bool {
	return setOkBy(s) && slices.ContainsFunc(s.Marks, func(m impl.Mark) bool { return m.Elem == elem && !slices.Contains(s.Gone, m.T) })
}

func setElemsBy(s impl.Set) []int {
	var elems []int
	for e := -1; e <= 1001; e++ {
		if setHasBy(s, e) {
			elems = append(elems, e)
		}
	}
	return elems
}

func hasTag(s impl.Set, t impl.Tag) bool {
	return slices.Contains(s.Gone, t) || slices.ContainsFunc(s.Marks, func(m impl.Mark) bool { return m.T == t })
}

// inOrder: the set, its Marks and Gone put in order.
func inOrder(s impl.Set) impl.Set {
	slices.SortFunc(s.Marks, func(a impl.Mark, b impl.Mark) int { return impl.TagCmp(a.T, b.T) })
	slices.SortFunc(s.Gone, impl.TagCmp)
	return s
}

func setAddedBy(s impl.Set, elem int, t impl.Tag) (impl.Set, bool) {
	if !setOkBy(s) || elem < 0 || elem > 1000 || !impl.TagOk(t) || hasTag(s, t) {
		return impl.Set{}, false
	}
	out := copySet(s)
	out.Marks = append(out.Marks, mark(elem, t))
	return inOrder(out), true
}

func setTakenBy(s impl.Set, elem int) (impl.Set, bool) {
	if !setHasBy(s, elem) {
		return impl.Set{}, false
	}
	out := copySet(s)
	for _, m := range s.Marks {
		if m.Elem == elem && !slices.Contains(out.Gone, m.T) {
			out.Gone = append(out.Gone, m.T)
		}
	}
	return inOrder(out), true
}

func setJoinedBy(a impl.Set, b impl.Set) impl.Set {
	if !setOkBy(a) || !setOkBy(b) {
		return impl.Set{}
	}
	out := copySet(a)
	for _, m := range b.Marks {
		i := slices.IndexFunc(out.Marks, func(o impl.Mark) bool { return o.T == m.T })
		if i < 0 {
			out.Marks = append(out.Marks, m)
		} else {
			out.Marks[i].Elem = min(out.Marks[i].Elem, m.Elem)
		}
	}
	for _, t := range b.Gone {
		if !slices.Contains(out.Gone, t) {
			out.Gone = append(out.Gone, t)
		}
	}
	return inOrder(out)
}

// checkSet: what is told of a set is what the words of the chapter say.
func checkSet(t *testing.T, s impl.Set) {
	t.Helper()
	if got, want := impl.SetOk(s), setOkBy(s); got != want {
		t.Fatalf("SetOk(%v) = %v", s, got)
	}
	if got, want := impl.SetElems(s), setElemsBy(s); !slices.Equal(got, want) {
		t.Fatalf("SetElems(%v) = %v, want %v", s, got, want)
	}
	for e := -1; e <= 9; e++ {
		if got, want := impl.SetHas(s, e), setHasBy(s, e); got != want {
			t.Fatalf("SetHas(%v, %d) = %v", s, e, got)
		}
	}
}

// checkMarked: what SetAdd tells is what the words of the chapter say; where it is told, the set has the element, and all others as it had them.
func checkMarked(t *testing.T, s impl.Set, elem int, by impl.Tag) (impl.Set, bool) {
	t.Helper()
	got, ok := impl.SetAdd(s, elem, by)
	if want, is := setAddedBy(s, elem, by); ok != is || !sameSet(got, want) {
		t.Fatalf("SetAdd(%v, %d, %v) = %v, %v, want %v, %v", s, elem, by, got, ok, want, is)
	}
	if ok {
		checkSet(t, got)
		elems := append(setElemsBy(s), elem)
		slices.Sort(elems)
		if !impl.SetOk(got) || !impl.SetHas(got, elem) || !slices.Equal(impl.SetElems(got), slices.Compact(elems)) {
			t.Fatalf("SetAdd(%v, %d, %v) = %v, with %v", s, elem, by, got, impl.SetElems(got))
		}
	}
	return got, ok
}

// checkTaken: what SetTake tells is what the words of the chapter say; where it is told, the set has not the element, all others as it had them, and each mark.
func checkTaken(t *testing.T, s impl.Set, elem int) (impl.Set, bool) {
	t.Helper()
	got, ok := impl.SetTake(s, elem)
	if want, is := setTakenBy(s, elem); ok != is || !sameSet(got, want) {
		t.Fatalf("SetTake(%v, %d) = %v, %v, want %v, %v", s, elem, got, ok, want, is)
	}
	if ok {
		checkSet(t, got)
		elems := slices.DeleteFunc(setElemsBy(s), func(e int) bool { return e == elem })
		if !impl.SetOk(got) || impl.SetHas(got, elem) || !slices.Equal(impl.SetElems(got), elems) || !slices.Equal(got.Marks, s.Marks) {
			t.Fatalf("SetTake(%v, %d) = %v, with %v", s, elem, got, impl.SetElems(got))
		}
	}
	return got, ok
}

// checkJoined: promise 13, of two: what SetJoin tells is what the words of the chapter say, the same whichever comes first, and joined once more nothing changes.
func checkJoined(t *testing.T, a impl.Set, b impl.Set) impl.Set {
	t.Helper()
	got, back, want := impl.SetJoin(a, b), impl.SetJoin(b, a), setJoinedBy(a, b)
	if !sameSet(got, want) || !sameSet(back, want) || !impl.SetOk(got) {
		t.Fatalf("SetJoin of %v, %v = %v, backward %v, want %v", a, b, got, back, want)
	}
	for _, s := range []impl.Set{a, b, got} {
		if again := impl.SetJoin(got, s); !sameSet(again, got) {
			t.Fatalf("SetJoin(%v, %v) = %v", got, s, again)
		}
	}
	return got
}

func mustMark(t *testing.T, s impl.Set, elem int, by impl.Tag) impl.Set {
	t.Helper()
	got, ok := checkMarked(t, s, elem, by)
	if !ok {
		t.Fatalf("SetAdd(%v, %d, %v) is false", s, elem, by)
	}
	return got
}

func mustTake(t *testing.T, s impl.Set, elem int) impl.Set {
	t.Helper()
	got, ok := checkTaken(t, s, elem)
	if !ok {
		t.Fatalf("SetTake(%v, %d) is false", s, elem)
	}
	return got
}

func TestSetOk(t *testing.T) {
	if impl.MaxElem != 1000 {
		t.Errorf("MaxElem = %d", impl.MaxElem)
	}
	var whole []impl.Mark
	for i, by := range edgeTags() {
		whole = append(whole, mark(edgeElems[i%len(edgeElems)], by))
	}
	good := append(someSets(), impl.Set{}, impl.Set{Marks: []impl.Mark{}, Gone: []impl.Tag{}}, setOf(whole), setOf(nil, edgeTags()...), setOf(whole, edgeTags()...), setOf(whole[3:7], edgeTags()[5:]...))
	for _, by := range edgeTags() {
		for _, e := range edgeElems {
			good = append(good, setOf(marks(mark(e, by))), setOf(marks(mark(e, by)), by))
		}
		good = append(good, setOf(nil, by))
	}
	for _, s := range good {
		if !impl.SetOk(s) {
			t.Errorf("SetOk(%v) = false", s)
		}
	}
	for name, s := range badSets() {
		if impl.SetOk(s) {
			t.Errorf("%s: SetOk(%v) = true", name, s)
		}
	}
}

// TestSetOkRises: of each two tags, TagOk or not, in Marks and in Gone: just where both are and the first comes ahead of the second.
func TestSetOkRises(t *testing.T) {
	tags := append(edgeTags(), badTags()...)
	for i, one := range tags {
		for j, other := range tags {
			want := i < j && j < len(edgeTags())
			for _, e := range []int{0, 1, impl.MaxElem} {
				if s := setOf(marks(mark(1, one), mark(e, other))); impl.SetOk(s) != want {
					t.Errorf("SetOk(%v) = %v", s, !want)
				}
			}
			if s := setOf(marks(mark(1, tag(3, 0, 1))), one, other); impl.SetOk(s) != want {
				t.Errorf("SetOk(%v) = %v", s, !want)
			}
		}
	}
}

// TestSetElems: just those that the set has, rising, each once, whichever of their marks are gone.
func TestSetElems(t *testing.T) {
	t1, t2, t3, t4, t5 := tag(1, 0, 2), tag(1, 1, 1), tag(2, 0, 1), tag(2, 0, 2), tag(9, 3, 1)
	list := marks(mark(7, t1), mark(3, t2), mark(7, t3), mark(0, t4), mark(1000, t5))
	for name, x := range map[string]struct {
		s    impl.Set
		want []int
	}{
		"empty":                    {impl.Set{}, nil},
		"empty lists":              {impl.Set{Marks: []impl.Mark{}, Gone: []impl.Tag{}}, nil},
		"none is gone":             {setOf(list), []int{0, 3, 7, 1000}},
		"one of two marks is gone": {setOf(list, t1), []int{0, 3, 7, 1000}},
		"the other one is gone":    {setOf(list, t3), []int{0, 3, 7, 1000}},
		"both marks are gone":      {setOf(list, t1, t3), []int{0, 3, 1000}},
		"the one mark is gone":     {setOf(list, t2), []int{0, 7, 1000}},
		"0 is gone":                {setOf(list, t4), []int{3, 7, 1000}},
		"MaxElem is gone":          {setOf(list, t5), []int{0, 3, 7}},
		"all are gone":             {setOf(list, t1, t2, t3, t4, t5), nil},
		"what no mark has is gone": {setOf(list, tag(1, 0, 1), tag(2, 0, 3), tag(100, 0, 1)), []int{0, 3, 7, 1000}},
		"no marks":                 {setOf(nil, t1, t2), nil},
		"0 alone":                  {setOf(marks(mark(0, t1))), []int{0}},
		"MaxElem alone":            {setOf(marks(mark(1000, t1))), []int{1000}},
		"one element thrice":       {setOf(marks(mark(5, t1), mark(5, t2), mark(5, t3))), []int{5}},
		"thrice, two are gone":     {setOf(marks(mark(5, t1), mark(5, t2), mark(5, t3)), t1, t2), []int{5}},
		"falling":                  {setOf(marks(mark(9, t1), mark(8, t2), mark(7, t3), mark(10, t4))), []int{7, 8, 9, 10}},
	} {
		if got := impl.SetElems(x.s); !slices.Equal(got, x.want) {
			t.Errorf("%s: SetElems(%v) = %v, want %v", name, x.s, got, x.want)
		}
		for e := -2; e <= 1002; e++ {
			if got := impl.SetHas(x.s, e); got != slices.Contains(x.want, e) {
				t.Errorf("%s: SetHas(%v, %d) = %v", name, x.s, e, got)
			}
		}
		for _, e := range badElems {
			if impl.SetHas(x.s, e) {
				t.Errorf("%s: SetHas(%v, %d)", name, x.s, e)
			}
		}
	}
}

func TestSetElemsOfMany(t *testing.T) {
	d := dice(1301)
	for _, s := range someSets() {
		checkSet(t, s)
	}
	for i := range 2000 {
		checkSet(t, thrownSet(&d, i%40))
	}
	// Marks of all elements, falling while the tags rise.
	var all impl.Set
	for e := impl.MaxElem; e >= 0; e-- {
		all.Marks = append(all.Marks, mark(e, tag(2000-e, 0, 1)))
		if e%3 == 0 {
			all.Gone = append(all.Gone, tag(2000-e, 0, 1))
		}
	}
	checkSet(t, all)
	if got := impl.SetElems(all); len(got) != 667 || got[0] != 1 || got[666] != 1000 {
		t.Errorf("%d elements: %v", len(got), got)
	}
}

func TestSetAdd(t *testing.T) {
	t1, t2, t3 := tag(1, 0, 2), tag(1, 1, 1), tag(2, 0, 1)
	first, last := tag(1, 0, 1), tag(impl.MaxClock, impl.MaxSites-1, impl.MaxSeq)
	s := setOf(marks(mark(7, t1), mark(3, t3)), t1, t2)
	for name, x := range map[string]struct {
		s    impl.Set
		elem int
		by   impl.Tag
		want impl.Set
	}{
		"to an empty one":             {impl.Set{}, 7, t1, setOf(marks(mark(7, t1)))},
		"0":                           {impl.Set{}, 0, first, setOf(marks(mark(0, first)))},
		"MaxElem":                     {impl.Set{}, 1000, last, setOf(marks(mark(1000, last)))},
		"ahead of all":                {s, 9, first, setOf(marks(mark(9, first), mark(7, t1), mark(3, t3)), t1, t2)},
		"between, by Clock":           {s, 9, tag(1, 3, 9), setOf(marks(mark(7, t1), mark(9, tag(1, 3, 9)), mark(3, t3)), t1, t2)},
		"between, by Seq":             {s, 9, tag(1, 0, 3), setOf(marks(mark(7, t1), mark(9, tag(1, 0, 3)), mark(3, t3)), t1, t2)},
		"behind all, by Site":         {s, 9, tag(2, 1, 1), setOf(marks(mark(7, t1), mark(3, t3), mark(9, tag(2, 1, 1))), t1, t2)},
		"the last tag":                {s, 0, last, setOf(marks(mark(7, t1), mark(3, t3), mark(0, last)), t1, t2)},
		"an element that is there":    {s, 3, tag(3, 0, 1), setOf(marks(mark(7, t1), mark(3, t3), mark(3, tag(3, 0, 1))), t1, t2)},
		"an element that was taken":   {s, 7, tag(3, 0, 1), setOf(marks(mark(7, t1), mark(3, t3), mark(7, tag(3, 0, 1))), t1, t2)},
		"to one with no marks":        {setOf(nil, t1), 7, t2, setOf(marks(mark(7, t2)), t1)},
		"to one with none gone":       {setOf(marks(mark(7, t1))), 7, t2, setOf(marks(mark(7, t1), mark(7, t2)))},
		"by another Clock of one tag": {setOf(marks(mark(7, t1)), t1), 7, tag(2, 0, 2), setOf(marks(mark(7, t1), mark(7, tag(2, 0, 2))), t1)},
		"by another Site of one tag":  {setOf(marks(mark(7, t1)), t1), 7, tag(1, 1, 2), setOf(marks(mark(7, t1), mark(7, tag(1, 1, 2))), t1)},
		"by another Seq of one tag":   {setOf(marks(mark(7, t1)), t1), 7, tag(1, 0, 3), setOf(marks(mark(7, t1), mark(7, tag(1, 0, 3))), t1)},
	} {
		if got := mustMark(t, x.s, x.elem, x.by); !sameSet(got, x.want) {
			t.Errorf("%s: SetAdd(%v, %d, %v) = %v, want %v", name, x.s, x.elem, x.by, got, x.want)
		}
	}
}

// TestSetAddTagThere: a tag that is there already, in a mark, in Gone, or in both, adds nothing, neither the same element nor another.
func TestSetAddTagThere(t *testing.T) {
	t1, t2, t3, t4 := tag(1, 0, 2), tag(1, 1, 1), tag(2, 0, 1), tag(5, 0, 1)
	s := setOf(marks(mark(7, t1), mark(3, t2)), t2, t3)
	for name, by := range map[string]impl.Tag{"in a mark": t1, "in both": t2, "in Gone alone": t3} {
		for _, e := range append([]int{3, 7, 8}, edgeElems...) {
			if got, ok := impl.SetAdd(s, e, by); ok || !isNoSet(got) {
				t.Errorf("%s: SetAdd(%v, %d, %v) = %v, %v", name, s, e, by, got, ok)
			}
		}
	}
	for _, e := range []int{3, 7, 8} {
		mustMark(t, s, e, t4)
		// What was added, or added and taken, is there already.
		added := mustMark(t, impl.Set{}, e, t4)
		for _, again := range []impl.Set{added, mustTake(t, added, e), setOf(nil, t4), impl.SetJoin(s, added)} {
			for _, other := range []int{e, 0, 8} {
				if got, ok := impl.SetAdd(again, other, t4); ok || !isNoSet(got) {
					t.Errorf("SetAdd(%v, %d, %v) = %v, %v", again, other, t4, got, ok)
				}
			}
		}
	}
}

func TestSetAddOfMany(t *testing.T) {
	d := dice(1303)
	tags := append(append(edgeTags(), badTags()...), tag(1, 3, 9), tag(2, 0, 5), tag(2, 1, 1))
	for _, s := range someSets() {
		for _, by := range tags {
			for _, e := range []int{3, 7, 0, impl.MaxElem, -1, impl.MaxElem + 1} {
				checkMarked(t, s, e, by)
			}
		}
	}
	told := 0
	for i := range 3000 {
		clock := 1 + d.below(30)
		if _, ok := checkMarked(t, thrownSet(&d, i%30), d.below(6), tag(clock, clock%3, 1+clock%5)); ok {
			told++
		}
	}
	if told < 500 || told > 2500 {
		t.Errorf("%d of 3000 were told: too few of the one or the other", told)
	}
}

func TestSetTake(t *testing.T) {
	t1, t2, t3, t4 := tag(1, 0, 2), tag(1, 1, 1), tag(2, 0, 1), tag(5, 0, 1)
	list := marks(mark(7, t1), mark(3, t2), mark(7, t3), mark(7, t4))
	for name, x := range map[string]struct {
		s    impl.Set
		elem int
		gone []impl.Tag
	}{
		"of one mark":                      {setOf(list), 3, []impl.Tag{t2}},
		"of several":                       {setOf(list), 7, []impl.Tag{t1, t3, t4}},
		"of several, the first is gone":    {setOf(list, t1), 7, []impl.Tag{t1, t3, t4}},
		"of several, the midst is gone":    {setOf(list, t3), 7, []impl.Tag{t1, t3, t4}},
		"of several, the last is gone":     {setOf(list, t4), 7, []impl.Tag{t1, t3, t4}},
		"of several, all but one are gone": {setOf(list, t1, t4), 7, []impl.Tag{t1, t3, t4}},
		"another is gone":                  {setOf(list, t2), 7, []impl.Tag{t1, t2, t3, t4}},
		"tags that no mark has are gone":   {setOf(list, tag(1, 0, 1), tag(1, 1, 2), tag(9, 0, 1)), 3, []impl.Tag{tag(1, 0, 1), t2, tag(1, 1, 2), tag(9, 0, 1)}},
		"the others are gone":              {setOf(list, t1, t3, t4), 3, []impl.Tag{t1, t2, t3, t4}},
		"0":                                {setOf(marks(mark(0, t1))), 0, []impl.Tag{t1}},
		"MaxElem":                          {setOf(marks(mark(1000, t1), mark(1, t2))), 1000, []impl.Tag{t1}},
	} {
		got := mustTake(t, x.s, x.elem)
		if !slices.Equal(got.Gone, x.gone) || !slices.Equal(got.Marks, x.s.Marks) {
			t.Errorf("%s: SetTake(%v, %d) = %v, want %v gone", name, x.s, x.elem, got, x.gone)
		}
		if again, ok := impl.SetTake(got, x.elem); ok || !isNoSet(again) {
			t.Errorf("%s: SetTake(%v, %d) = %v, %v", name, got, x.elem, again, ok)
		}
	}
	for name, x := range map[string]struct {
		s    impl.Set
		elem int
	}{
		"of an empty one":             {impl.Set{}, 0},
		"of one with no marks":        {setOf(nil, t1, t2), 7},
		"not there":                   {setOf(list), 4},
		"taken already":               {setOf(list, t2), 3},
		"several, all taken already":  {setOf(list, t1, t3, t4), 7},
		"0, which no zero mark means": {setOf(list), 0},
		"-1":                          {setOf(list), -1},
		"MaxElem and 1":               {setOf(marks(mark(1000, t1))), 1001},
		"the least":                   {setOf(list), math.MinInt},
		"the greatest":                {setOf(list), math.MaxInt},
	} {
		if got, ok := impl.SetTake(x.s, x.elem); ok || !isNoSet(got) {
			t.Errorf("%s: SetTake(%v, %d) = %v, %v", name, x.s, x.elem, got, ok)
		}
	}
}

func TestSetTakeOfMany(t *testing.T) {
	d := dice(1305)
	for _, s := range someSets() {
		for _, e := range []int{3, 7, 0, impl.MaxElem, -1, impl.MaxElem + 1} {
			checkTaken(t, s, e)
		}
	}
	told := 0
	for i := range 3000 {
		if _, ok := checkTaken(t, thrownSet(&d, i%30), d.below(6)); ok {
			told++
		}
	}
	if told < 500 || told > 2500 {
		t.Errorf("%d of 3000 were told: too few of the one or the other", told)
	}
}

func TestSetJoin(t *testing.T) {
	t1, t2, t3, t4 := tag(1, 0, 2), tag(1, 1, 1), tag(2, 0, 1), tag(5, 0, 1)
	for name, x := range map[string]struct{ a, b, want impl.Set }{
		"empty":                      {impl.Set{}, impl.Set{}, impl.Set{}},
		"one is empty":               {setOf(marks(mark(7, t1), mark(3, t2)), t2, t3), impl.Set{}, setOf(marks(mark(7, t1), mark(3, t2)), t2, t3)},
		"each has its own":           {setOf(marks(mark(7, t1), mark(3, t3))), setOf(marks(mark(3, t2), mark(9, t4))), setOf(marks(mark(7, t1), mark(3, t2), mark(3, t3), mark(9, t4)))},
		"both have it":               {setOf(marks(mark(7, t1))), setOf(marks(mark(7, t1), mark(7, t2))), setOf(marks(mark(7, t1), mark(7, t2)))},
		"gone in one":                {setOf(marks(mark(7, t1))), setOf(marks(mark(7, t1)), t1), setOf(marks(mark(7, t1)), t1)},
		"gone where no mark is":      {setOf(marks(mark(7, t1))), setOf(nil, t1), setOf(marks(mark(7, t1)), t1)},
		"gone where no mark is, two": {setOf(marks(mark(7, t1)), t2), setOf(marks(mark(3, t2)), t1), setOf(marks(mark(7, t1), mark(3, t2)), t1, t2)},
		"gone each of its own":       {setOf(nil, t1, t3), setOf(nil, t2, t4), setOf(nil, t1, t2, t3, t4)},
		"gone in both":               {setOf(nil, t1, t3), setOf(nil, t1, t2), setOf(nil, t1, t2, t3)},
		"one tag, two elements":      {setOf(marks(mark(7, t1))), setOf(marks(mark(3, t1))), setOf(marks(mark(3, t1)))},
		"one tag, 0 and MaxElem":     {setOf(marks(mark(0, t1), mark(1000, t2))), setOf(marks(mark(1000, t1), mark(0, t2))), setOf(marks(mark(0, t1), mark(0, t2)))},
		"two elements, gone in one":  {setOf(marks(mark(7, t1))), setOf(marks(mark(3, t1)), t1), setOf(marks(mark(3, t1)), t1)},
		"two elements, the less":     {setOf(marks(mark(7, t1)), t1), setOf(marks(mark(3, t1), mark(7, t2))), setOf(marks(mark(3, t1), mark(7, t2)), t1)},
		"two elements in the midst":  {setOf(marks(mark(1, t1), mark(2, t2), mark(9, t3))), setOf(marks(mark(1, t2), mark(1, t4))), setOf(marks(mark(1, t1), mark(1, t2), mark(9, t3), mark(1, t4)))},
	} {
		for _, ab := range [][2]impl.Set{{x.a, x.b}, {x.b, x.a}} {
			if got := checkJoined(t, ab[0], ab[1]); !sameSet(got, x.want) {
				t.Errorf("%s: SetJoin(%v, %v) = %v, want %v", name, ab[0], ab[1], got, x.want)
			}
		}
	}
}

// TestSetJoinWhicheverFirst: promise 13, of each two of all sets of three tags, and of thrown ones.
func TestSetJoinWhicheverFirst(t *testing.T) {
	all := someSets()
	for _, a := range all {
		if got := impl.SetJoin(a, a); !sameSet(got, a) {
			t.Fatalf("SetJoin(%v, itself) = %v", a, got)
		}
		for _, b := range all {
			checkJoined(t, a, b)
		}
	}
	d := dice(1307)
	for i := range 2000 {
		checkSet(t, checkJoined(t, thrownSet(&d, i%30), thrownSet(&d, (i/7)%30)))
	}
}

// TestSetJoinOfThree: promise 13, of each three of all sets of two tags, and of thrown ones, in each order.
func TestSetJoinOfThree(t *testing.T) {
	check := func(a impl.Set, b impl.Set, c impl.Set) {
		t.Helper()
		want := impl.SetJoin(impl.SetJoin(a, b), c)
		if by := setJoinedBy(setJoinedBy(a, b), c); !sameSet(want, by) {
			t.Fatalf("of %v, %v, %v: SetJoin = %v, want %v", a, b, c, want, by)
		}
		for _, got := range []impl.Set{impl.SetJoin(a, impl.SetJoin(b, c)), impl.SetJoin(impl.SetJoin(c, a), b), impl.SetJoin(c, impl.SetJoin(b, a)), impl.SetJoin(impl.SetJoin(b, c), impl.SetJoin(a, b))} {
			if !sameSet(got, want) {
				t.Fatalf("of %v, %v, %v: SetJoin = %v and %v", a, b, c, got, want)
			}
		}
	}
	all := setsOver([]impl.Tag{tag(1, 3, 9), tag(2, 0, 5)})
	for _, a := range all {
		for _, b := range all {
			for _, c := range all {
				check(a, b, c)
			}
		}
	}
	d := dice(1309)
	for i := range 2000 {
		check(thrownSet(&d, i%20), thrownSet(&d, (i/3)%20), thrownSet(&d, (i/7)%20))
	}
}

// TestSetAddedWhileTaken: promise 13: what is added anew at one, while it is taken at another, stays, whichever of its tags the other knew; what is taken, and not added anew, is gone.
func TestSetAddedWhileTaken(t *testing.T) {
	anew, other := tag(6, 3, 1), tag(6, 2, 1)
	for _, s := range someSets() {
		for _, e := range []int{3, 7} {
			taken, ok := checkTaken(t, s, e)
			if !ok {
				continue
			}
			added := mustMark(t, s, e, anew)
			both := checkJoined(t, added, taken)
			if !impl.SetHas(both, e) || !slices.Equal(impl.SetElems(both), impl.SetElems(s)) || !slices.Equal(both.Gone, taken.Gone) {
				t.Fatalf("of %v: %d added with %v, taken elsewhere: %v, with %v", s, e, anew, both, impl.SetElems(both))
			}
			gone := checkJoined(t, s, taken)
			if impl.SetHas(gone, e) || !sameSet(gone, taken) {
				t.Fatalf("of %v: %d taken, then %v", s, e, gone)
			}
			beside := checkJoined(t, mustMark(t, s, 5, other), taken)
			if impl.SetHas(beside, e) || !impl.SetHas(beside, 5) {
				t.Fatalf("of %v: %d taken, while 5 was added: %v", s, e, beside)
			}
			// Taken at both, it is gone; added at both, it stays; and once all know the new tag, it may be taken for good.
			twice := checkJoined(t, mustTake(t, added, e), taken)
			if impl.SetHas(twice, e) || !slices.Contains(twice.Gone, anew) {
				t.Fatalf("of %v: %d taken at both: %v", s, e, twice)
			}
			if stays := checkJoined(t, added, mustMark(t, taken, e, other)); !impl.SetHas(stays, e) || !impl.SetHas(checkJoined(t, stays, mustTake(t, added, e)), e) {
				t.Fatalf("of %v: %d added at both: %v", s, e, stays)
			}
			end := mustTake(t, both, e)
			for _, late := range []impl.Set{s, taken, added, both, end} {
				if got := checkJoined(t, late, end); impl.SetHas(got, e) || !sameSet(got, end) {
					t.Fatalf("of %v: %d taken for good, then comes %v: %v", s, e, late, got)
				}
			}
		}
	}
}

// TestSetTakenOfOther: a tag that is gone ahead of its mark takes the mark when it comes, of whatever element.
func TestSetTakenOfOther(t *testing.T) {
	by := tag(4, 1, 2)
	for _, e := range edgeElems {
		s := mustMark(t, impl.Set{}, e, by)
		got := checkJoined(t, s, setOf(nil, by))
		if impl.SetHas(got, e) || len(impl.SetElems(got)) != 0 || !slices.Equal(got.Marks, s.Marks) {
			t.Errorf("of %v, with its tag gone: %v", s, got)
		}
		anew := mustMark(t, got, e, tag(4, 1, 3))
		if !slices.Equal(impl.SetElems(checkJoined(t, anew, got)), []int{e}) {
			t.Errorf("%d was added anew: %v", e, anew)
		}
	}
}

// TestSetOfCourses: promise 13: sites add by tags of their own and take what they have, and take in what others told, late, doubled, in any order or never: each has an element just where there is a mark that it knows and knows nobody to have taken; and when all have seen all, all have the same.
func TestSetOfCourses(t *testing.T) {
	d := dice(1311)
	kept, lost := 0, 0
	for range 300 {
		var sites [impl.MaxSites]impl.Set
		var added, taken [impl.MaxSites]map[impl.Tag]int
		for i := range sites {
			added[i], taken[i] = map[impl.Tag]int{}, map[impl.Tag]int{}
		}
		merge := func(to map[impl.Tag]int, from map[impl.Tag]int) {
			for by, e := range from {
				to[by] = e
			}
		}
		for step := range 50 {
			site, e := d.below(impl.MaxSites), d.below(4)
			switch d.below(4) {
			case 0:
				by := tag(step+1, site, 1)
				sites[site] = mustMark(t, sites[site], e, by)
				added[site][by] = e
			case 1:
				next, ok := checkTaken(t, sites[site], e)
				if !ok {
					continue
				}
				sites[site] = next
				for by, of := range added[site] {
					if of == e {
						taken[site][by] = e
					}
				}
			default:
				from := d.below(impl.MaxSites)
				sites[site] = checkJoined(t, sites[site], sites[from])
				merge(added[site], added[from])
				merge(taken[site], taken[from])
			}
			var want []int
			for by, of := range added[site] {
				if _, gone := taken[site][by]; !gone {
					want = append(want, of)
				}
			}
			slices.Sort(want)
			if got := impl.SetElems(sites[site]); !slices.Equal(got, slices.Compact(want)) {
				t.Fatalf("site %d has %v, with %v, want %v", site, sites[site], got, want)
			}
		}
		all := []impl.Set{sites[0], sites[1], sites[2], sites[3], sites[d.below(4)], sites[d.below(4)]}
		var ends []impl.Set
		for range 4 {
			var end impl.Set
			for i := range all {
				j := i + d.below(len(all)-i)
				all[i], all[j] = all[j], all[i]
				end = impl.SetJoin(end, all[i])
			}
			ends = append(ends, end)
		}
		for _, end := range ends {
			if !sameSet(end, ends[0]) {
				t.Fatalf("when all have seen all: %v and %v", end, ends[0])
			}
		}
		elems := impl.SetElems(ends[0])
		kept += len(elems)
		lost += 4 - len(elems)
	}
	if kept < 200 || lost < 200 {
		t.Errorf("%d elements stayed, %d did not: too few to tell", kept, lost)
	}
}

// TestSetWrong: of a set that is not SetOk, as the one argument, the other, or both.
func TestSetWrong(t *testing.T) {
	t1, t9 := tag(1, 0, 2), tag(9, 0, 1)
	good := []impl.Set{{}, setOf(marks(mark(1, t1))), setOf(marks(mark(1, t1), mark(7, t9)), t1), setOf(nil, t1)}
	all := badSets()
	for name, bad := range all {
		for _, s := range good {
			for _, x := range [][2]impl.Set{{bad, s}, {s, bad}, {bad, bad}} {
				if got := impl.SetJoin(x[0], x[1]); !isNoSet(got) {
					t.Errorf("%s: SetJoin(%v, %v) = %v", name, x[0], x[1], got)
				}
			}
		}
		for other, worse := range all {
			if got := impl.SetJoin(bad, worse); !isNoSet(got) {
				t.Errorf("%s, %s: SetJoin = %v", name, other, got)
			}
		}
		if got := impl.SetElems(bad); len(got) != 0 {
			t.Errorf("%s: SetElems(%v) = %v", name, bad, got)
		}
		for _, e := range slices.Concat([]int{2, 3}, edgeElems, badElems) {
			if impl.SetHas(bad, e) {
				t.Errorf("%s: SetHas(%v, %d)", name, bad, e)
			}
			if got, ok := impl.SetTake(bad, e); ok || !isNoSet(got) {
				t.Errorf("%s: SetTake(%v, %d) = %v, %v", name, bad, e, got, ok)
			}
			for _, by := range append(edgeTags(), t1, impl.Tag{}) {
				if got, ok := impl.SetAdd(bad, e, by); ok || !isNoSet(got) {
					t.Errorf("%s: SetAdd(%v, %d, %v) = %v, %v", name, bad, e, by, got, ok)
				}
			}
		}
	}
}

// TestSetAddWrong: what is no element, or no tag, is added to no set.
func TestSetAddWrong(t *testing.T) {
	good := tag(4, 1, 1)
	for _, s := range append(someSets(), setOf(nil, edgeTags()...)) {
		for _, e := range badElems {
			if got, ok := impl.SetAdd(s, e, good); ok || !isNoSet(got) {
				t.Errorf("SetAdd(%v, %d, %v) = %v, %v", s, e, good, got, ok)
			}
		}
		for _, by := range badTags() {
			for _, e := range []int{0, 7, -1, impl.MaxElem} {
				if got, ok := impl.SetAdd(s, e, by); ok || !isNoSet(got) {
					t.Errorf("SetAdd(%v, %d, %v) = %v, %v", s, e, by, got, ok)
				}
			}
		}
	}
	for _, e := range edgeElems {
		for _, by := range edgeTags() {
			mustMark(t, setOf(marks(mark(7, good)), good), e, by)
		}
	}
}

// TestSetsOfVeryMany: large sets take no look at all others for each of their tags.
func TestSetsOfVeryMany(t *testing.T) {
	var odd, even impl.Set
	for clock := 1; clock <= impl.MaxClock; clock++ {
		s := &odd
		if clock%2 == 0 {
			s = &even
		}
		s.Marks = append(s.Marks, mark(clock%1000, tag(clock, 1, 1)))
		if clock%3 == 0 {
			s.Gone = append(s.Gone, tag(clock, 1, 1))
		}
	}
	got := impl.SetJoin(odd, even)
	if len(got.Marks) != impl.MaxClock || len(got.Gone) != impl.MaxClock/3 || len(impl.SetElems(got)) != 1000 || !impl.SetOk(got) {
		t.Fatalf("%d marks, %d are gone", len(got.Marks), len(got.Gone))
	}
	taken, ok := impl.SetTake(got, 7)
	if !ok || impl.SetHas(taken, 7) || len(taken.Gone) != len(got.Gone)+67 || len(taken.Marks) != len(got.Marks) {
		t.Fatalf("%v: %d marks, %d are gone", ok, len(taken.Marks), len(taken.Gone))
	}
	if anew, ok := impl.SetAdd(taken, 7, tag(5, 2, 1)); !ok || !impl.SetHas(anew, 7) || len(anew.Marks) != len(got.Marks)+1 || anew.Marks[5].Elem != 7 {
		t.Fatalf("%v: %d marks", ok, len(anew.Marks))
	}
}

// roomySet: the set, with spare room behind each list, in which marks and tags lie that would be in order.
func roomySet(s impl.Set) impl.Set {
	late := []impl.Tag{tag(70, 0, 1), tag(80, 0, 1), tag(90, 0, 1)}
	return impl.Set{
		Marks: append(slices.Clone(s.Marks), mark(88, late[0]), mark(99, late[1]))[:len(s.Marks)],
		Gone:  append(slices.Clone(s.Gone), late...)[:len(s.Gone)],
	}
}

func wholeSet(s impl.Set) impl.Set {
	return copySet(impl.Set{Marks: s.Marks[:cap(s.Marks)], Gone: s.Gone[:cap(s.Gone)]})
}

func spoilMarks(list []impl.Mark) {
	list = list[:cap(list)]
	for i := range list {
		list[i] = mark(-7, tag(-7, -7, -7))
	}
}

func spoilTags(list []impl.Tag) {
	list = list[:cap(list)]
	for i := range list {
		list[i] = tag(-7, -7, -7)
	}
}

// setCalls: each that answers a set, of what it takes and of what it refuses.
func setCalls() map[string]func(a impl.Set, b impl.Set) impl.Set {
	told := func(s impl.Set, _ bool) impl.Set { return s }
	wrong := func(s impl.Set) impl.Set {
		return impl.Set{Marks: s.Marks, Gone: slices.Concat(s.Gone, edgeTags()[:1], edgeTags()[:1])}
	}
	return map[string]func(a impl.Set, b impl.Set) impl.Set{
		"SetJoin":           impl.SetJoin,
		"SetJoin, turned":   func(a impl.Set, b impl.Set) impl.Set { return impl.SetJoin(b, a) },
		"SetJoin of one":    func(a impl.Set, b impl.Set) impl.Set { return impl.SetJoin(a, a) },
		"SetJoin and none":  func(a impl.Set, b impl.Set) impl.Set { return impl.SetJoin(a, impl.Set{}) },
		"SetJoin to none":   func(a impl.Set, b impl.Set) impl.Set { return impl.SetJoin(impl.Set{}, b) },
		"SetJoin of wrong":  func(a impl.Set, b impl.Set) impl.Set { return impl.SetJoin(wrong(a), b) },
		"SetAdd":            func(a impl.Set, b impl.Set) impl.Set { return told(impl.SetAdd(a, 5, tag(50, 0, 1))) },
		"SetAdd ahead":      func(a impl.Set, b impl.Set) impl.Set { return told(impl.SetAdd(b, 5, tag(1, 0, 1))) },
		"SetAdd, tag there": func(a impl.Set, b impl.Set) impl.Set { return told(impl.SetAdd(a, 5, tag(2, 0, 1))) },
		"SetAdd to wrong":   func(a impl.Set, b impl.Set) impl.Set { return told(impl.SetAdd(wrong(b), 5, tag(50, 0, 1))) },
		"SetTake":           func(a impl.Set, b impl.Set) impl.Set { return told(impl.SetTake(a, 7)) },
		"SetTake of other":  func(a impl.Set, b impl.Set) impl.Set { return told(impl.SetTake(b, 3)) },
		"SetTake of none":   func(a impl.Set, b impl.Set) impl.Set { return told(impl.SetTake(a, 0)) },
		"SetTake of wrong":  func(a impl.Set, b impl.Set) impl.Set { return told(impl.SetTake(wrong(a), 7)) },
	}
}

// setPairs: twos of sets, with marks and tags of which one has more, or both have some; in the last ones both share their lists.
func setPairs() [][2]impl.Set {
	t1, t2, t3, t4 := tag(1, 1, 1), tag(2, 0, 1), tag(3, 0, 1), tag(4, 2, 2)
	list, tags := marks(mark(7, t1), mark(3, t2), mark(7, t3), mark(3, t4)), []impl.Tag{t1, t2, t3, t4}
	one := setOf(list, tags[0])
	return [][2]impl.Set{
		{{}, {}},
		{{}, setOf(marks(mark(7, t1), mark(3, t2)), t1)},
		{setOf(marks(mark(7, t1), mark(3, t2)), t1, t3), setOf(marks(mark(7, t1), mark(3, t2)), t1, t3)},
		{setOf(marks(mark(7, t1), mark(3, t3))), setOf(marks(mark(3, t2), mark(7, t4)), t1)},
		{setOf(marks(mark(7, t1), mark(7, t2), mark(7, t3)), t2), setOf(marks(mark(3, t1), mark(3, t3)), t4)},
		{setOf(nil, t2, t3), setOf(marks(mark(3, t2), mark(3, t3)))},
		{one, one},
		{one, setOf(list[1:3], tags[1:2]...)},
		{setOf(list[:2], tags[2:]...), setOf(list[2:], tags[:2]...)},
	}
}

// TestSetsLeaveArguments: neither arguments nor the room behind them are written by a call, or by what is done to its answer; and what lies in that room changes no answer, and is not handed out.
func TestSetsLeaveArguments(t *testing.T) {
	for _, x := range setPairs() {
		for name, call := range setCalls() {
			a, b := roomySet(x[0]), roomySet(x[1])
			wholeA, wholeB := wholeSet(a), wholeSet(b)
			got := call(a, b)
			if want := call(copySet(x[0]), copySet(x[1])); !sameSet(got, want) {
				t.Errorf("%s of %v: what lies behind a list is read: %v, want %v", name, x, got, want)
			}
			behind := func(m impl.Mark) bool { return m != impl.Mark{} }
			if slices.ContainsFunc(got.Marks[len(got.Marks):cap(got.Marks)], behind) || slices.ContainsFunc(got.Gone[len(got.Gone):cap(got.Gone)], func(by impl.Tag) bool { return by != impl.Tag{} }) {
				t.Errorf("%s of %v: what lies behind a list is handed out: %v", name, x, wholeSet(got))
			}
			if !impl.SetOk(a) || impl.SetHas(a, 88) || impl.SetHas(b, 99) {
				t.Errorf("of %v: what lies behind a list is read", x)
			}
			elems := impl.SetElems(a)
			if !slices.Equal(elems, setElemsBy(x[0])) {
				t.Errorf("of %v: SetElems = %v", x, elems)
			}
			spoilPlaces(elems)
			spoilMarks(got.Marks)
			spoilTags(got.Gone)
			if !sameSet(wholeSet(a), wholeA) || !sameSet(wholeSet(b), wholeB) {
				t.Errorf("%s of %v: written into an argument: %v, %v", name, x, wholeSet(a), wholeSet(b))
			}
			one, other := copySet(x[0]), copySet(x[1])
			got = call(x[0], x[1])
			spoilMarks(got.Marks)
			spoilTags(got.Gone)
			if !sameSet(x[0], one) || !sameSet(x[1], other) {
				t.Fatalf("%s: written into an argument: %v, was %v, %v", name, x, one, other)
			}
		}
	}
}

// TestSetsLeaveWrong: also an argument that is refused stays as it is, in whatever order its lists are.
func TestSetsLeaveWrong(t *testing.T) {
	good := setOf(marks(mark(7, tag(1, 1, 1))), tag(2, 0, 1))
	for name, bad := range badSets() {
		was := copySet(bad)
		impl.SetOk(bad)
		impl.SetHas(bad, 1)
		impl.SetElems(bad)
		impl.SetTake(bad, 1)
		impl.SetAdd(bad, 1, tag(50, 0, 1))
		impl.SetJoin(bad, good)
		impl.SetJoin(good, bad)
		if !sameSet(bad, was) {
			t.Errorf("%s: written into an argument: %v, was %v", name, bad, was)
		}
	}
}

// TestSetsNewMemory: Marks and Gone of an answer share none with those of another answer.
func TestSetsNewMemory(t *testing.T) {
	for _, x := range setPairs() {
		for name, call := range setCalls() {
			want := copySet(call(x[0], x[1]))
			first, spoilt := call(x[0], x[1]), call(x[0], x[1])
			spoilMarks(spoilt.Marks)
			spoilTags(spoilt.Gone)
			_, _ = append(first.Marks, mark(-7, tag(-7, -7, -7))), append(first.Gone, tag(-7, -7, -7))
			if again := call(x[0], x[1]); !sameSet(first, want) || !sameSet(again, want) {
				t.Errorf("%s of %v: two answers share memory: %v, %v, want %v", name, x, first, again, want)
			}
		}
		want := setElemsBy(x[0])
		first := impl.SetElems(x[0])
		spoilPlaces(impl.SetElems(x[0]))
		if again := impl.SetElems(x[0]); !slices.Equal(first, want) || !slices.Equal(again, want) {
			t.Errorf("SetElems of %v: two answers share memory: %v, %v, want %v", x[0], first, again, want)
		}
	}
}

// TestSetsSameEachTime: no call keeps anything for another one, and no answer hangs on how a map is gone through.
func TestSetsSameEachTime(t *testing.T) {
	d := dice(1313)
	a, b := thrownSet(&d, 40), thrownSet(&d, 40)
	want, elems := setJoinedBy(a, b), setElemsBy(a)
	for i := range 200 {
		s := thrownSet(&d, i%40)
		impl.SetAdd(s, d.below(5), tag(99, 0, 1))
		impl.SetTake(s, d.below(5))
		impl.SetJoin(s, a)
		if got := impl.SetJoin(a, b); !sameSet(got, want) || !slices.Equal(impl.SetElems(a), elems) {
			t.Fatalf("SetJoin(%v, %v) = %v, then %v", a, b, want, got)
		}
		checkMarked(t, a, 3, tag(99, 0, 1))
		checkTaken(t, b, setElemsBy(b)[0])
	}
}
