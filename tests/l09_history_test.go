package tests

import (
	"math"
	"math/big"
	"reflect"
	"slices"
	"testing"

	"loop.example/g00579/impl"
)

func wrote(site int, ws ...impl.Write) impl.Event {
	return impl.Event{Site: site, Ws: ws}
}

func showed(site int, mask int, ws ...impl.Write) impl.Event {
	return impl.Event{Site: site, Shown: true, Mask: mask, Ws: ws}
}

// on: what a write says that is because of w.
func on(w impl.Write) impl.Dep {
	return impl.Dep{Key: w.Key, T: w.T}
}

func hasWrite(list []impl.Write, w impl.Write) bool {
	return slices.ContainsFunc(list, func(o impl.Write) bool { return sameWrite(o, w) })
}

// bitOf: whether the key's bit is set, by numbers of any size.
func bitOf(mask int, key int) bool {
	if mask < 0 || key < 0 {
		return false
	}
	return big.NewInt(int64(mask)).Bit(key) == 1
}

// hasAsLate: among the writes is one of the key that is as late as t.
func hasAsLate(list []impl.Write, key int, t impl.Tag) bool {
	return slices.ContainsFunc(list, func(o impl.Write) bool { return o.Key == key && impl.TagCmp(o.T, t) >= 0 })
}

// writtenBy, causesBy, gapsBy, backsBy, inventionsBy: by the words of the chapter, each write held against each.
func writtenBy(list []impl.Event) []impl.Write {
	var out []impl.Write
	for _, e := range list {
		for _, w := range e.Ws {
			if !e.Shown && !hasWrite(out, w) {
				out = append(out, w)
			}
		}
	}
	return out
}

func causesBy(list []impl.Event, w impl.Write) []impl.Write {
	written := writtenBy(list)
	var out []impl.Write
	say := func(w impl.Write) {
		for _, d := range w.Deps {
			for _, o := range written {
				if o.Key == d.Key && o.T == d.T && !hasWrite(out, o) {
					out = append(out, o)
				}
			}
		}
	}
	say(w)
	for i := 0; i < len(out); i++ {
		say(out[i])
	}
	return out
}

func gapsBy(list []impl.Event, at int) []impl.Write {
	if at < 0 || at >= len(list) || !list[at].Shown {
		return nil
	}
	var out []impl.Write
	for _, w := range list[at].Ws {
		for _, c := range causesBy(list, w) {
			if bitOf(list[at].Mask, c.Key) && !hasAsLate(list[at].Ws, c.Key, c.T) && !hasWrite(out, c) {
				out = append(out, c)
			}
		}
	}
	return out
}

func backsBy(list []impl.Event) []int {
	var out []int
	for i, e := range list {
		back := false
		for _, ahead := range list[:i] {
			for _, w := range ahead.Ws {
				back = back || e.Shown && ahead.Site == e.Site && bitOf(e.Mask, w.Key) && !hasAsLate(e.Ws, w.Key, w.T)
			}
		}
		if back {
			out = append(out, i)
		}
	}
	return out
}

func inventionsBy(list []impl.Event) []int {
	var out []int
	for i, e := range list {
		if e.Shown && slices.ContainsFunc(e.Ws, func(w impl.Write) bool { return !hasWrite(writtenBy(list[:i]), w) }) {
			out = append(out, i)
		}
	}
	return out
}

// eventsBy: the events of acts and their replies, as many of each.
func eventsBy(acts []impl.Act, replies []impl.Reply) []impl.Event {
	var out []impl.Event
	for i, a := range acts {
		r := replies[i]
		put := a.Kind == impl.AcPut || a.Kind == impl.AcDel || a.Kind == impl.AcBreak
		get := a.Kind == impl.AcGet && a.B >= 0 && a.B < impl.MaxKeys
		snap := a.Kind == impl.AcSnap && a.D >= 0
		if put && (r.Code == impl.RpOK || r.Code == impl.RpBroke) && len(r.Ws) > 0 {
			out = append(out, wrote(a.A, r.Ws...))
		}
		if get && (r.Code == impl.RpOK || r.Code == impl.RpNone) {
			out = append(out, showed(a.A, []int{1, 2, 4, 8, 16, 32}[a.B], r.Ws...))
		}
		if snap && (r.Code == impl.RpOK || r.Code == impl.RpNone) {
			out = append(out, showed(a.A, a.D, r.Ws...))
		}
	}
	return out
}

func sameEvent(a impl.Event, b impl.Event) bool {
	return a.Site == b.Site && a.Shown == b.Shown && a.Mask == b.Mask && sameList(a.Ws, b.Ws)
}

func sameEvents(a []impl.Event, b []impl.Event) bool {
	return slices.EqualFunc(a, b, sameEvent)
}

// faults: how many gaps, steps back and inventions there are.
type faults struct{ gaps, backs, inventions int }

// checkHistory: what is told of a history is what the words of the chapter say.
func checkHistory(t *testing.T, list []impl.Event) faults {
	t.Helper()
	var f faults
	if got, want := impl.Written(list), writtenBy(list); !sameList(got, want) {
		t.Fatalf("Written(%v) = %v, want %v", list, got, want)
	}
	for _, e := range list {
		for _, w := range e.Ws {
			if got, want := impl.CausesOf(list, w), causesBy(list, w); !sameList(got, want) {
				t.Fatalf("CausesOf(%v, %v) = %v, want %v", list, w, got, want)
			}
		}
	}
	for at := -2; at <= len(list)+1; at++ {
		got, want := impl.Gaps(list, at), gapsBy(list, at)
		if !sameList(got, want) {
			t.Fatalf("Gaps(%v, %d) = %v, want %v", list, at, got, want)
		}
		f.gaps += len(got)
	}
	backs, inventions := impl.Backs(list), impl.Inventions(list)
	if want := backsBy(list); !slices.Equal(backs, want) {
		t.Fatalf("Backs(%v) = %v, want %v", list, backs, want)
	}
	if want := inventionsBy(list); !slices.Equal(inventions, want) {
		t.Fatalf("Inventions(%v) = %v, want %v", list, inventions, want)
	}
	f.backs, f.inventions = len(backs), len(inventions)
	return f
}

func TestWritten(t *testing.T) {
	a, b, c := put(0, tag(1, 0, 1), 7), put(1, tag(2, 1, 1), 8, dep(0, 1, 0, 1)), gone(0, tag(3, 0, 2), dep(0, 1, 0, 1), dep(1, 2, 1, 1))
	for name, x := range map[string]struct {
		list []impl.Event
		want []impl.Write
	}{
		"no events":                    {nil, nil},
		"an empty list":                {[]impl.Event{}, nil},
		"no writes":                    {[]impl.Event{wrote(0), wrote(1), showed(0, 63)}, nil},
		"one":                          {[]impl.Event{wrote(0, a)}, []impl.Write{a}},
		"only shown":                   {[]impl.Event{showed(0, 63, a, b), showed(1, 63, c)}, nil},
		"in order":                     {[]impl.Event{wrote(0, c), wrote(1, b), wrote(0, a)}, []impl.Write{c, b, a}},
		"several in one":               {[]impl.Event{wrote(0, c, a, b)}, []impl.Write{c, a, b}},
		"the same in one":              {[]impl.Event{wrote(0, b, b, a, b)}, []impl.Write{b, a}},
		"the same in several":          {[]impl.Event{wrote(0, a, b), wrote(0, c, a), wrote(1, b), wrote(2, c)}, []impl.Write{a, b, c}},
		"shown ahead and behind":       {[]impl.Event{showed(0, 63, a, c), wrote(0, b), showed(1, 63, b, c), wrote(0, a), showed(1, 63, a)}, []impl.Write{b, a}},
		"shown with a mask of nothing": {[]impl.Event{showed(0, 0, a), wrote(0, b), showed(0, -1, c)}, []impl.Write{b}},
		"writes that are not in order": {[]impl.Event{wrote(-9, impl.Write{}, put(-1, tag(-1, 9, 0), math.MinInt), impl.Write{}, impl.Write{Deps: []impl.Dep{}})}, []impl.Write{{}, put(-1, tag(-1, 9, 0), math.MinInt)}},
	} {
		if got := impl.Written(x.list); !sameList(got, x.want) {
			t.Errorf("%s: Written = %v, want %v", name, got, x.want)
		}
		checkHistory(t, x.list)
	}
	// What WriteCmp tells apart is not the same, however little it is.
	all := rising(3)
	for _, w := range all {
		other := w
		other.Key = 4
		all = append(all, other)
	}
	if got := impl.Written([]impl.Event{wrote(0, all...), wrote(1, all...)}); !sameList(got, all) {
		t.Errorf("Written = %v, want %v", got, all)
	}
}

func TestCausesOf(t *testing.T) {
	a, b := put(0, tag(1, 0, 1), 1), put(1, tag(1, 1, 1), 2)
	c := put(2, tag(2, 0, 2), 3, on(a))
	d := put(3, tag(2, 1, 2), 4, on(a), on(b))
	e := put(4, tag(3, 0, 3), 5, on(c), on(d))
	f := put(5, tag(4, 2, 1), 6, on(e))
	all := []impl.Event{wrote(0, a), wrote(1, b), wrote(0, c), wrote(1, d), wrote(0, e), wrote(2, f)}
	shown := []impl.Event{wrote(0, a), showed(1, 63, b, c), wrote(1, d)}
	for name, x := range map[string]struct {
		list []impl.Event
		w    impl.Write
		want []impl.Write
	}{
		"of no events":              {nil, c, nil},
		"of none":                   {all, a, nil},
		"of one":                    {all, c, []impl.Write{a}},
		"of two":                    {all, d, []impl.Write{a, b}},
		"causes of causes":          {all, e, []impl.Write{c, d, a, b}},
		"and so on":                 {all, f, []impl.Write{e, c, d, a, b}},
		"in the order of the Deps":  {all, put(5, tag(9, 0, 9), 0, on(d), on(b), on(c), on(a)), []impl.Write{d, b, c, a}},
		"a Dep twice":               {all, put(5, tag(9, 0, 9), 0, on(b), on(a), on(b), on(a)), []impl.Write{b, a}},
		"of one that nobody wrote":  {all, put(0, tag(77, 3, 7), 0, on(c)), []impl.Write{c, a}},
		"a Dep that nobody wrote":   {all, put(0, tag(77, 3, 7), 0, dep(0, 70, 0, 70), on(c), dep(9, 9, 9, 9)), []impl.Write{c, a}},
		"the same T, another Key":   {all, put(0, tag(77, 3, 7), 0, impl.Dep{Key: 1, T: a.T}), nil},
		"the same Key, another T":   {all, put(0, tag(77, 3, 7), 0, dep(0, 1, 0, 2), dep(0, 1, 1, 1), dep(0, 2, 0, 1)), nil},
		"shown only is not written": {shown, put(5, tag(9, 0, 9), 0, on(b), on(c), on(d)), []impl.Write{d, a}},
		"a cause that is late":      {shown, put(5, tag(1, 0, 1), 0, on(d)), []impl.Write{d, a}},
	} {
		if got := impl.CausesOf(x.list, x.w); !sameList(got, x.want) {
			t.Errorf("%s: CausesOf = %v, want %v", name, got, x.want)
		}
		backward := slices.Clone(x.list)
		slices.Reverse(backward)
		if got := impl.CausesOf(backward, x.w); !sameList(got, x.want) {
			t.Errorf("%s, written backward: CausesOf = %v, want %v", name, got, x.want)
		}
		checkHistory(t, x.list)
	}
}

// TestCausesOfLevels: all that one says come ahead of what the first of these says, and what the first says ahead of what the second says.
func TestCausesOfLevels(t *testing.T) {
	leaf := func(clock int) impl.Write { return put(0, tag(clock, 0, 1), clock) }
	first := put(1, tag(10, 0, 1), 0, on(leaf(4)), on(leaf(1)))
	second := put(1, tag(11, 0, 1), 0, on(leaf(3)), on(leaf(4)), on(first), on(leaf(2)))
	top := put(2, tag(12, 0, 1), 0, on(first), on(second))
	list := []impl.Event{wrote(0, leaf(1), leaf(2), second, leaf(3), first, leaf(4), top)}
	if got, want := impl.CausesOf(list, top), []impl.Write{first, second, leaf(4), leaf(1), leaf(3), leaf(2)}; !sameList(got, want) {
		t.Errorf("CausesOf = %v, want %v", got, want)
	}
	top.Deps = []impl.Dep{on(second), on(first)}
	if got, want := impl.CausesOf(list, top), []impl.Write{second, first, leaf(3), leaf(4), leaf(2), leaf(1)}; !sameList(got, want) {
		t.Errorf("CausesOf = %v, want %v", got, want)
	}
	checkHistory(t, list)
}

// TestCausesOfOneName: writes of one Key and T that are not the same are all told, in the order in which they were written.
func TestCausesOfOneName(t *testing.T) {
	name := tag(4, 1, 2)
	a, b := put(0, tag(1, 0, 1), 1), put(0, tag(2, 0, 1), 2)
	late, early, dead, far := put(3, name, 9, on(a)), put(3, name, -9), gone(3, name, on(b)), put(3, name, 9, on(b))
	w := put(5, tag(6, 0, 3), 0, dep(3, 4, 1, 2))
	for _, order := range [][]impl.Write{{late, early, dead, far}, {far, dead, early, late}, {dead, late, far, early}} {
		list := []impl.Event{wrote(1, a, order[0], b), wrote(2, order[1]), wrote(1, order[0], order[2], order[3])}
		want := slices.Clone(order)
		for _, o := range order {
			for _, x := range []impl.Write{a, b} {
				if len(o.Deps) > 0 && o.Deps[0] == on(x) && !hasWrite(want, x) {
					want = append(want, x)
				}
			}
		}
		if got := impl.CausesOf(list, w); !sameList(got, want) || len(got) != 6 {
			t.Errorf("written as %v: CausesOf = %v, want %v", order, got, want)
		}
		checkHistory(t, append(list, showed(0, 63, w), showed(0, 63, w, a), showed(0, 63, early)))
	}
}

// TestCausesOfRings: writes that are because of one another are causes of themselves, once.
func TestCausesOfRings(t *testing.T) {
	ring := func(n int) []impl.Write {
		var list []impl.Write
		for i := range n {
			list = append(list, put(i, tag(5, 0, i+1), i, dep((i+1)%n, 5, 0, (i+1)%n+1)))
		}
		return list
	}
	for n := 1; n <= 9; n++ {
		list := []impl.Event{wrote(0, ring(n)...)}
		for i, w := range ring(n) {
			want := slices.Concat(ring(n)[i+1:], ring(n)[:i+1])
			if got := impl.CausesOf(list, w); !sameList(got, want) {
				t.Errorf("a ring of %d, from %d: CausesOf = %v, want %v", n, i, got, want)
			}
		}
		if got := impl.Gaps(append(list, showed(1, 1<<20-1, ring(n)[0])), 1); !sameList(got, ring(n)[1:]) {
			t.Errorf("a ring of %d: Gaps = %v", n, got)
		}
		if got := impl.Gaps(append(list, showed(1, 1<<20-1, ring(n)...)), 1); len(got) != 0 {
			t.Errorf("a ring of %d that is shown whole: Gaps = %v", n, got)
		}
		checkHistory(t, append(list, showed(1, 63, ring(n)[0]), showed(1, 7, ring(n)...), showed(0, 63)))
	}
	// Into the ring one comes from outside, too; it is not of it.
	outside := put(9, tag(9, 0, 9), 9, dep(1, 5, 0, 2))
	if got, want := impl.CausesOf([]impl.Event{wrote(0, outside), wrote(0, ring(3)...)}, outside), []impl.Write{ring(3)[1], ring(3)[2], ring(3)[0]}; !sameList(got, want) {
		t.Errorf("from outside: CausesOf = %v, want %v", got, want)
	}
	// Each of six is because of all six.
	var deps []impl.Dep
	var all []impl.Write
	for i := range 6 {
		deps = append(deps, dep(i, 5, 0, 1))
	}
	for i := range 6 {
		all = append(all, put(i, tag(5, 0, 1), i, deps...))
	}
	for _, w := range all {
		if got := impl.CausesOf([]impl.Event{wrote(0, all...)}, w); !sameList(got, all) {
			t.Errorf("because of all: CausesOf = %v, want %v", got, all)
		}
	}
}

// TestCausesOfMany: a chain as long as one likes.
func TestCausesOfMany(t *testing.T) {
	const n = 20000
	var list []impl.Event
	var all []impl.Write
	for i := range n {
		w := put(i%6, tag(i+1, i%4, i+1), i)
		if i > 0 {
			w.Deps = []impl.Dep{on(all[i-1]), on(all[i/2])}
		}
		all = append(all, w)
		list = append(list, wrote(i%4, w), wrote(i%4, w), showed(i%4, 0, w))
	}
	got := impl.CausesOf(list, all[n-1])
	if len(got) != n-1 || !sameWrite(got[0], all[n-2]) || len(impl.Written(list)) != n {
		t.Fatalf("%d causes of %d", len(got), n-1)
	}
	last := append(list, showed(0, 63, all[n-1], all[n-2]))
	if gaps := impl.Gaps(last, len(last)-1); len(gaps) < n/2 || len(impl.Backs(last)) != 1 || len(impl.Inventions(last)) != 0 {
		t.Errorf("%d gaps, %v, %v", len(gaps), impl.Backs(last), impl.Inventions(last))
	}
}

func TestGaps(t *testing.T) {
	a, b := put(0, tag(1, 0, 1), 1), put(1, tag(2, 1, 1), 2, dep(0, 1, 0, 1))
	c := put(2, tag(3, 2, 1), 3, dep(1, 2, 1, 1))
	late, same, early := put(0, tag(4, 0, 2), 4), put(0, tag(1, 0, 1), 5), put(0, tag(1, 0, 0), 6)
	all := []impl.Event{wrote(0, a), wrote(1, b), wrote(2, c)}
	for name, x := range map[string]struct {
		e    impl.Event
		want []impl.Write
	}{
		"nothing is shown":              {showed(0, 63), nil},
		"no causes":                     {showed(0, 63, a), nil},
		"all there":                     {showed(0, 63, a, b, c), nil},
		"all there, in another order":   {showed(0, 63, c, b, a), nil},
		"without the cause":             {showed(0, 63, b), []impl.Write{a}},
		"without the cause's cause":     {showed(0, 63, b, c), []impl.Write{a}},
		"without what is between":       {showed(0, 63, a, c), []impl.Write{b}},
		"without all":                   {showed(0, 63, c), []impl.Write{b, a}},
		"a later one":                   {showed(0, 63, late, b), nil},
		"one as late":                   {showed(0, 63, same, b), nil},
		"an earlier one":                {showed(0, 63, early, b), []impl.Write{a}},
		"an earlier and a later one":    {showed(0, 63, early, late, b), nil},
		"a later and an earlier one":    {showed(0, 63, late, early, b), nil},
		"a late one of another key":     {showed(0, 63, put(1, tag(99, 0, 9), 0), b), []impl.Write{a}},
		"told twice, once":              {showed(0, 63, b, c, b), []impl.Write{a}},
		"the mask of all":               {showed(0, 7, c), []impl.Write{b, a}},
		"the mask of the first":         {showed(0, 1, c), []impl.Write{a}},
		"the mask of the second":        {showed(0, 2, c), []impl.Write{b}},
		"the mask of what is shown":     {showed(0, 4, c), nil},
		"the mask of others":            {showed(0, 56, c), nil},
		"a mask of 0":                   {showed(0, 0, c), nil},
		"a mask below 0":                {showed(0, -1, c), nil},
		"a mask of two below 0":         {showed(0, -2, c), nil},
		"the least mask":                {showed(0, math.MinInt, c), nil},
		"the greatest mask":             {showed(0, math.MaxInt, c), []impl.Write{b, a}},
		"a bit behind the keys":         {showed(0, 64+1, c), []impl.Write{a}},
		"only a bit behind the keys":    {showed(0, 64, c), nil},
		"it wrote, not showed":          {wrote(0, c), nil},
		"it wrote, with a mask":         {impl.Event{Mask: 63, Ws: []impl.Write{c}}, nil},
		"a site that there is not":      {showed(-5, 63, c), []impl.Write{b, a}},
		"what nobody wrote has causes":  {showed(0, 63, put(4, tag(9, 0, 9), 0, on(b))), []impl.Write{b, a}},
		"a cause that nobody wrote":     {showed(0, 63, put(4, tag(9, 0, 9), 0, dep(0, 8, 0, 8))), nil},
		"a cause of its own key":        {showed(0, 63, put(0, tag(9, 0, 9), 0, on(a))), nil},
		"of the first, then the second": {showed(0, 63, put(4, tag(9, 0, 9), 0, on(a)), c), []impl.Write{a, b}},
	} {
		for at := range len(all) + 1 {
			list := slices.Insert(slices.Clone(all), at, x.e)
			if got := impl.Gaps(list, at); !sameList(got, x.want) {
				t.Errorf("%s, at %d: Gaps = %v, want %v", name, at, got, x.want)
			}
			checkHistory(t, list)
		}
	}
}

// TestGapsPlaces: places below 0, at the ends, and behind them; only what is there is asked.
func TestGapsPlaces(t *testing.T) {
	a := put(0, tag(1, 0, 1), 1)
	b, c := put(1, tag(2, 1, 1), 2, on(a)), put(2, tag(3, 1, 2), 3, on(a))
	list := []impl.Event{showed(0, 63, b), wrote(0, a), wrote(1, b), showed(0, 63, a, b), wrote(1, c), showed(1, 63, c)}
	room := append(slices.Clone(list), showed(0, 63, b))[:len(list)]
	for at, want := range map[int][]impl.Write{
		math.MinInt: nil, -6: nil, -1: nil, 0: {a}, 1: nil, 2: nil, 3: nil, 4: nil, 5: {a}, 6: nil, 7: nil, math.MaxInt: nil,
	} {
		if got := impl.Gaps(list, at); !sameList(got, want) {
			t.Errorf("Gaps at %d = %v, want %v", at, got, want)
		}
		if got := impl.Gaps(room, at); !sameList(got, want) {
			t.Errorf("Gaps at %d, with room behind the list = %v, want %v", at, got, want)
		}
	}
	for _, at := range []int{math.MinInt, -1, 0, 1, math.MaxInt} {
		if got := impl.Gaps(nil, at); len(got) != 0 {
			t.Errorf("Gaps of no events at %d = %v", at, got)
		}
	}
}

// keysOfAllKinds: keys that some mask has, and such that none has.
var keysOfAllKinds = []int{math.MinInt, -64, -63, -1, 0, 1, 5, 6, 31, 32, 61, 62, 63, 64, 65, 127, 128, math.MaxInt}

// masksOfAllKinds: masks below 0, of nothing, of keys, and of more bits than there are keys.
var masksOfAllKinds = []int{math.MinInt, math.MinInt + 1, -64, -2, -1, 0, 1, 2, 32, 63, 64, 127, 1 << 31, 1 << 32, 1 << 61, 1 << 62, math.MaxInt - 1, math.MaxInt}

func TestHistoryMasks(t *testing.T) {
	held := 0
	for _, key := range keysOfAllKinds {
		cause := put(key, tag(1, 0, 1), 1)
		w := put(3, tag(2, 0, 2), 2, on(cause))
		for _, mask := range masksOfAllKinds {
			list := []impl.Event{wrote(0, cause), wrote(1, w), showed(0, mask, w)}
			var gaps []impl.Write
			var backs []int
			if bitOf(mask, key) {
				gaps, backs = []impl.Write{cause}, []int{2}
				held++
			}
			if got := impl.Gaps(list, 2); !sameList(got, gaps) {
				t.Errorf("key %d, mask %d: Gaps = %v, want %v", key, mask, got, gaps)
			}
			if got := impl.Backs(list); !slices.Equal(got, backs) {
				t.Errorf("key %d, mask %d: Backs = %v, want %v", key, mask, got, backs)
			}
			if got := impl.Inventions(list); len(got) != 0 {
				t.Errorf("key %d, mask %d: Inventions = %v", key, mask, got)
			}
			if got := impl.Inventions(list[1:2:2]); len(got) != 0 {
				t.Errorf("key %d, mask %d: Inventions of what was written = %v", key, mask, got)
			}
			if got := impl.Inventions([]impl.Event{showed(0, mask, cause)}); !slices.Equal(got, []int{0}) {
				t.Errorf("key %d, mask %d: Inventions = %v, want those of all keys", key, mask, got)
			}
			checkHistory(t, list)
		}
	}
	if held != 30 {
		t.Errorf("%d masks held a key", held)
	}
}

func TestBacks(t *testing.T) {
	a, b, c := put(0, tag(2, 1, 1), 1), put(0, tag(3, 0, 1), 2), put(1, tag(2, 0, 1), 3)
	same := put(0, tag(2, 1, 1), 9)
	lessSite, lessSeq := put(0, tag(2, 0, 1), 1), put(0, tag(2, 1, 0), 1)
	for name, x := range map[string]struct {
		list []impl.Event
		want []int
	}{
		"no events":                         {nil, nil},
		"one":                               {[]impl.Event{showed(0, 63, a)}, nil},
		"the same again":                    {[]impl.Event{showed(0, 63, a), showed(0, 63, a)}, nil},
		"a later one":                       {[]impl.Event{showed(0, 63, a), showed(0, 63, b)}, nil},
		"one as late":                       {[]impl.Event{showed(0, 63, a), showed(0, 63, same)}, nil},
		"an earlier one":                    {[]impl.Event{showed(0, 63, b), showed(0, 63, a)}, []int{1}},
		"earlier by its site":               {[]impl.Event{showed(0, 63, a), showed(0, 63, lessSite)}, []int{1}},
		"earlier by its Seq":                {[]impl.Event{showed(0, 63, a), showed(0, 63, lessSeq)}, []int{1}},
		"none":                              {[]impl.Event{showed(0, 63, a), showed(0, 63)}, []int{1}},
		"one of another key":                {[]impl.Event{showed(0, 63, a), showed(0, 63, c)}, []int{1}},
		"at another site":                   {[]impl.Event{showed(0, 63, b), showed(1, 63, a), showed(2, 63), showed(-1, 63)}, nil},
		"at one site, not at another":       {[]impl.Event{showed(0, 63, b), showed(1, 63, a), showed(0, 63, a), showed(1, 63, b)}, []int{2}},
		"sites that there are not":          {[]impl.Event{showed(-1, 63, b), showed(math.MaxInt, 63, a), showed(-1, 63, a), showed(math.MaxInt, 63, a)}, []int{2}},
		"of a key that is not asked":        {[]impl.Event{showed(0, 63, b, c), showed(0, 62, c), showed(0, 1, b), showed(0, 4)}, nil},
		"of the key that is asked":          {[]impl.Event{showed(0, 63, b, c), showed(0, 62, b), showed(0, 1, c), showed(0, 4, c)}, []int{1, 2}},
		"a mask of 0":                       {[]impl.Event{showed(0, 63, a), showed(0, 0)}, nil},
		"a mask below 0":                    {[]impl.Event{showed(0, 63, a), showed(0, -1), showed(0, math.MinInt), showed(0, 1)}, []int{3}},
		"a bit behind the keys":             {[]impl.Event{showed(0, 63, a), showed(0, 64), showed(0, 65)}, []int{2}},
		"it wrote that":                     {[]impl.Event{wrote(0, b), showed(0, 63, b), showed(0, 63, a)}, []int{2}},
		"wrote, and shows it not":           {[]impl.Event{wrote(0, b), showed(0, 63), showed(1, 63)}, []int{1}},
		"wrote, and shows another key":      {[]impl.Event{wrote(0, b), showed(0, 2, c), showed(0, 3, c)}, []int{2}},
		"to write is no step back":          {[]impl.Event{showed(0, 63, b), wrote(0, a), wrote(0), showed(0, 63, b)}, nil},
		"to write with a mask is none":      {[]impl.Event{showed(0, 63, b), {Mask: 63, Ws: []impl.Write{a}}}, nil},
		"what is behind it is not asked":    {[]impl.Event{showed(0, 63, a), wrote(0, b), showed(0, 63, b), showed(0, 63, b)}, nil},
		"itself is not asked":               {[]impl.Event{showed(0, 63, b, a), showed(0, 63, a, b)}, nil},
		"a late and an early one":           {[]impl.Event{showed(0, 63, a, b), showed(0, 63, b, a), showed(0, 63, a)}, []int{2}},
		"ahead, whatever its mask":          {[]impl.Event{showed(0, 0, b), showed(0, 1, a), showed(1, -1, b), showed(1, 1)}, []int{1, 3}},
		"not seen since, but long ago":      {[]impl.Event{showed(0, 63, b), showed(0, 0), showed(0, 2), showed(0, 63, a), showed(0, 1, b)}, []int{3}},
		"each place once":                   {[]impl.Event{wrote(0, b, c), showed(0, 63, b, c), showed(0, 63), showed(0, 63), showed(0, 63, b, c)}, []int{2, 3}},
		"a tag of noughts":                  {[]impl.Event{wrote(0, impl.Write{}), showed(0, 1), showed(0, 1, impl.Write{}), showed(0, 1, put(0, tag(-1, 0, 0), 0)), showed(0, 1, put(0, tag(0, 0, 1), 0))}, []int{1, 3}},
		"tags below 0":                      {[]impl.Event{wrote(0, put(0, tag(-5, -5, -5), 0)), showed(0, 1), showed(0, 1, put(0, tag(-5, -5, -5), 0)), showed(0, 1, put(0, tag(-5, -5, -6), 0))}, []int{1, 3}},
		"the least and the greatest clocks": {[]impl.Event{showed(0, 1, put(0, tag(math.MinInt, 0, 0), 0)), showed(0, 1, put(0, tag(math.MaxInt, 0, 0), 0)), showed(0, 1, put(0, tag(math.MinInt, 0, 0), 0))}, []int{2}},
	} {
		if got := impl.Backs(x.list); !slices.Equal(got, x.want) {
			t.Errorf("%s: Backs = %v, want %v", name, got, x.want)
		}
		checkHistory(t, x.list)
	}
}

func TestInventions(t *testing.T) {
	a, b := put(0, tag(1, 0, 1), 1), put(1, tag(2, 1, 1), 2, dep(0, 1, 0, 1))
	for name, x := range map[string]struct {
		list []impl.Event
		want []int
	}{
		"no events":                     {nil, nil},
		"nothing shown":                 {[]impl.Event{wrote(0, a), showed(0, 63), showed(1, 63)}, nil},
		"what was written":              {[]impl.Event{wrote(0, a), showed(0, 63, a), showed(1, 63, a)}, nil},
		"what nobody wrote":             {[]impl.Event{showed(0, 63, a)}, []int{0}},
		"shown ahead and behind":        {[]impl.Event{showed(0, 63, a), wrote(0, a), showed(0, 63, a)}, []int{0}},
		"just ahead of it":              {[]impl.Event{wrote(0, b), showed(1, 63, a), wrote(0, a), showed(1, 63, b, a)}, []int{1}},
		"to show is not to write":       {[]impl.Event{showed(0, 63, a), showed(0, 63, a), showed(1, 63, a)}, []int{0, 1, 2}},
		"to write is no invention":      {[]impl.Event{wrote(0, a), wrote(1, a, b), wrote(2, a)}, nil},
		"one of several":                {[]impl.Event{wrote(0, a), showed(0, 63, a, b), showed(0, 63, b, a), showed(0, 63, a)}, []int{1, 2}},
		"several of one, one place":     {[]impl.Event{showed(0, 63, a, b, a, b)}, []int{0}},
		"another site wrote it":         {[]impl.Event{wrote(3, a), showed(0, 63, a), wrote(-1, b), showed(9, 63, b)}, nil},
		"one of several that one wrote": {[]impl.Event{wrote(0, put(5, tag(1, 1, 1), 0), b, a), showed(1, 63, b), showed(1, 63, a, b)}, nil},
		"a key that is not asked":       {[]impl.Event{showed(0, 0, a), showed(0, 2, a), showed(0, -1, a)}, []int{0, 1, 2}},
		"no causes":                     {[]impl.Event{wrote(0, b), showed(0, 63, put(1, b.T, 2))}, []int{1}},
	} {
		if got := impl.Inventions(x.list); !slices.Equal(got, x.want) {
			t.Errorf("%s: Inventions = %v, want %v", name, got, x.want)
		}
		checkHistory(t, x.list)
	}
	// Where one was written, another of the same Key, or of the same Key and T, is an invention.
	for i, w := range rising(3) {
		for j, other := range rising(3) {
			var want []int
			if i != j {
				want = []int{1}
			}
			if got := impl.Inventions([]impl.Event{wrote(0, w), showed(0, 63, other)}); !slices.Equal(got, want) {
				t.Errorf("%v was written, %v shown: Inventions = %v, want %v", w, other, got, want)
			}
		}
	}
}

// thrownEvents: events of few keys, tags and values, so that they often have the same, or nearly the same; in all of which may be wrong.
func thrownEvents(d *dice, n int) []impl.Event {
	keys := []int{0, 0, 0, 1, 1, 2, 2, 5, 6, -1, 62, 63, 64}
	masks := []int{63, 63, 63, 127, 1, 2, 3, 7, 0, -1, math.MaxInt, math.MinInt, 1 << 62}
	var names []impl.Dep
	for range 2 + d.below(6) {
		names = append(names, impl.Dep{Key: keys[d.below(len(keys))], T: tag(d.below(4), d.below(2), d.below(3)/2)})
	}
	name := func() impl.Dep { return names[d.below(len(names))] }
	write := func() impl.Write {
		at := name()
		w := impl.Write{Key: at.Key, T: at.T, Val: d.below(6) / 5, Dead: d.below(12) == 0}
		for range d.below(3) {
			w.Deps = append(w.Deps, name())
		}
		return w
	}
	var pool []impl.Write
	for range 3 + d.below(8) {
		pool = append(pool, write())
	}
	var list []impl.Event
	for range n {
		e := impl.Event{Site: d.below(3) - 1, Shown: d.below(2) == 0, Mask: masks[d.below(len(masks))]}
		for range d.below(5) {
			w := pool[d.below(len(pool))]
			if d.below(8) == 0 {
				w = write()
			}
			e.Ws = append(e.Ws, w)
		}
		list = append(list, e)
	}
	return list
}

// TestHistoriesOfManyKinds: histories as they come, held against the words of the chapter.
func TestHistoriesOfManyKinds(t *testing.T) {
	d := dice(97)
	var sum faults
	none := faults{}
	for range 1500 {
		f := checkHistory(t, thrownEvents(&d, d.below(10)))
		sum = faults{sum.gaps + f.gaps, sum.backs + f.backs, sum.inventions + f.inventions}
		none.gaps += 1 - min(f.gaps, 1)
		none.backs += 1 - min(f.backs, 1)
		none.inventions += 1 - min(f.inventions, 1)
	}
	if sum.gaps < 300 || sum.backs < 300 || sum.inventions < 300 || none.gaps < 100 || none.backs < 100 || none.inventions < 100 {
		t.Errorf("faults %v, without some %v: too few to tell", sum, none)
	}
}

// A watched course: its acts and replies, and what its stores would have shown in a site's place.
type watched struct {
	*told
	acts  []impl.Act
	naked []impl.Event
}

// watchedCourse: a course of some acts in which sites often show what they have. What is lost or broken keeps others from being shown for long; so in some courses nothing is broken, and in some nothing is lost, either.
func watchedCourse(d *dice, sites int, reps int, n int) *watched {
	p, l, f := impl.AcPut, impl.AcDeliver, impl.AcFetch
	kinds := []int{p, p, p, impl.AcDel, impl.AcGet, impl.AcGet, impl.AcSnap, impl.AcSnap, impl.AcSnap, l, l, l, l, l, impl.AcTwice, impl.AcSync, f, f, f, f, impl.AcDrop, impl.AcBreak}
	kinds = kinds[:len(kinds)-d.below(3)]
	c := &watched{told: toldNew(sites, reps)}
	for range n {
		a := thrownAct(d, c.told, kinds)
		if a.Kind == impl.AcSnap && d.below(2) == 0 {
			a.D = allKeys
		}
		c.act(a)
		c.acts = append(c.acts, a)
		r := c.Replies[len(c.Replies)-1]
		c.naked = append(c.naked, eventsBy([]impl.Act{a}, []impl.Reply{r})...)
		if a.Kind == impl.AcFetch && r.Code == impl.RpOK {
			c.naked = append(c.naked, showed(a.A, allKeys, c.Reps[a.B].M...))
		}
	}
	return c
}

// checkNoFaults: promise 9.
func checkNoFaults(t *testing.T, acts []impl.Act, list []impl.Event) {
	t.Helper()
	for at := range list {
		if gaps := impl.Gaps(list, at); len(gaps) != 0 {
			t.Fatalf("behind %v: event %d of %v has gaps: %v", acts, at, list, gaps)
		}
	}
	if backs := impl.Backs(list); len(backs) != 0 {
		t.Fatalf("behind %v: steps back at %v of %v", acts, backs, list)
	}
	if inventions := impl.Inventions(list); len(inventions) != 0 {
		t.Fatalf("behind %v: inventions at %v of %v", acts, inventions, list)
	}
}

// TestHistoriesOfCourses: that of no course has a gap, a step back, or an invention; where sites showed what the stores have, there would be such.
func TestHistoriesOfCourses(t *testing.T) {
	d := dice(101)
	others, causes, broke := 0, 0, 0
	var naked faults
	for i := range 480 {
		sites, reps := 1+i%impl.MaxSites, 1+i/4%impl.MaxReps
		c := watchedCourse(&d, sites, reps, impl.MaxActs-d.below(60))
		out, ok := impl.Run(sites, reps, c.acts)
		list := impl.EventsOf(c.acts, out.Replies)
		if want := eventsBy(c.acts, c.Replies); !ok || !sameEvents(list, want) {
			t.Fatalf("behind %v: EventsOf = %v, want %v", c.acts, list, want)
		}
		checkNoFaults(t, c.acts, list)
		if got, want := impl.Written(list), writtenIn(c.acts, out.Replies); !sameList(got, want) {
			t.Fatalf("behind %v: Written = %v, want %v", c.acts, got, want)
		}
		for _, e := range list {
			for _, w := range e.Ws {
				if e.Shown && w.T.Site != e.Site {
					others++
					causes += len(impl.CausesOf(list, w))
				}
			}
		}
		for _, r := range out.Replies {
			if r.Code == impl.RpBroke && len(r.Ws) > 0 {
				broke++
			}
		}
		for at := range c.naked {
			naked.gaps += len(impl.Gaps(c.naked, at))
		}
		naked.backs += len(impl.Backs(c.naked))
		naked.inventions += len(impl.Inventions(c.naked))
	}
	if others < 2000 || causes < 4000 || broke < 100 {
		t.Errorf("%d writes of others were shown, with %d causes; %d were written in a break: too few to tell", others, causes, broke)
	}
	if naked.gaps < 500 || naked.backs < 500 || naked.inventions != 0 {
		t.Errorf("of the stores alone %v: too few to tell", naked)
	}
}

// TestHistoriesOfCoursesActByAct: of each beginning of a course, too.
func TestHistoriesOfCoursesActByAct(t *testing.T) {
	d := dice(103)
	for i := range 12 {
		sites, reps := 1+i%impl.MaxSites, 1+i%impl.MaxReps
		c := watchedCourse(&d, sites, reps, 60)
		for n := range len(c.acts) + 1 {
			out, ok := impl.Run(sites, reps, c.acts[:n])
			if !ok {
				t.Fatal("Run = false")
			}
			checkNoFaults(t, c.acts[:n], impl.EventsOf(c.acts[:n], out.Replies))
		}
	}
}

// TestHistoriesChanged: the history of a course in which one thing is changed has what the words of the chapter say.
func TestHistoriesChanged(t *testing.T) {
	d := dice(107)
	var sum faults
	for i := range 160 {
		sites := 2 + i%3
		c := watchedCourse(&d, sites, 1+i%impl.MaxReps, 50)
		list := eventsBy(c.acts, c.Replies)
		if len(list) < 2 {
			continue
		}
		for range 4 {
			changed := slices.Clone(list)
			at, other := d.below(len(list)), d.below(len(list))
			e := &changed[at]
			e.Ws = slices.Clone(e.Ws)
			switch what := d.below(4); {
			case what == 0 && len(e.Ws) > 0:
				j := d.below(len(e.Ws))
				e.Ws = slices.Delete(e.Ws, j, j+1)
			case what == 1 && len(e.Ws) > 0:
				e.Ws[d.below(len(e.Ws))].Val++
			case what == 2:
				changed[at], changed[other] = changed[other], changed[at]
			default:
				e.Site, e.Mask = d.below(sites), allKeys
			}
			f := checkHistory(t, changed)
			sum = faults{sum.gaps + f.gaps, sum.backs + f.backs, sum.inventions + f.inventions}
		}
	}
	if sum.gaps < 20 || sum.backs < 20 || sum.inventions < 20 {
		t.Errorf("faults %v: too few to tell", sum)
	}
}

// TestHistoryOfOneCourse: a course with a lost write, a broken one and one that is late, and all that is told of it.
func TestHistoryOfOneCourse(t *testing.T) {
	acts := []impl.Act{
		doPut(0, 0, 1, 0), doBreak(0, 1, 2, 0, -1), doBreak(0, 3, 3, 0, 9), doPut(0, 2, 4, 2),
		doDeliver(1), doFetch(1, 0), doSnap(1, allKeys), doGet(1, 2), doGet(0, 1), doSnap(0, allKeys), doGet(0, 3),
		doDrop(0), doPut(5, 0, 0, 0), doGet(0, 6), doSnap(0, 64),
	}
	out := checkRun(t, 2, 1, acts)
	a, b := put(0, tag(1, 0, 1), 1), put(1, tag(2, 0, 2), 2, dep(0, 1, 0, 1))
	c := put(2, tag(3, 0, 3), 4, dep(0, 1, 0, 1), dep(1, 2, 0, 2))
	want := []impl.Event{
		wrote(0, a), wrote(0, b), wrote(0, c), showed(1, 63), showed(1, 4), showed(0, 2, b), showed(0, 63, a, b, c), showed(0, 8),
	}
	list := impl.EventsOf(acts, out.Replies)
	if !sameEvents(list, want) {
		t.Fatalf("EventsOf = %v, want %v", list, want)
	}
	checkNoFaults(t, acts, list)
	if got := impl.CausesOf(list, c); !sameList(got, []impl.Write{a, b}) {
		t.Errorf("CausesOf = %v", got)
	}
	// Were what is on its way shown at once, all would be found, each at its place.
	list = append(list, showed(1, 63, c), showed(0, 63, a), showed(1, 63, c, put(3, tag(4, 0, 4), 3)))
	if got := impl.Gaps(list, 8); !sameList(got, []impl.Write{a, b}) {
		t.Errorf("Gaps = %v", got)
	}
	if got := impl.Gaps(list, 9); len(got) != 0 {
		t.Errorf("Gaps = %v", got)
	}
	if backs, inventions := impl.Backs(list), impl.Inventions(list); !slices.Equal(backs, []int{9}) || !slices.Equal(inventions, []int{10}) {
		t.Errorf("Backs = %v, Inventions = %v", backs, inventions)
	}
	checkHistory(t, list)
}

func TestEventsOf(t *testing.T) {
	w, x := put(4, tag(2, 1, 1), 7, dep(1, 1, 0, 1)), gone(0, tag(3, 0, 2))
	told := map[bool]int{}
	for kind := -1; kind <= 12; kind++ {
		for code := -1; code <= 6; code++ {
			for _, ws := range [][]impl.Write{nil, {}, {w}, {x, w}, {w, w}, {{}}} {
				a, r := impl.Act{Kind: kind, A: 2, B: 4, C: 9, D: 17, E: 5}, impl.Reply{Code: code, Ws: ws}
				var want []impl.Event
				switch {
				case (kind == 1 || kind == 2 || kind == 10) && (code == 0 || code == 4) && len(ws) > 0:
					want = []impl.Event{{Site: 2, Ws: ws}}
				case kind == 3 && (code == 0 || code == 3):
					want = []impl.Event{{Site: 2, Shown: true, Mask: 16, Ws: ws}}
				case kind == 4 && (code == 0 || code == 3):
					want = []impl.Event{{Site: 2, Shown: true, Mask: 17, Ws: ws}}
				}
				got := impl.EventsOf([]impl.Act{a}, []impl.Reply{r})
				if !sameEvents(got, want) {
					t.Errorf("EventsOf(%v, %v) = %v, want %v", a, r, got, want)
				}
				told[len(got) > 0]++
			}
		}
	}
	if told[true] != 3*2*4+2*2*6 {
		t.Errorf("%v events", told)
	}
}

// TestEventsOfNumbers: which numbers of an act are asked, and how far.
func TestEventsOfNumbers(t *testing.T) {
	w := put(4, tag(2, 1, 1), 7)
	one := func(a impl.Act) []impl.Event {
		return impl.EventsOf([]impl.Act{a}, []impl.Reply{{Ws: []impl.Write{w}}})
	}
	numbers := []int{math.MinInt, -1000, -2, -1, 0, 1, 2, 3, 4, 5, 6, 7, 62, 63, 64, 65, 127, 1 << 32, 1 << 62, math.MaxInt}
	for _, n := range numbers {
		get, snap := one(doGet(1, n)), one(doSnap(1, n))
		if n < 0 || n > 5 {
			if len(get) != 0 {
				t.Errorf("AcGet of key %d: %v", n, get)
			}
		} else if !sameEvents(get, []impl.Event{showed(1, 1<<n, w)}) {
			t.Errorf("AcGet of key %d: %v", n, get)
		}
		if n < 0 {
			if len(snap) != 0 {
				t.Errorf("AcSnap of mask %d: %v", n, snap)
			}
		} else if !sameEvents(snap, []impl.Event{showed(1, n, w)}) {
			t.Errorf("AcSnap of mask %d: %v", n, snap)
		}
		// A is told as it is, and no other number is asked.
		for want, a := range map[int]impl.Act{
			0:  {Kind: impl.AcPut, A: n, B: n, C: n, D: n, E: n},
			-1: {Kind: impl.AcDel, A: n, B: n, C: n, D: n, E: n},
			-2: {Kind: impl.AcBreak, A: n, B: n, C: n, D: n, E: n},
			32: {Kind: impl.AcGet, A: n, B: 5, C: n, D: n, E: n},
			6:  {Kind: impl.AcSnap, A: n, B: n, C: n, D: 6, E: n},
		} {
			e := impl.Event{Site: n, Shown: want > 0, Mask: max(want, 0), Ws: []impl.Write{w}}
			if got := one(a); !sameEvents(got, []impl.Event{e}) {
				t.Errorf("%v: %v, want %v", a, got, e)
			}
		}
	}
}

// TestEventsOfCounts: as many replies as acts, or nothing.
func TestEventsOfCounts(t *testing.T) {
	w := put(4, tag(2, 1, 1), 7)
	acts := []impl.Act{doPut(0, 4, 7, 0), doDeliver(0), doGet(1, 4), doSnap(0, 63), doFetch(1, 0), doGet(2, 4), doBreak(3, 4, 7, 0, 0), {Kind: 99}, doDel(1, 1, 1)}
	replies := []impl.Reply{{Ws: []impl.Write{w}}, {}, {Code: impl.RpNone}, {Ws: []impl.Write{w}}, {}, {Ws: []impl.Write{w}}, {Code: impl.RpBroke}, {Code: impl.RpAct}, {Code: impl.RpFull}}
	whole := []impl.Event{wrote(0, w), showed(1, 16), showed(0, 63, w), showed(2, 16, w)}
	for n := range len(acts) + 1 {
		for m := range len(replies) + 1 {
			var want []impl.Event
			if n == m {
				want = eventsBy(acts[:n], replies[:n])
			}
			if got := impl.EventsOf(acts[:n], replies[:m]); !sameEvents(got, want) {
				t.Errorf("%d acts, %d replies: EventsOf = %v, want %v", n, m, got, want)
			}
		}
	}
	if got := impl.EventsOf(acts, replies); !sameEvents(got, whole) {
		t.Errorf("EventsOf = %v, want %v", got, whole)
	}
	for name, got := range map[string][]impl.Event{"no acts": impl.EventsOf(nil, replies), "no replies": impl.EventsOf(acts, nil), "neither": impl.EventsOf(nil, nil)} {
		if len(got) != 0 {
			t.Errorf("%s: EventsOf = %v", name, got)
		}
	}
	// What Run does not take has no replies; the acts have no events.
	many := slices.Repeat([]impl.Act{doPut(0, 0, 1, 0)}, impl.MaxActs+1)
	out, _ := impl.Run(1, 1, many)
	if got := impl.EventsOf(many, out.Replies); len(got) != 0 {
		t.Errorf("EventsOf = %v", got)
	}
	if got := impl.EventsOf(many, slices.Repeat([]impl.Reply{{Ws: []impl.Write{w}}}, len(many))); len(got) != len(many) {
		t.Errorf("of many acts %d events", len(got))
	}
}

// roomyEvents: the events, with spare room behind each of their lists, in which something lies.
func roomyEvents(list []impl.Event) []impl.Event {
	out := make([]impl.Event, 0, len(list)+2)
	for _, e := range list {
		e.Ws = roomy(e.Ws)
		out = append(out, e)
	}
	return append(out, wrote(0, put(0, tag(1, 0, 1), 88)), showed(0, 63, put(1, tag(1, 0, 1), 99)))[:len(list)]
}

func wholeOfEvents(list []impl.Event) []impl.Event {
	whole := slices.Clone(list[:cap(list)])
	for i := range whole {
		whole[i].Ws = wholeOf(whole[i].Ws)
	}
	return whole
}

func spoilEvents(list []impl.Event) {
	list = list[:cap(list)]
	for i := range list {
		spoil(list[i].Ws)
		list[i] = impl.Event{Site: -7, Mask: -7}
	}
}

func spoilPlaces(list []int) {
	list = list[:cap(list)]
	for i := range list {
		list[i] = -7
	}
}

// someHistory: events that share writes and Deps, with gaps, steps back, inventions and a ring.
func someHistory() []impl.Event {
	a, b := put(0, tag(1, 0, 1), 1, dep(5, 1, 0, 1)), put(5, tag(1, 0, 1), 2, dep(0, 1, 0, 1))
	deps := []impl.Dep{on(a), on(b)}
	c, other := put(1, tag(2, 1, 1), 3, deps...), put(1, tag(2, 1, 1), 4, deps...)
	e := put(2, tag(3, 1, 2), 5, on(c), dep(4, 4, 4, 4))
	f := put(3, tag(4, 1, 3), 6, on(e))
	ws := []impl.Write{e, f}
	return []impl.Event{wrote(0, a, b, a), wrote(1, c), wrote(2, other, c), wrote(1, ws...), showed(0, 63, ws...), showed(1, 63, ws...), showed(1, 63, f, f, put(5, tag(9, 0, 9), 9)), showed(0, 63, a, b, c, e, f), showed(0, 63)}
}

// TestHistoryLeavesArguments: neither arguments nor the room behind them are written by a call, or by what is done to its answer.
func TestHistoryLeavesArguments(t *testing.T) {
	list := roomyEvents(someHistory())
	whole := wholeOfEvents(list)
	check := func(name string) {
		t.Helper()
		if !sameEvents(wholeOfEvents(list), whole) {
			t.Fatalf("%s: written into an argument: %v", name, list)
		}
	}
	spoil(impl.Written(list))
	check("Written")
	for _, e := range list {
		for _, w := range e.Ws {
			spoil(impl.CausesOf(list, w))
			check("CausesOf")
		}
	}
	for at := range list {
		spoil(impl.Gaps(list, at))
		check("Gaps")
	}
	spoilPlaces(impl.Backs(list))
	spoilPlaces(impl.Inventions(list))
	check("Backs and Inventions")
	var acts []impl.Act
	var replies []impl.Reply
	for _, e := range list {
		a := doSnap(e.Site, e.Mask)
		if !e.Shown {
			a = doPut(e.Site, 0, 0, 0)
		}
		acts = append(acts, a)
		replies = append(replies, impl.Reply{Ws: e.Ws})
	}
	spareActs, spareReplies := append(acts, doSnap(0, 63))[:len(acts)], append(replies, impl.Reply{})[:len(replies)]
	wholeActs := slices.Clone(spareActs[:len(acts)+1])
	got := impl.EventsOf(spareActs, spareReplies)
	if !sameEvents(got, someHistory()) {
		t.Errorf("EventsOf = %v", got)
	}
	spoilEvents(got)
	check("EventsOf")
	if !slices.Equal(spareActs[:len(acts)+1], wholeActs) || !reflect.DeepEqual(spareReplies[len(replies):len(replies)+1], []impl.Reply{{}}) {
		t.Error("EventsOf: written into the acts or replies")
	}
}

// TestHistoryReadsNoRoom: what lies behind a list's length changes no answer, and is not handed out.
func TestHistoryReadsNoRoom(t *testing.T) {
	plain, list := someHistory(), roomyEvents(someHistory())
	handed := func(name string, got []impl.Write, want []impl.Write) {
		t.Helper()
		if !sameList(got, want) {
			t.Errorf("%s: %v, want %v", name, got, want)
		}
		for _, w := range wholeOf(got) {
			if w.Val == 88 || w.Val == 99 || slices.Contains(w.Deps, dep(8, 8, 8, 8)) {
				t.Errorf("%s: what lies behind a list is handed out: %v", name, w)
			}
		}
	}
	handed("Written", impl.Written(list), impl.Written(plain))
	for at, e := range list {
		handed("Gaps", impl.Gaps(list, at), impl.Gaps(plain, at))
		for i, w := range e.Ws {
			handed("CausesOf", impl.CausesOf(list, w), impl.CausesOf(plain, plain[at].Ws[i]))
		}
		for _, x := range impl.EventsOf([]impl.Act{doSnap(e.Site, 63)}, []impl.Reply{{Ws: e.Ws}}) {
			handed("EventsOf", x.Ws, plain[at].Ws)
		}
	}
	if !slices.Equal(impl.Backs(list), impl.Backs(plain)) || !slices.Equal(impl.Inventions(list), impl.Inventions(plain)) {
		t.Errorf("%v, %v", impl.Backs(list), impl.Inventions(list))
	}
	checkHistory(t, list)
}

// TestHistoryNewMemory: where arguments share lists, those of an answer don't, nor do those of two answers.
func TestHistoryNewMemory(t *testing.T) {
	list := someHistory()
	last := list[3].Ws[1]
	for name, ask := range map[string]func() []impl.Write{
		"Written":            func() []impl.Write { return impl.Written(list) },
		"CausesOf":           func() []impl.Write { return impl.CausesOf(list, last) },
		"CausesOf of a ring": func() []impl.Write { return impl.CausesOf(list, list[0].Ws[0]) },
		"Gaps":               func() []impl.Write { return impl.Gaps(list, 4) },
	} {
		sharesNone(t, name, ask)
	}
	ws := []impl.Write{last, last}
	acts := []impl.Act{doPut(0, 1, 1, 0), doSnap(0, 63), doBreak(1, 1, 1, 0, -1), doGet(2, 3)}
	replies := slices.Repeat([]impl.Reply{{Ws: ws}}, len(acts))
	events := func() []impl.Event { return impl.EventsOf(acts, replies) }
	sharesNone(t, "EventsOf", func() []impl.Write {
		var all []impl.Write
		for _, e := range events() {
			all = append(all, e.Ws...)
		}
		return all
	})
	want := events()
	for i := range want {
		got := events()
		spoil(got[i].Ws)
		for j := range got {
			if j != i && !sameEvent(got[j], want[j]) {
				t.Errorf("events %d and %d share memory", i, j)
			}
		}
	}
	if !sameEvents(events(), want) || len(want) != len(acts) {
		t.Errorf("two answers share memory: %v", want)
	}
	for name, ask := range map[string]func([]impl.Event) []int{"Backs": impl.Backs, "Inventions": impl.Inventions} {
		first := ask(list)
		kept := slices.Clone(first)
		spoilPlaces(ask(list))
		if !slices.Equal(first, kept) || !slices.Equal(ask(list), kept) || len(kept) == 0 {
			t.Errorf("%s: %v, want %v", name, first, kept)
		}
	}
}

// TestHistorySameEachTime: no call keeps anything for another one, and no order of a map shows.
func TestHistorySameEachTime(t *testing.T) {
	d := dice(109)
	list := thrownEvents(&d, 30)
	for range 20 {
		other := thrownEvents(&d, 5)
		checkHistory(t, other)
		checkHistory(t, list)
	}
}
