package tests

import (
	"math"
	"math/bits"
	"slices"
	"strconv"
	"testing"

	"loop.example/g00579/impl"
)

func rep(ws ...impl.Write) impl.Rep {
	return impl.Rep{M: ws}
}

func hint(place int, w impl.Write) impl.Hint {
	return impl.Hint{For: place, W: w}
}

func groupOf(maps []impl.Rep, hints ...impl.Hint) impl.Group {
	return impl.Group{Maps: maps, Hints: hints}
}

// upOf: who of n is there, by the bits of a number.
func upOf(n int, mask int) []bool {
	up := make([]bool, n)
	for i := range up {
		up[i] = mask>>i&1 == 1
	}
	return up
}

func allUp(n int) []bool {
	return upOf(n, 1<<n-1)
}

func sameRep(a impl.Rep, b impl.Rep) bool {
	return sameList(a.M, b.M)
}

func sameHint(a impl.Hint, b impl.Hint) bool {
	return a.For == b.For && sameWrite(a.W, b.W)
}

func sameHints(a []impl.Hint, b []impl.Hint) bool {
	return slices.EqualFunc(a, b, sameHint)
}

func sameGroup(a impl.Group, b impl.Group) bool {
	return slices.EqualFunc(a.Maps, b.Maps, sameRep) && sameHints(a.Hints, b.Hints)
}

func placesUp(up []bool) []int {
	var out []int
	for i, there := range up {
		if there {
			out = append(out, i)
		}
	}
	return out
}

// keptBy, gotBy, handedBy, spreadBy: by the words of the chapter, place by place, of arguments that are in order.
func keptBy(g impl.Group, up []bool, w impl.Write, need int) (impl.Group, bool) {
	maps, hints := slices.Clone(g.Maps), slices.Clone(g.Hints)
	for i := range maps {
		if up[i] {
			maps[i] = rep(joined(maps[i].M, []impl.Write{w})...)
		} else {
			hints = append(hints, hint(i, w))
		}
	}
	return groupOf(maps, hints...), len(placesUp(up)) >= need
}

func gotBy(g impl.Group, up []bool, key int, need int) (impl.Group, impl.Write, bool) {
	there := placesUp(up)
	if len(there) < need {
		return g, impl.Write{}, false
	}
	var have []impl.Write
	for _, i := range there[:need] {
		for _, w := range g.Maps[i].M {
			if w.Key == key {
				have = append(have, w)
			}
		}
	}
	if len(have) == 0 {
		return g, impl.Write{}, false
	}
	w, maps := slices.MaxFunc(have, impl.WriteCmp), slices.Clone(g.Maps)
	for _, i := range there[:need] {
		maps[i] = rep(joined(maps[i].M, []impl.Write{w})...)
	}
	return groupOf(maps, g.Hints...), w, true
}

func handedBy(g impl.Group, up []bool) impl.Group {
	maps := slices.Clone(g.Maps)
	var left []impl.Hint
	for _, h := range g.Hints {
		if up[h.For] {
			maps[h.For] = rep(joined(maps[h.For].M, []impl.Write{h.W})...)
		} else {
			left = append(left, h)
		}
	}
	return groupOf(maps, left...)
}

func spreadBy(g impl.Group) []impl.Write {
	var all []impl.Write
	for _, r := range g.Maps {
		all = append(all, r.M...)
	}
	for _, h := range g.Hints {
		all = append(all, h.W)
	}
	return joined(all)
}

// checkKept, checkGot, checkHanded: what is told is what the words of the chapter say, and nothing of the group is lost.
func checkKept(t *testing.T, g impl.Group, up []bool, w impl.Write, need int) (impl.Group, bool) {
	t.Helper()
	got, ok := impl.QuorumPut(g, up, w, need)
	if want, wantOk := keptBy(g, up, w, need); ok != wantOk || !sameGroup(got, want) {
		t.Fatalf("QuorumPut(%v, %v, %v, %d) = %v, %v, want %v, %v", g, up, w, need, got, ok, want, wantOk)
	}
	if !impl.GroupOk(got) || !sameList(impl.Spread(got), joined(spreadBy(g), []impl.Write{w})) {
		t.Fatalf("behind QuorumPut(%v, %v, %v, %d): %v, Spread = %v", g, up, w, need, got, impl.Spread(got))
	}
	return got, ok
}

func checkGot(t *testing.T, g impl.Group, up []bool, key int, need int) (impl.Group, impl.Write, bool) {
	t.Helper()
	got, w, ok := impl.QuorumGet(g, up, key, need)
	if want, wantW, wantOk := gotBy(g, up, key, need); ok != wantOk || !sameWrite(w, wantW) || !sameGroup(got, want) {
		t.Fatalf("QuorumGet(%v, %v, %d, %d) = %v, %v, %v, want %v, %v, %v", g, up, key, need, got, w, ok, want, wantW, wantOk)
	}
	if !impl.GroupOk(got) || !sameList(impl.Spread(got), spreadBy(g)) {
		t.Fatalf("behind QuorumGet(%v, %v, %d, %d): %v, Spread = %v", g, up, key, need, got, impl.Spread(got))
	}
	return got, w, ok
}

func checkHanded(t *testing.T, g impl.Group, up []bool) impl.Group {
	t.Helper()
	got := impl.HandOff(g, up)
	if want := handedBy(g, up); !sameGroup(got, want) {
		t.Fatalf("HandOff(%v, %v) = %v, want %v", g, up, got, want)
	}
	if !impl.GroupOk(got) || !sameList(impl.Spread(got), spreadBy(g)) {
		t.Fatalf("behind HandOff(%v, %v): %v, Spread = %v", g, up, got, impl.Spread(got))
	}
	for i, r := range g.Maps {
		if !impl.Within(r.M, got.Maps[i].M) {
			t.Fatalf("HandOff(%v, %v): map %d lost something: %v", g, up, i, got.Maps[i])
		}
	}
	for _, h := range g.Hints {
		if up[h.For] && !impl.Within([]impl.Write{h.W}, got.Maps[h.For].M) {
			t.Fatalf("HandOff(%v, %v): %v is lost: %v", g, up, h, got)
		}
	}
	if away := slices.DeleteFunc(slices.Clone(g.Hints), func(h impl.Hint) bool { return up[h.For] }); !sameHints(got.Hints, away) {
		t.Fatalf("HandOff(%v, %v): hints %v, want %v", g, up, got.Hints, away)
	}
	return got
}

// thrownGroup: a group of n maps, with hints, of few tags.
func thrownGroup(d *dice, n int) impl.Group {
	var g impl.Group
	for range n {
		g.Maps = append(g.Maps, rep(joined(thrown(d, d.below(7)))...))
	}
	for range d.below(9) {
		g.Hints = append(g.Hints, hint(d.below(n), thrown(d, 1)[0]))
	}
	return g
}

// startGroups: groups of n maps: one of nothing; one in which some have of the key 2 earlier writes than w, some the same, some other ones of its T, and one a later one.
func startGroups(n int, w impl.Write) []impl.Group {
	other, low, high := w, put(w.Key, tag(1, 0, 1), 99), put(w.Key, tag(w.T.Clock, w.T.Site, w.T.Seq+1), -1)
	other.Val--
	beside := put(0, tag(8, 0, 8), 8)
	kinds := []impl.Rep{rep(beside, low), rep(), rep(beside, other), rep(high), rep(w), rep(beside), rep(low)}
	return []impl.Group{
		groupOf(make([]impl.Rep, n)),
		groupOf(kinds[:n], hint(n-1, low), hint(0, put(3, tag(9, 3, 9), 3)), hint(n/2, high)),
	}
}

// TestQuorumPromise: promise 10, each row of who is there at the put and at the get. A put is true for each need of at most as many as are there; so some such need and the get's are together more than all just where those there and the get's are.
func TestQuorumPromise(t *testing.T) {
	w := put(2, tag(5, 1, 2), 7, dep(0, 1, 0, 1))
	held, missed := 0, 0
	for n := 1; n <= impl.MaxQuorum; n++ {
		for _, g := range startGroups(n, w) {
			for putMask := range 1 << n {
				there := bits.OnesCount(uint(putMask))
				var h impl.Group
				for need := 1; need <= n; need++ {
					var ok bool
					if h, ok = checkKept(t, g, upOf(n, putMask), w, need); ok != (there >= need) {
						t.Fatalf("%d of %d there, %d needed: QuorumPut = %v", there, n, need, ok)
					}
				}
				for getMask := range 1 << n {
					up, asked := upOf(n, getMask), bits.OnesCount(uint(getMask))
					for need := 1; need <= asked; need++ {
						_, v, ok := impl.QuorumGet(h, up, 2, need)
						late := ok && v.Key == 2 && impl.WriteCmp(v, w) >= 0
						if there+need > n {
							held++
							if !late {
								t.Fatalf("put to %v there, got of %d from %v: %v, %v, want %v or later", upOf(n, putMask), need, up, v, ok, w)
							}
						} else if !late {
							missed++
						}
					}
				}
			}
		}
	}
	if held < 30000 || missed < 30000 {
		t.Errorf("%d were asked together with those needed, and %d got nothing as late where they were fewer: too few to tell", held, missed)
	}
}

// TestQuorumPromiseRows: the same rows of who is there, the group behind the get as the chapter says, and what all then hand off.
func TestQuorumPromiseRows(t *testing.T) {
	w := put(2, tag(5, 1, 2), 7, dep(0, 1, 0, 1))
	for n := 1; n <= 5; n++ {
		for _, g := range startGroups(n, w) {
			for putMask := range 1 << n {
				h, _ := checkKept(t, g, upOf(n, putMask), w, 1)
				for mask := range 1 << n {
					up := upOf(n, mask)
					for need := 1; need <= n; need++ {
						for _, key := range []int{0, 2, 5} {
							checkGot(t, h, up, key, need)
						}
					}
					some := checkHanded(t, h, up)
					whole := checkHanded(t, some, allUp(n))
					if len(whole.Hints) != 0 {
						t.Fatalf("behind HandOff to all: hints %v", whole.Hints)
					}
					for i, r := range whole.Maps {
						if v, ok := impl.MapAt(r.M, 2); !ok || impl.WriteCmp(v, w) < 0 {
							t.Fatalf("behind HandOff to all map %d has %v, %v, want %v or later", i, v, ok, w)
						}
					}
				}
			}
		}
	}
}

// TestQuorumCourses: puts, gets and hand-offs as they come, some away at each: what was put with true is got by each later get that asks enough, or something later; what was got is no less than what was got ahead of it, where both asked enough.
func TestQuorumCourses(t *testing.T) {
	d := dice(113)
	type known struct {
		w    impl.Write
		need int
	}
	held, later, few, none, handed := 0, 0, 0, 0, 0
	for i := range 700 {
		n := 1 + i%impl.MaxQuorum
		g := thrownGroup(&d, n)
		g.Hints = g.Hints[:d.below(len(g.Hints)+1)]
		if i%3 == 0 {
			g = groupOf(make([]impl.Rep, n))
		}
		ahead := map[int][]known{}
		for range 40 {
			up, need, key := upOf(n, d.below(1<<n)|d.below(1<<n)), 1+d.below(n), d.below(impl.MaxKeys)
			switch what := d.below(5); {
			case what < 2:
				w := thrown(&d, 1)[0]
				next, ok := checkKept(t, g, up, w, need)
				if g = next; ok {
					ahead[w.Key] = append(ahead[w.Key], known{w, need})
				}
			case what < 4:
				next, w, ok := checkGot(t, g, up, key, need)
				g = next
				if len(placesUp(up)) < need {
					few++
					continue
				}
				for _, k := range ahead[key] {
					if k.need+need > n {
						if !ok || impl.WriteCmp(w, k.w) < 0 {
							t.Fatalf("of %v, %d of %v asked: got %v, %v, put was %v with %d needed", g, need, up, w, ok, k.w, k.need)
						}
						held++
						later += impl.WriteCmp(w, k.w)
					}
				}
				if ok {
					ahead[key] = append(ahead[key], known{w, need})
				} else {
					none++
				}
			default:
				handed += len(g.Hints)
				g = checkHanded(t, g, up)
				handed -= len(g.Hints)
			}
		}
	}
	if held < 5000 || later < 1000 || few < 500 || none < 100 || handed < 1000 {
		t.Errorf("%d held, %d later, %d fewer there, %d without the key, %d handed off: too few to tell", held, later, few, none, handed)
	}
}

// badGroups: groups that are not GroupOk, each by one fault alone.
func badGroups() map[string]impl.Group {
	w := put(2, tag(3, 0, 1), 1)
	three := func() []impl.Rep { return []impl.Rep{rep(), rep(w), rep()} }
	bad := map[string]impl.Group{
		"no maps":            {},
		"an empty list":      groupOf([]impl.Rep{}),
		"no maps, a hint":    groupOf(nil, hint(0, w)),
		"one map more":       groupOf(make([]impl.Rep, impl.MaxQuorum+1)),
		"twice as many":      groupOf(make([]impl.Rep, 2*impl.MaxQuorum)),
		"For below 0":        groupOf(three(), hint(-1, w)),
		"For one beyond":     groupOf(three(), hint(3, w)),
		"For at MaxQuorum":   groupOf(make([]impl.Rep, impl.MaxQuorum), hint(impl.MaxQuorum, w)),
		"For beyond one map": groupOf(make([]impl.Rep, 1), hint(1, w)),
		"the least For":      groupOf(three(), hint(math.MinInt, w)),
		"the greatest For":   groupOf(three(), hint(math.MaxInt, w)),
		"the last For wrong": groupOf(three(), hint(0, w), hint(2, w), hint(3, w)),
		"the first wrong":    groupOf(three(), hint(-1, w), hint(2, w), hint(0, w)),
	}
	for name, m := range badMaps() {
		bad["map alone: "+name] = groupOf([]impl.Rep{rep(m...)})
		bad["map first: "+name] = groupOf([]impl.Rep{rep(m...), rep(w), rep()})
		bad["map last: "+name] = groupOf([]impl.Rep{rep(), rep(w), rep(m...)}, hint(0, w))
	}
	for name, b := range badWrites() {
		bad["hint alone: "+name] = groupOf(three(), hint(1, b))
		bad["hint first: "+name] = groupOf(three(), hint(0, b), hint(1, w))
		bad["hint last: "+name] = groupOf(three(), hint(0, w), hint(1, w), hint(2, b))
	}
	return bad
}

func TestGroupOk(t *testing.T) {
	if impl.MaxQuorum != 7 {
		t.Errorf("MaxQuorum = %d", impl.MaxQuorum)
	}
	for n := range impl.MaxQuorum + 3 {
		g := groupOf(make([]impl.Rep, n))
		if got, want := impl.GroupOk(g), n >= 1 && n <= 7; got != want {
			t.Errorf("%d maps: GroupOk = %v", n, got)
		}
		for place := -2; place <= n+2; place++ {
			g.Hints = []impl.Hint{hint(place, put(2, tag(3, 0, 1), 1))}
			if got, want := impl.GroupOk(g), n >= 1 && n <= 7 && place >= 0 && place < n; got != want {
				t.Errorf("%d maps, a hint for %d: GroupOk = %v", n, place, got)
			}
		}
	}
	w := put(2, tag(3, 0, 1), 1)
	for name, g := range map[string]impl.Group{
		"one empty map":        groupOf([]impl.Rep{rep()}),
		"maps, no hints":       groupOf([]impl.Rep{rep(w), rep(), rep(fullMap(0)...)}),
		"no cut":               groupOf([]impl.Rep{rep(put(1, tag(4, 0, 1), 1, dep(5, 3, 0, 1)))}),
		"hints of one place":   groupOf([]impl.Rep{rep(), rep()}, hint(1, w), hint(1, w), hint(1, put(2, tag(9, 0, 1), 1))),
		"the first, the last":  groupOf(make([]impl.Rep, 7), hint(6, w), hint(0, w)),
		"a dead one":           groupOf([]impl.Rep{rep(gone(1, tag(4, 0, 1)))}, hint(0, gone(1, tag(5, 0, 2)))),
		"a hint like its map":  groupOf([]impl.Rep{rep(w)}, hint(0, w)),
		"more hints than keys": groupOf([]impl.Rep{rep()}, slices.Repeat([]impl.Hint{hint(0, w)}, 50)...),
	} {
		if !impl.GroupOk(g) {
			t.Errorf("%s: GroupOk = false", name)
		}
	}
	for _, w := range someWrites() {
		if !impl.GroupOk(groupOf([]impl.Rep{rep(w)}, hint(0, w))) {
			t.Errorf("GroupOk of %v = false", w)
		}
	}
	for name, g := range badGroups() {
		if impl.GroupOk(g) {
			t.Errorf("%s: GroupOk = true", name)
		}
	}
}

func TestQuorumPut(t *testing.T) {
	w := put(2, tag(5, 1, 2), 7, dep(0, 1, 0, 1))
	low, high, beside := put(2, tag(5, 1, 1), 9), put(2, tag(5, 2, 1), -9), put(4, tag(9, 0, 1), 4)
	old := []impl.Hint{hint(2, beside), hint(0, high)}
	g := groupOf([]impl.Rep{rep(low, beside), rep(), rep(high)}, old...)
	put0, put1, was2 := rep(w, beside), rep(w), rep(high)
	for name, x := range map[string]struct {
		mask int
		want impl.Group
	}{
		"none there":     {0, groupOf(g.Maps, old[0], old[1], hint(0, w), hint(1, w), hint(2, w))},
		"the first":      {1, groupOf([]impl.Rep{put0, rep(), was2}, old[0], old[1], hint(1, w), hint(2, w))},
		"the one midway": {2, groupOf([]impl.Rep{rep(low, beside), put1, was2}, old[0], old[1], hint(0, w), hint(2, w))},
		"the last":       {4, groupOf(g.Maps, old[0], old[1], hint(0, w), hint(1, w))},
		"two":            {5, groupOf([]impl.Rep{put0, rep(), was2}, old[0], old[1], hint(1, w))},
		"all there":      {7, groupOf([]impl.Rep{put0, put1, was2}, old...)},
	} {
		for need := -1; need <= 4; need++ {
			got, ok := impl.QuorumPut(g, upOf(3, x.mask), w, need)
			want := x.want
			if need < 1 || need > 3 {
				want = impl.Group{}
			}
			wantOk := need >= 1 && need <= 3 && bits.OnesCount(uint(x.mask)) >= need
			if ok != wantOk || !sameGroup(got, want) {
				t.Errorf("%s, %d needed: QuorumPut = %v, %v, want %v, %v", name, need, got, ok, want, wantOk)
			}
		}
	}
}

// TestQuorumPutAgain: a put changes no map that has something as late, but a hint comes for each that is away, each time.
func TestQuorumPutAgain(t *testing.T) {
	list := rising(3)
	for i, there := range list {
		for j, w := range list {
			g := groupOf([]impl.Rep{rep(there), rep(there)}, hint(1, there))
			got, ok := checkKept(t, g, []bool{true, false}, w, 1)
			if want := groupOf([]impl.Rep{rep(list[max(i, j)]), rep(there)}, hint(1, there), hint(1, w)); !ok || !sameGroup(got, want) {
				t.Fatalf("QuorumPut of %v to %v = %v, want %v", w, there, got, want)
			}
			again, _ := checkKept(t, got, []bool{true, false}, w, 2)
			if want := groupOf(got.Maps, hint(1, there), hint(1, w), hint(1, w)); !sameGroup(again, want) {
				t.Fatalf("QuorumPut once more = %v, want %v", again, want)
			}
		}
	}
}

// TestQuorumPutFew: a put that too few are there for is false, but its write stays: in the maps that are there, for those that are not in hints, and gets find it.
func TestQuorumPutFew(t *testing.T) {
	w := put(5, tag(2, 1, 1), 8)
	for n := 1; n <= impl.MaxQuorum; n++ {
		for mask := range 1<<n - 1 {
			there := bits.OnesCount(uint(mask))
			g := groupOf(make([]impl.Rep, n))
			h, ok := impl.QuorumPut(g, upOf(n, mask), w, there+1)
			if ok || !sameList(impl.Spread(h), []impl.Write{w}) || len(h.Hints) != n-there || len(h.Maps) != n {
				t.Fatalf("%d of %d there, %d needed: %v, %v", there, n, there+1, h, ok)
			}
			if there > 0 {
				if just, ok := impl.QuorumPut(g, upOf(n, mask), w, there); !ok || !sameGroup(just, h) {
					t.Fatalf("%d of %d there, as many needed: %v, %v", there, n, just, ok)
				}
				if _, v, ok := impl.QuorumGet(h, upOf(n, mask), 5, there); !ok || !sameWrite(v, w) {
					t.Fatalf("%d of %d there: got %v, %v", there, n, v, ok)
				}
			}
			if _, v, ok := impl.QuorumGet(h, upOf(n, 1<<n-1-mask), 5, n-there); ok || !sameWrite(v, impl.Write{}) {
				t.Fatalf("a hint was got: %v", v)
			}
			if _, v, ok := impl.QuorumGet(impl.HandOff(h, allUp(n)), upOf(n, 1<<n-1-mask), 5, n-there); !ok || !sameWrite(v, w) {
				t.Fatalf("behind the hand-off got %v, %v", v, ok)
			}
		}
	}
}

// TestQuorumPutWrites: each write that is WriteOk is put, with all it has; of another one comes nothing.
func TestQuorumPutWrites(t *testing.T) {
	g := groupOf([]impl.Rep{rep(), rep(put(2, tag(5, 1, 2), 0))}, hint(0, put(2, tag(5, 1, 2), 0)))
	for _, w := range someWrites() {
		for mask := range 4 {
			checkKept(t, g, upOf(2, mask), w, 1)
		}
	}
	for name, w := range badWrites() {
		for mask := range 4 {
			if got, ok := impl.QuorumPut(g, upOf(2, mask), w, 1); ok || !sameGroup(got, impl.Group{}) {
				t.Errorf("%s: QuorumPut = %v, %v", name, got, ok)
			}
		}
	}
}

func TestQuorumGet(t *testing.T) {
	low, mid, high := put(2, tag(5, 1, 1), 9), put(2, tag(5, 1, 2), 7, dep(0, 1, 0, 1)), put(2, tag(5, 2, 1), -9)
	beside, best := put(4, tag(9, 0, 1), 4), put(2, tag(99, 0, 1), 1)
	g := groupOf([]impl.Rep{rep(low, beside), rep(), rep(mid), rep(high)}, hint(1, best), hint(3, best))
	with := func(maps ...impl.Rep) impl.Group { return groupOf(maps, g.Hints...) }
	first, none, third, last := g.Maps[0], g.Maps[1], g.Maps[2], g.Maps[3]
	for name, x := range map[string]struct {
		mask, key, need int
		want            impl.Group
		w               impl.Write
		ok              bool
	}{
		"one that has it":               {15, 2, 1, g, low, true},
		"two, one has it not":           {15, 2, 2, with(first, rep(low), third, last), low, true},
		"three, the newest put to all":  {15, 2, 3, with(rep(mid, beside), rep(mid), rep(mid), last), mid, true},
		"all":                           {15, 2, 4, with(rep(high, beside), rep(high), rep(high), rep(high)), high, true},
		"not those that are away":       {10, 2, 2, with(first, rep(high), third, rep(high)), high, true},
		"those that are not asked":      {7, 2, 2, with(first, rep(low), third, last), low, true},
		"the first that are there":      {14, 2, 2, with(first, rep(mid), rep(mid), last), mid, true},
		"the last alone":                {8, 2, 1, g, high, true},
		"just as many as are there":     {9, 2, 2, with(rep(high, beside), none, third, last), high, true},
		"one fewer":                     {9, 2, 3, g, impl.Write{}, false},
		"none there":                    {0, 2, 1, g, impl.Write{}, false},
		"all needed, one away":          {11, 2, 4, g, impl.Write{}, false},
		"none asked has it":             {6, 2, 1, g, impl.Write{}, false},
		"none asked, the next has it":   {14, 2, 1, g, impl.Write{}, false},
		"its hints are not asked":       {2, 2, 1, g, impl.Write{}, false},
		"another key":                   {15, 4, 4, with(first, rep(beside), rep(mid, beside), rep(high, beside)), beside, true},
		"another key, one asked has it": {3, 4, 2, with(first, rep(beside), third, last), beside, true},
		"a key that none has":           {15, 3, 4, g, impl.Write{}, false},
		"the least key":                 {15, 0, 4, g, impl.Write{}, false},
		"the greatest key":              {15, impl.MaxKeys - 1, 4, g, impl.Write{}, false},
		"one below the least key":       {15, -1, 4, impl.Group{}, impl.Write{}, false},
		"one beyond the greatest":       {15, impl.MaxKeys, 4, impl.Group{}, impl.Write{}, false},
		"no key, fewer there":           {1, -1, 4, impl.Group{}, impl.Write{}, false},
		"the least number as key":       {15, math.MinInt, 1, impl.Group{}, impl.Write{}, false},
		"the greatest number as key":    {15, math.MaxInt, 1, impl.Group{}, impl.Write{}, false},
		"a need of 0":                   {15, 2, 0, impl.Group{}, impl.Write{}, false},
		"a need of 0, none there":       {0, 2, 0, impl.Group{}, impl.Write{}, false},
		"a need below 0":                {15, 2, -1, impl.Group{}, impl.Write{}, false},
		"a need of one more":            {15, 2, 5, impl.Group{}, impl.Write{}, false},
		"the least need":                {15, 2, math.MinInt, impl.Group{}, impl.Write{}, false},
		"the greatest need":             {15, 2, math.MaxInt, impl.Group{}, impl.Write{}, false},
	} {
		got, w, ok := impl.QuorumGet(g, upOf(4, x.mask), x.key, x.need)
		if ok != x.ok || !sameWrite(w, x.w) || !sameGroup(got, x.want) {
			t.Errorf("%s: QuorumGet = %v, %v, %v, want %v, %v, %v", name, got, w, ok, x.want, x.w, x.ok)
		}
	}
}

// TestQuorumGetNewest: the newest by all that WriteCmp asks, wherever it is; the least and the greatest key.
func TestQuorumGetNewest(t *testing.T) {
	for _, key := range []int{0, 3, impl.MaxKeys - 1} {
		list := rising(key)
		for i, a := range list {
			for j, b := range list {
				g := groupOf([]impl.Rep{rep(a), rep(), rep(b)})
				newest := rep(list[max(i, j)])
				got, w, ok := checkGot(t, g, allUp(3), key, 3)
				if !ok || !sameWrite(w, list[max(i, j)]) || !sameGroup(got, groupOf([]impl.Rep{newest, newest, newest})) {
					t.Fatalf("QuorumGet of %v and %v = %v, %v, %v", a, b, got, w, ok)
				}
				if got, w, ok := checkGot(t, g, []bool{true, true, false}, key, 2); !ok || !sameWrite(w, a) || !sameRep(got.Maps[2], rep(b)) {
					t.Fatalf("QuorumGet of %v, %v away = %v, %v, %v", a, b, got, w, ok)
				}
			}
		}
	}
	// A dead one is told as any other is.
	dead := gone(1, tag(7, 0, 3), dep(1, 6, 0, 2))
	if got, w, ok := impl.QuorumGet(groupOf([]impl.Rep{rep(put(1, tag(6, 0, 2), 1)), rep(dead)}), allUp(2), 1, 2); !ok || !sameWrite(w, dead) || !sameGroup(got, groupOf([]impl.Rep{rep(dead), rep(dead)})) {
		t.Errorf("QuorumGet = %v, %v, %v, want %v", got, w, ok, dead)
	}
}

// TestQuorumCounts: of each number of maps, each row of who is there and each need about the limits, with what comes of it.
func TestQuorumCounts(t *testing.T) {
	w := put(0, tag(4, 0, 4), 4)
	for n := range impl.MaxQuorum + 2 {
		maps := make([]impl.Rep, n)
		for i := range maps {
			if i%2 == 0 {
				maps[i] = rep(put(0, tag(1, 0, 1+i), i))
			}
		}
		g := groupOf(maps)
		for mask := range 1 << n {
			up := upOf(n, mask)
			for _, need := range []int{math.MinInt, -1, 0, 1, (n + 1) / 2, n - 1, n, n + 1, math.MaxInt} {
				if n >= 1 && n <= 7 && need >= 1 && need <= n {
					checkKept(t, g, up, w, need)
					checkGot(t, g, up, 0, need)
					continue
				}
				if h, ok := impl.QuorumPut(g, up, w, need); ok || !sameGroup(h, impl.Group{}) {
					t.Fatalf("%d maps, %v, %d needed: QuorumPut = %v, %v", n, up, need, h, ok)
				}
				if h, v, ok := impl.QuorumGet(g, up, 0, need); ok || !sameWrite(v, impl.Write{}) || !sameGroup(h, impl.Group{}) {
					t.Fatalf("%d maps, %v, %d needed: QuorumGet = %v, %v, %v", n, up, need, h, v, ok)
				}
			}
		}
	}
}

// answersNothing: of these arguments, which are not in order, all three tell nothing.
func answersNothing(t *testing.T, name string, g impl.Group, up []bool) {
	t.Helper()
	w := put(2, tag(3, 0, 1), 1)
	for _, need := range []int{1, max(len(g.Maps), 1)} {
		if h, ok := impl.QuorumPut(g, up, w, need); ok || !sameGroup(h, impl.Group{}) {
			t.Errorf("%s: QuorumPut = %v, %v", name, h, ok)
		}
		for _, key := range []int{2, 5} {
			if h, v, ok := impl.QuorumGet(g, up, key, need); ok || !sameWrite(v, impl.Write{}) || !sameGroup(h, impl.Group{}) {
				t.Errorf("%s: QuorumGet = %v, %v, %v", name, h, v, ok)
			}
		}
	}
	if h := impl.HandOff(g, up); !sameGroup(h, impl.Group{}) {
		t.Errorf("%s: HandOff = %v", name, h)
	}
}

// TestQuorumWrongGroups: of a group that is not GroupOk comes nothing, whoever is there.
func TestQuorumWrongGroups(t *testing.T) {
	for name, g := range badGroups() {
		n := len(g.Maps)
		for _, up := range [][]bool{upOf(n, 0), allUp(n), upOf(n, 1), upOf(n, 1<<n>>1)} {
			answersNothing(t, name, g, up)
		}
		if all := impl.Spread(g); len(all) != 0 {
			t.Errorf("%s: Spread = %v", name, all)
		}
	}
}

// TestQuorumWrongUps: up has as many as there are maps, or nothing comes; what lies behind it doesn't count.
func TestQuorumWrongUps(t *testing.T) {
	w := put(2, tag(2, 0, 1), 7)
	for n := 1; n <= impl.MaxQuorum; n++ {
		g := groupOf(slices.Repeat([]impl.Rep{rep(w)}, n), hint(0, w), hint(n-1, w))
		for many := range 2*n + 2 {
			for _, up := range [][]bool{allUp(many), upOf(many, 0), allUp(2*n + 2)[:many]} {
				if many != n {
					answersNothing(t, strconv.Itoa(n)+" maps, "+strconv.Itoa(many)+" in up", g, up)
				} else if h := impl.HandOff(g, up); len(h.Maps) != n {
					t.Errorf("%d maps: HandOff = %v", n, h)
				}
			}
		}
		answersNothing(t, "no up", g, nil)
	}
}

func TestHandOff(t *testing.T) {
	low, mid, high := put(2, tag(5, 1, 1), 9), put(2, tag(5, 1, 2), 7, dep(0, 1, 0, 1)), put(2, tag(5, 2, 1), -9)
	beside, dead := put(4, tag(9, 0, 1), 4), gone(4, tag(9, 0, 2))
	three := func(a, b, c impl.Rep) []impl.Rep { return []impl.Rep{a, b, c} }
	none := three(rep(), rep(), rep())
	mixed := []impl.Hint{hint(1, low), hint(0, beside), hint(2, mid), hint(1, high), hint(0, low), hint(1, low), hint(2, dead)}
	for name, x := range map[string]struct {
		g    impl.Group
		mask int
		want impl.Group
	}{
		"no hints":                    {groupOf(three(rep(low), rep(), rep(beside))), 7, groupOf(three(rep(low), rep(), rep(beside)))},
		"no hints, none there":        {groupOf(three(rep(low), rep(), rep(beside))), 0, groupOf(three(rep(low), rep(), rep(beside)))},
		"one, there":                  {groupOf(none, hint(1, low)), 2, groupOf(three(rep(), rep(low), rep()))},
		"one, away":                   {groupOf(none, hint(1, low)), 5, groupOf(none, hint(1, low))},
		"the first place":             {groupOf(none, hint(0, low)), 1, groupOf(three(rep(low), rep(), rep()))},
		"the last place":              {groupOf(none, hint(2, low)), 4, groupOf(three(rep(), rep(), rep(low)))},
		"later than the map":          {groupOf(three(rep(low), rep(), rep()), hint(0, high)), 7, groupOf(three(rep(high), rep(), rep()))},
		"earlier than the map":        {groupOf(three(rep(high), rep(), rep()), hint(0, low)), 7, groupOf(three(rep(high), rep(), rep()))},
		"the same as in the map":      {groupOf(three(rep(low), rep(), rep()), hint(0, low)), 7, groupOf(three(rep(low), rep(), rep()))},
		"the same twice":              {groupOf(none, hint(0, low), hint(0, low)), 7, groupOf(three(rep(low), rep(), rep()))},
		"the same twice, away":        {groupOf(none, hint(0, low), hint(0, low)), 6, groupOf(none, hint(0, low), hint(0, low))},
		"a late one, then an early":   {groupOf(none, hint(0, high), hint(0, low)), 7, groupOf(three(rep(high), rep(), rep()))},
		"an early one, then a late":   {groupOf(none, hint(0, low), hint(0, high)), 7, groupOf(three(rep(high), rep(), rep()))},
		"one write for two":           {groupOf(none, hint(0, low), hint(2, low)), 7, groupOf(three(rep(low), rep(), rep(low)))},
		"one write for two, one away": {groupOf(none, hint(0, low), hint(2, low)), 3, groupOf(three(rep(low), rep(), rep()), hint(2, low))},
		"a dead one":                  {groupOf(three(rep(beside), rep(), rep()), hint(0, dead)), 1, groupOf(three(rep(dead), rep(), rep()))},
		"all there":                   {groupOf(none, mixed...), 7, groupOf(three(rep(low, beside), rep(high), rep(mid, dead)))},
		"none there":                  {groupOf(none, mixed...), 0, groupOf(none, mixed...)},
		"the first there":             {groupOf(none, mixed...), 1, groupOf(three(rep(low, beside), rep(), rep()), hint(1, low), hint(2, mid), hint(1, high), hint(1, low), hint(2, dead))},
		"the one midway there":        {groupOf(none, mixed...), 2, groupOf(three(rep(), rep(high), rep()), hint(0, beside), hint(2, mid), hint(0, low), hint(2, dead))},
		"the one midway away":         {groupOf(none, mixed...), 5, groupOf(three(rep(low, beside), rep(), rep(mid, dead)), hint(1, low), hint(1, high), hint(1, low))},
	} {
		if got := checkHanded(t, x.g, upOf(3, x.mask)); !sameGroup(got, x.want) {
			t.Errorf("%s: HandOff = %v, want %v", name, got, x.want)
		}
	}
	one := groupOf([]impl.Rep{rep()}, hint(0, low))
	if got := impl.HandOff(one, []bool{true}); !sameGroup(got, groupOf([]impl.Rep{rep(low)})) {
		t.Errorf("of one map: HandOff = %v", got)
	}
	if got := impl.HandOff(one, []bool{false}); !sameGroup(got, one) {
		t.Errorf("of one map that is away: HandOff = %v", got)
	}
}

// TestHandOffLosesNothing: groups as they come, each row of who is there; then, when all are there, each map has what was kept for it, and no hint is left.
func TestHandOffLosesNothing(t *testing.T) {
	d := dice(127)
	left, handed := 0, 0
	for i := range 420 {
		n := 1 + i%impl.MaxQuorum
		g := thrownGroup(&d, n)
		for range 1 + d.below(6) {
			up := upOf(n, d.below(1<<n))
			got := checkHanded(t, g, up)
			left += len(got.Hints)
			handed += len(g.Hints) - len(got.Hints)
			if again := checkHanded(t, got, up); !sameGroup(again, got) {
				t.Fatalf("HandOff once more = %v, want %v", again, got)
			}
			// Whoever hands off first, all have the same at last.
			whole, want := checkHanded(t, got, allUp(n)), checkHanded(t, g, allUp(n))
			if !sameGroup(whole, want) || len(whole.Hints) != 0 {
				t.Fatalf("HandOff of some, then of all = %v, want %v", whole, want)
			}
			for i, r := range whole.Maps {
				kept := g.Maps[i].M
				for _, h := range g.Hints {
					if h.For == i {
						kept = joined(kept, []impl.Write{h.W})
					}
				}
				if !sameList(r.M, kept) {
					t.Fatalf("map %d of %v behind HandOff to all: %v, want %v", i, g, r.M, kept)
				}
			}
			g = got
		}
	}
	if left < 500 || handed < 500 {
		t.Errorf("%d left, %d handed off: too few to tell", left, handed)
	}
}

// TestHandOffMany: as many hints as one likes.
func TestHandOffMany(t *testing.T) {
	const n = 30000
	g := groupOf(make([]impl.Rep, 3))
	for i := range n {
		g.Hints = append(g.Hints, hint(i%3, put(i%6, tag(1+i, i%4, 1+i%impl.MaxSeq), i)))
	}
	if got := impl.HandOff(g, []bool{true, false, true}); len(got.Hints) != n/3 || len(got.Maps[0].M) != 2 || len(got.Maps[1].M) != 0 || len(got.Maps[2].M) != 2 {
		t.Errorf("%d hints, %v", len(got.Hints), got.Maps)
	}
	if got := impl.Spread(g); len(got) != 6 || got[5].Val != n-1 {
		t.Errorf("Spread = %v", got)
	}
}

func TestNewest(t *testing.T) {
	a, b := put(3, tag(4, 1, 2), 1), put(3, tag(4, 1, 2), 2)
	early, late := put(3, tag(1, 3, 9), 9), put(3, tag(4, 2, 1), -9)
	for name, x := range map[string]struct {
		list []impl.Write
		want impl.Write
		ok   bool
	}{
		"none":                        {nil, impl.Write{}, false},
		"an empty list":               {[]impl.Write{}, impl.Write{}, false},
		"one":                         {[]impl.Write{a}, a, true},
		"the first":                   {[]impl.Write{late, a, early}, late, true},
		"one midway":                  {[]impl.Write{a, late, early}, late, true},
		"the last":                    {[]impl.Write{a, early, late}, late, true},
		"the same twice":              {[]impl.Write{a, a}, a, true},
		"the same more than once":     {[]impl.Write{late, a, late, early, late}, late, true},
		"the last one twice, early":   {[]impl.Write{early, late, early, late, early}, late, true},
		"one T, not the same":         {[]impl.Write{a, b}, b, true},
		"one T, the other way":        {[]impl.Write{b, a}, b, true},
		"two keys":                    {[]impl.Write{a, put(4, tag(5, 0, 1), 1)}, impl.Write{}, false},
		"two keys, one T":             {[]impl.Write{a, put(2, a.T, 1)}, impl.Write{}, false},
		"another key first":           {[]impl.Write{put(0, tag(1, 0, 1), 1), a, b}, impl.Write{}, false},
		"another key midway":          {[]impl.Write{a, put(0, tag(1, 0, 1), 1), b}, impl.Write{}, false},
		"another key last":            {[]impl.Write{a, b, put(0, tag(1, 0, 1), 1)}, impl.Write{}, false},
		"another key, earlier":        {[]impl.Write{late, put(5, tag(1, 0, 1), 1)}, impl.Write{}, false},
		"the key changes behind last": {[]impl.Write{early, late, put(4, tag(4, 2, 1), -9)}, impl.Write{}, false},
		"the zero write":              {[]impl.Write{{}}, impl.Write{}, true},
		"no key":                      {[]impl.Write{put(-1, tag(1, 0, 1), 1), put(-1, tag(2, 0, 1), 1)}, put(-1, tag(2, 0, 1), 1), true},
		"no TagOk tags":               {[]impl.Write{put(9, tag(-1, 9, 9), 1), put(9, tag(-2, 0, 0), math.MaxInt)}, put(9, tag(-1, 9, 9), 1), true},
		"no keys, and two of them":    {[]impl.Write{put(-1, tag(1, 0, 1), 1), put(6, tag(2, 0, 1), 1)}, impl.Write{}, false},
	} {
		if got, ok := impl.Newest(x.list); ok != x.ok || !sameWrite(got, x.want) {
			t.Errorf("%s: Newest = %v, %v, want %v, %v", name, got, ok, x.want, x.ok)
		}
		if got, ok := impl.Newest(roomy(x.list)); ok != x.ok || !sameWrite(got, x.want) {
			t.Errorf("%s, with room behind the list: Newest = %v, %v, want %v, %v", name, got, ok, x.want, x.ok)
		}
	}
	if _, ok := impl.Newest([]impl.Write{a, b}[:0]); ok {
		t.Error("Newest reads what lies behind the list")
	}
}

// TestNewestOfMany: the last by all that WriteCmp asks, in whatever order they lie.
func TestNewestOfMany(t *testing.T) {
	d := dice(131)
	all := rising(3)
	for range 2000 {
		var list []impl.Write
		last := -1
		for range 1 + d.below(2*len(all)) {
			i := d.below(len(all))
			last = max(last, i)
			list = append(list, all[i])
		}
		if got, ok := impl.Newest(list); !ok || !sameWrite(got, all[last]) {
			t.Fatalf("Newest(%v) = %v, %v, want %v", list, got, ok, all[last])
		}
		list[d.below(len(list))].Key = 2
		if got, ok := impl.Newest(list); ok != (len(list) == 1) || !ok && !sameWrite(got, impl.Write{}) {
			t.Fatalf("Newest(%v) = %v, %v", list, got, ok)
		}
	}
}

func TestSpread(t *testing.T) {
	low, mid, high := put(2, tag(5, 1, 1), 9), put(2, tag(5, 1, 2), 7, dep(0, 1, 0, 1)), put(2, tag(5, 2, 1), -9)
	beside, dead := put(4, tag(9, 0, 1), 4), gone(0, tag(9, 0, 2))
	for name, x := range map[string]struct {
		g    impl.Group
		want []impl.Write
	}{
		"nothing":                  {groupOf([]impl.Rep{rep()}), nil},
		"nothing of most":          {groupOf(make([]impl.Rep, impl.MaxQuorum)), nil},
		"one map":                  {groupOf([]impl.Rep{rep(dead, low, beside)}), []impl.Write{dead, low, beside}},
		"maps":                     {groupOf([]impl.Rep{rep(low), rep(beside), rep(mid)}), []impl.Write{mid, beside}},
		"the last map":             {groupOf([]impl.Rep{rep(), rep(), rep(), rep(), rep(), rep(), rep(low)}), []impl.Write{low}},
		"the first has the last":   {groupOf([]impl.Rep{rep(high), rep(low), rep(mid)}), []impl.Write{high}},
		"a hint that no map has":   {groupOf([]impl.Rep{rep(low)}, hint(0, beside)), []impl.Write{low, beside}},
		"hints alone":              {groupOf([]impl.Rep{rep(), rep()}, hint(1, beside), hint(0, dead)), []impl.Write{dead, beside}},
		"a later hint":             {groupOf([]impl.Rep{rep(low), rep()}, hint(1, high)), []impl.Write{high}},
		"an earlier hint":          {groupOf([]impl.Rep{rep(high), rep()}, hint(1, low)), []impl.Write{high}},
		"a late and an early hint": {groupOf([]impl.Rep{rep(mid), rep()}, hint(1, high), hint(1, low)), []impl.Write{high}},
		"an early and a late hint": {groupOf([]impl.Rep{rep(mid), rep()}, hint(1, low), hint(1, high)), []impl.Write{high}},
		"the same all over":        {groupOf([]impl.Rep{rep(mid), rep(mid)}, hint(1, mid), hint(1, mid)), []impl.Write{mid}},
		"hints of many, told by key": {groupOf([]impl.Rep{rep()}, hint(0, beside), hint(0, mid), hint(0, dead), hint(0, put(5, tag(1, 0, 1), 5)), hint(0, put(1, tag(1, 0, 1), 1)), hint(0, put(3, tag(1, 0, 1), 3))),
			[]impl.Write{dead, put(1, tag(1, 0, 1), 1), mid, put(3, tag(1, 0, 1), 3), beside, put(5, tag(1, 0, 1), 5)}},
	} {
		if got := impl.Spread(x.g); !sameList(got, x.want) || !impl.MapOk(got) {
			t.Errorf("%s: Spread = %v, want %v", name, got, x.want)
		}
	}
	d := dice(137)
	for i := range 700 {
		g := thrownGroup(&d, 1+i%impl.MaxQuorum)
		got := impl.Spread(g)
		if want := spreadBy(g); !sameList(got, want) {
			t.Fatalf("Spread(%v) = %v, want %v", g, got, want)
		}
		slices.Reverse(g.Maps)
		slices.Reverse(g.Hints)
		if back := impl.Spread(g); !sameList(back, got) {
			t.Fatalf("backward: Spread(%v) = %v, want %v", g, back, got)
		}
		for _, r := range g.Maps {
			if !impl.Within(r.M, got) {
				t.Fatalf("Spread(%v) = %v: without %v", g, got, r)
			}
		}
		for _, h := range g.Hints {
			if !impl.Within([]impl.Write{h.W}, got) {
				t.Fatalf("Spread(%v) = %v: without %v", g, got, h)
			}
		}
	}
}

// roomyGroup: the group, with spare room behind each of its lists, in which something lies.
func roomyGroup(g impl.Group) impl.Group {
	maps, hints := make([]impl.Rep, 0, len(g.Maps)+2), make([]impl.Hint, 0, len(g.Hints)+2)
	for _, r := range g.Maps {
		maps = append(maps, rep(roomy(r.M)...))
	}
	for _, h := range g.Hints {
		hints = append(hints, hint(h.For, roomy([]impl.Write{h.W})[0]))
	}
	maps = append(maps, rep(put(0, tag(1, 0, 1), 88)), rep(put(1, tag(1, 0, 1), 99)))
	hints = append(hints, hint(0, put(0, tag(1, 0, 1), 88)), hint(1, put(1, tag(1, 0, 1), 99)))
	return groupOf(maps[:len(g.Maps)], hints[:len(g.Hints)]...)
}

// listsOf: each list of writes of a group, those of the hints as lists of one.
func listsOf(g impl.Group) [][]impl.Write {
	var out [][]impl.Write
	for _, r := range g.Maps[:cap(g.Maps)] {
		out = append(out, r.M)
	}
	for _, h := range g.Hints[:cap(g.Hints)] {
		out = append(out, []impl.Write{h.W})
	}
	return out
}

// wholeOfGroup: copies of all lists of a group, and of all that lies behind them.
func wholeOfGroup(g impl.Group) impl.Group {
	maps, hints := slices.Clone(g.Maps[:cap(g.Maps)]), slices.Clone(g.Hints[:cap(g.Hints)])
	for i := range maps {
		maps[i].M = wholeOf(maps[i].M)
	}
	for i := range hints {
		hints[i].W = wholeOf([]impl.Write{hints[i].W})[0]
	}
	return groupOf(maps, hints...)
}

func spoilGroup(g impl.Group) {
	for _, list := range listsOf(g) {
		spoil(list)
	}
	maps, hints := g.Maps[:cap(g.Maps)], g.Hints[:cap(g.Hints)]
	for i := range maps {
		maps[i] = rep(put(-7, tag(-7, -7, -7), -7))
	}
	for i := range hints {
		hints[i] = hint(-7, put(-7, tag(-7, -7, -7), -7))
	}
}

// sharedGroup: a group whose maps and hints share writes and Deps.
func sharedGroup() (impl.Group, impl.Write) {
	deps := []impl.Dep{dep(0, 1, 0, 1), dep(1, 1, 0, 1)}
	m := []impl.Write{put(1, tag(2, 0, 1), 1, deps...), put(3, tag(2, 0, 2), 1, deps...)}
	w := put(3, tag(2, 0, 3), 1, deps...)
	return groupOf([]impl.Rep{rep(m...), rep(m...), rep(m[1:]...), rep(m[0], w), rep()}, hint(1, w), hint(1, w), hint(0, m[0]), hint(4, m[1]), hint(4, w)), w
}

// groupCall: a call that answers a group, and the write that stands beside it.
type groupCall func(g impl.Group, up []bool, w impl.Write) (impl.Group, impl.Write)

// groupCalls: each that answers a group, of what it takes and of what it refuses.
func groupCalls() map[string]groupCall {
	plain := func(g impl.Group, _ bool) (impl.Group, impl.Write) { return g, impl.Write{} }
	got := func(g impl.Group, w impl.Write, _ bool) (impl.Group, impl.Write) { return g, w }
	return map[string]groupCall{
		"QuorumPut": func(g impl.Group, up []bool, w impl.Write) (impl.Group, impl.Write) {
			return plain(impl.QuorumPut(g, up, w, 1))
		},
		"QuorumPut few": func(g impl.Group, up []bool, w impl.Write) (impl.Group, impl.Write) {
			return plain(impl.QuorumPut(g, up, w, 5))
		},
		"QuorumGet": func(g impl.Group, up []bool, w impl.Write) (impl.Group, impl.Write) {
			return got(impl.QuorumGet(g, up, 3, 2))
		},
		"QuorumGet one": func(g impl.Group, up []bool, w impl.Write) (impl.Group, impl.Write) {
			return got(impl.QuorumGet(g, up, 1, 1))
		},
		"QuorumGet few": func(g impl.Group, up []bool, w impl.Write) (impl.Group, impl.Write) {
			return got(impl.QuorumGet(g, up, 3, 5))
		},
		"no such key": func(g impl.Group, up []bool, w impl.Write) (impl.Group, impl.Write) {
			return got(impl.QuorumGet(g, up, 5, 1))
		},
		"HandOff": func(g impl.Group, up []bool, w impl.Write) (impl.Group, impl.Write) {
			return impl.HandOff(g, up), impl.Write{}
		},
		"no such need": func(g impl.Group, up []bool, w impl.Write) (impl.Group, impl.Write) {
			return plain(impl.QuorumPut(g, up, w, 0))
		},
		"no key": func(g impl.Group, up []bool, w impl.Write) (impl.Group, impl.Write) {
			return got(impl.QuorumGet(g, up, -1, 1))
		},
		"no fitting up": func(g impl.Group, up []bool, w impl.Write) (impl.Group, impl.Write) {
			return impl.HandOff(g, up[1:]), impl.Write{}
		},
		"no GroupOk": func(g impl.Group, up []bool, w impl.Write) (impl.Group, impl.Write) {
			return plain(impl.QuorumPut(groupOf(g.Maps, append(slices.Clone(g.Hints), hint(9, w))...), up, w, 1))
		},
	}
}

// TestQuorumLeavesArguments: neither arguments nor the room behind them are written by a call, or by what is done to its answer; and what lies in that room changes no answer, and is not handed out.
func TestQuorumLeavesArguments(t *testing.T) {
	plain, plainW := sharedGroup()
	for mask := range 32 {
		for name, call := range groupCalls() {
			g, w := roomyGroup(plain), roomy([]impl.Write{plainW})[0]
			up := append(upOf(5, mask), true, false)[:5]
			whole, wholeW, wholeUp := wholeOfGroup(g), wholeOf([]impl.Write{w}), slices.Clone(up[:7])
			got, v := call(g, up, w)
			want, wantV := call(plain, upOf(5, mask), plainW)
			if !sameGroup(got, want) || !sameWrite(v, wantV) {
				t.Fatalf("%s: what lies behind a list is read: %v, %v, want %v, %v", name, got, v, want, wantV)
			}
			for _, list := range append(listsOf(got), []impl.Write{v}) {
				for _, o := range wholeOf(list) {
					if o.Val == 88 || o.Val == 99 || slices.Contains(o.Deps, dep(8, 8, 8, 8)) {
						t.Fatalf("%s: what lies behind a list is handed out: %v", name, o)
					}
				}
			}
			spoilGroup(got)
			spoil([]impl.Write{v})
			if !sameGroup(wholeOfGroup(g), whole) || !sameList(wholeOf([]impl.Write{w}), wholeW) || !slices.Equal(up[:7], wholeUp) {
				t.Fatalf("%s: written into an argument: %v, %v, %v", name, g, w, up)
			}
		}
	}
	g := roomyGroup(plain)
	whole := wholeOfGroup(g)
	impl.GroupOk(g)
	all := impl.Spread(g)
	newest, _ := impl.Newest(g.Maps[0].M[1:])
	if !sameList(all, impl.Spread(plain)) || !sameWrite(newest, plain.Maps[0].M[1]) {
		t.Errorf("what lies behind a list is read: %v, %v", all, newest)
	}
	for _, o := range slices.Concat(wholeOf(all), wholeOf([]impl.Write{newest})) {
		if o.Val == 88 || o.Val == 99 || slices.Contains(o.Deps, dep(8, 8, 8, 8)) {
			t.Errorf("what lies behind a list is handed out: %v", o)
		}
	}
	spoil(all)
	spoil([]impl.Write{newest})
	if !sameGroup(wholeOfGroup(g), whole) {
		t.Errorf("Spread or Newest: written into an argument: %v", g)
	}
}

// TestQuorumNewMemory: where arguments share lists, those of an answer don't, nor do those of two answers.
func TestQuorumNewMemory(t *testing.T) {
	g, w := sharedGroup()
	for _, mask := range []int{0, 2, 7, 13, 20, 31} {
		up := upOf(5, mask)
		for name, call := range groupCalls() {
			lists := func() [][]impl.Write {
				got, v := call(g, up, w)
				return append(listsOf(got), []impl.Write{v})
			}
			want := lists()
			for i := range want {
				got := lists()
				spoil(got[i])
				for j := range got {
					if j != i && !sameList(got[j], want[j]) {
						t.Errorf("%s, %v there: lists %d and %d of the answer share memory", name, up, i, j)
					}
				}
			}
			if whole := slices.Concat(want...); len(whole) > 1 {
				sharesNone(t, name, func() []impl.Write { return slices.Concat(lists()...) })
			}
			first, v := call(g, up, w)
			other, u := call(g, up, w)
			spoilGroup(other)
			spoil([]impl.Write{u})
			if again, x := call(g, up, w); !sameGroup(again, first) || !sameWrite(v, x) {
				t.Errorf("%s: two answers share memory: %v", name, first)
			}
		}
	}
	sharesNone(t, "Spread", func() []impl.Write { return impl.Spread(g) })
	sharesNone(t, "Newest", func() []impl.Write {
		a, _ := impl.Newest([]impl.Write{w, w})
		b, _ := impl.Newest([]impl.Write{w})
		return []impl.Write{a, b}
	})
}

// TestQuorumSameEachTime: no call keeps anything for another one.
func TestQuorumSameEachTime(t *testing.T) {
	d := dice(139)
	g, w := sharedGroup()
	for range 30 {
		other := thrownGroup(&d, 1+d.below(impl.MaxQuorum))
		impl.QuorumPut(other, upOf(len(other.Maps), d.below(99)), thrown(&d, 1)[0], 1)
		impl.HandOff(other, upOf(len(other.Maps), d.below(99)))
		impl.QuorumGet(other, upOf(len(other.Maps), d.below(99)), d.below(6), 1)
		for mask := range 32 {
			checkKept(t, g, upOf(5, mask), w, 3)
			checkGot(t, g, upOf(5, mask), 3, 3)
			checkHanded(t, g, upOf(5, mask))
		}
	}
}
