package tests

import (
	"math"
	"slices"
	"testing"

	"loop.example/g00579/impl"
)

func put(key int, t impl.Tag, val int, deps ...impl.Dep) impl.Write {
	return impl.Write{Key: key, T: t, Val: val, Deps: deps}
}

func gone(key int, t impl.Tag, deps ...impl.Dep) impl.Write {
	return impl.Write{Key: key, T: t, Dead: true, Deps: deps}
}

func sameList(a []impl.Write, b []impl.Write) bool {
	return slices.EqualFunc(a, b, sameWrite)
}

// rising: writes of one key, each of which comes ahead of those behind it, each next two apart by another thing that WriteCmp asks.
func rising(key int) []impl.Write {
	return []impl.Write{
		put(key, tag(3, 3, 9), 9, dep(0, 2, 0, 1)),
		put(key, tag(4, 0, 9), 9, dep(0, 2, 0, 1)),
		put(key, tag(4, 1, 1), 9, dep(0, 2, 0, 1)),
		put(key, tag(4, 1, 2), -5, dep(0, 2, 0, 1)),
		put(key, tag(4, 1, 2), 0),
		put(key, tag(4, 1, 2), 0, dep(0, 2, 0, 1)),
		put(key, tag(4, 1, 2), 0, dep(0, 2, 0, 2)),
		put(key, tag(4, 1, 2), 0, dep(0, 2, 0, 2), dep(3, 1, 0, 1)),
		put(key, tag(4, 1, 2), 0, dep(1, 1, 0, 1)),
		gone(key, tag(4, 1, 2)),
		gone(key, tag(4, 1, 2), dep(0, 2, 0, 1)),
		put(key, tag(4, 1, 2), 1),
		put(key, tag(5, 0, 1), -9),
	}
}

// mapsOf: all maps with, of each key, none of its writes or one.
func mapsOf(keys []int, writes func(key int) []impl.Write) [][]impl.Write {
	all := [][]impl.Write{nil}
	for _, key := range keys {
		for _, m := range slices.Clone(all) {
			for _, w := range writes(key) {
				all = append(all, append(slices.Clone(m), w))
			}
		}
	}
	return all
}

// fewRising: some of rising, among them two of one tag.
func fewRising(key int) []impl.Write {
	list := rising(key)
	return []impl.Write{list[2], list[4], list[9], list[12]}
}

// badMaps: lists that are not MapOk.
func badMaps() map[string][]impl.Write {
	low, mid, high := put(1, tag(4, 0, 1), 1), put(3, tag(2, 1, 1), 2), put(5, tag(9, 3, 4), 3)
	bad := map[string][]impl.Write{
		"keys fall":          {mid, low},
		"keys fall at last":  {low, high, mid},
		"keys fall at first": {mid, low, high},
		"one twice":          {low, low},
		"key twice":          {low, put(1, tag(5, 0, 2), 1)},
		"key 0 twice":        {put(0, tag(1, 0, 1), 1), put(0, tag(2, 0, 2), 1)},
		"key twice at last":  {low, mid, put(3, tag(9, 1, 1), 2)},
	}
	for name, w := range badWrites() {
		bad["alone: "+name] = []impl.Write{w}
		bad["first: "+name] = []impl.Write{w, high}
		bad["last: "+name] = []impl.Write{put(0, tag(1, 0, 1), 1), w}
	}
	return bad
}

func TestMapOk(t *testing.T) {
	var full []impl.Write
	for k := range impl.MaxKeys {
		full = append(full, put(k, tag(impl.MaxKeys-k, 0, 1), k))
	}
	for name, m := range map[string][]impl.Write{
		"nil":      nil,
		"empty":    {},
		"least":    {put(0, tag(1, 0, 1), 0)},
		"greatest": {put(impl.MaxKeys-1, tag(impl.MaxClock, impl.MaxSites-1, impl.MaxSeq), impl.MaxVal)},
		"all keys": full,
		"gaps":     {full[0], full[2], full[5]},
		"one tag":  {put(1, tag(4, 0, 1), 1), put(2, tag(4, 0, 1), 1)},
		"dead":     {gone(1, tag(4, 0, 1)), gone(2, tag(4, 0, 2))},
		"no cut":   {put(1, tag(4, 0, 1), 1, dep(5, 3, 0, 1))},
	} {
		if !impl.MapOk(m) {
			t.Errorf("%s: MapOk = false", name)
		}
	}
	for name, m := range badMaps() {
		if impl.MapOk(m) {
			t.Errorf("%s: MapOk = true", name)
		}
	}
	if impl.MapOk(append(slices.Clone(full), put(impl.MaxKeys, tag(1, 0, 1), 0))) || impl.MapOk(append(full, full...)) {
		t.Error("MapOk of more writes than there are keys")
	}
}

func TestMapAt(t *testing.T) {
	m := []impl.Write{put(0, tag(1, 0, 1), 7), gone(2, tag(3, 1, 1), dep(0, 1, 0, 1)), put(5, tag(2, 0, 2), -8)}
	for key, i := range map[int]int{0: 0, 2: 1, 5: 2} {
		if w, ok := impl.MapAt(m, key); !ok || !sameWrite(w, m[i]) {
			t.Errorf("MapAt %d = %v, %v", key, w, ok)
		}
	}
	for _, key := range []int{1, 3, 4, -1, impl.MaxKeys, math.MaxInt, math.MinInt} {
		if w, ok := impl.MapAt(m, key); ok || !sameWrite(w, impl.Write{}) {
			t.Errorf("MapAt %d = %v, %v", key, w, ok)
		}
	}
	if w, ok := impl.MapAt(nil, 0); ok || !sameWrite(w, impl.Write{}) {
		t.Errorf("MapAt of none = %v, %v", w, ok)
	}
}

// TestMapAtOfAnyList: MapAt asks for no MapOk map: the first with the key is told, whatever stands in the list.
func TestMapAtOfAnyList(t *testing.T) {
	list := []impl.Write{
		put(4, tag(1, 0, 1), 1), put(2, tag(9, 0, 1), 2), put(4, tag(8, 0, 1), 3), put(2, tag(1, 0, 1), 4),
		put(impl.MaxKeys, tag(1, 0, 1), 5), put(-1, impl.Tag{}, 6, dep(9, 9, 9, 9)), put(0, impl.Tag{}, math.MaxInt),
	}
	for key, i := range map[int]int{4: 0, 2: 1, impl.MaxKeys: 4, -1: 5, 0: 6} {
		if w, ok := impl.MapAt(list, key); !ok || !sameWrite(w, list[i]) {
			t.Errorf("MapAt %d = %v, %v", key, w, ok)
		}
	}
	if _, ok := impl.MapAt(list[:2], 0); ok {
		t.Error("MapAt reads what lies behind the list")
	}
}

func TestMapPutPlaces(t *testing.T) {
	one, three := put(1, tag(4, 0, 1), 1), put(3, tag(2, 1, 1), 2)
	m := []impl.Write{one, three}
	for _, key := range []int{0, 2, 4, 5} {
		w := put(key, tag(3, 3, 3), 30, dep(3, 2, 1, 1))
		want := append(slices.Clone(m), w)
		slices.SortFunc(want, func(a, b impl.Write) int { return a.Key - b.Key })
		if got := impl.MapPut(m, w); !sameList(got, want) {
			t.Errorf("MapPut of key %d = %v, want %v", key, got, want)
		}
	}
	if got := impl.MapPut(nil, one); !sameList(got, []impl.Write{one}) {
		t.Errorf("MapPut to none = %v", got)
	}
	if got := impl.MapPut([]impl.Write{}, one); !sameList(got, []impl.Write{one}) {
		t.Errorf("MapPut to an empty map = %v", got)
	}
}

// TestMapPutSameKey: of each two writes of a key the one that comes behind is there at last; one that is there already changes nothing.
func TestMapPutSameKey(t *testing.T) {
	for _, key := range []int{0, 2, impl.MaxKeys - 1} {
		list := rising(key)
		for i, there := range list {
			for j, w := range list {
				m := []impl.Write{there}
				if key > 1 {
					m = []impl.Write{put(1, tag(9, 0, 1), 1), there}
				}
				if key < 4 {
					m = append(m, put(4, tag(1, 0, 1), 4))
				}
				want := slices.Clone(m)
				want[slices.IndexFunc(m, func(x impl.Write) bool { return x.Key == key })] = list[max(i, j)]
				if got := impl.MapPut(m, w); !sameList(got, want) {
					t.Fatalf("MapPut(%v, %v) = %v, want %v", m, w, got, want)
				}
			}
		}
	}
}

func TestMapPutWrong(t *testing.T) {
	good := put(2, tag(3, 0, 1), 1)
	for name, m := range badMaps() {
		if got := impl.MapPut(m, good); len(got) != 0 {
			t.Errorf("%s: MapPut = %v", name, got)
		}
	}
	for name, w := range badWrites() {
		for _, m := range [][]impl.Write{nil, {good}, {put(1, tag(3, 0, 1), 1), put(3, tag(4, 0, 1), 1)}} {
			if got := impl.MapPut(m, w); len(got) != 0 {
				t.Errorf("%s: MapPut to %v = %v", name, m, got)
			}
		}
	}
}

// joined: of each key the write that comes last, looked for key by key.
func joined(lists ...[]impl.Write) []impl.Write {
	var out []impl.Write
	for key := range impl.MaxKeys {
		var of []impl.Write
		for _, w := range slices.Concat(lists...) {
			if w.Key == key {
				of = append(of, w)
			}
		}
		if len(of) > 0 {
			out = append(out, slices.MaxFunc(of, impl.WriteCmp))
		}
	}
	return out
}

func TestMapJoin(t *testing.T) {
	a := []impl.Write{put(0, tag(1, 0, 1), 7), put(2, tag(5, 0, 3), 8), put(3, tag(4, 0, 2), 9)}
	b := []impl.Write{put(1, tag(2, 1, 1), 1), put(2, tag(4, 1, 2), 2, dep(1, 2, 1, 1)), gone(3, tag(6, 1, 3))}
	want := []impl.Write{a[0], b[0], a[1], b[2]}
	if got := impl.MapJoin(a, b); !sameList(got, want) {
		t.Errorf("MapJoin = %v, want %v", got, want)
	}
	if got := impl.MapJoin(b, a); !sameList(got, want) {
		t.Errorf("MapJoin the other way = %v, want %v", got, want)
	}
	if got := impl.MapJoin(nil, []impl.Write{}); len(got) != 0 {
		t.Errorf("MapJoin of none = %v", got)
	}
}

// TestMapJoinEitherOrder: each two maps of the pool, in either order, are of each key the last write, and the same as put one by one.
func TestMapJoinEitherOrder(t *testing.T) {
	pool := mapsOf([]int{0, 2, 5}, fewRising)
	for _, a := range pool {
		if got := impl.MapJoin(a, a); !sameList(got, a) {
			t.Fatalf("%v joined with itself = %v", a, got)
		}
		for _, b := range pool {
			want := joined(a, b)
			got := impl.MapJoin(a, b)
			if !sameList(got, want) || !impl.MapOk(got) {
				t.Fatalf("MapJoin(%v, %v) = %v, want %v", a, b, got, want)
			}
			if back := impl.MapJoin(b, a); !sameList(back, want) {
				t.Fatalf("MapJoin(%v, %v) = %v, want %v", b, a, back, want)
			}
			one := impl.MapJoin(a, nil)
			for _, w := range b {
				one = impl.MapPut(one, w)
			}
			if !sameList(one, want) {
				t.Fatalf("%v, and %v put one by one = %v, want %v", a, b, one, want)
			}
		}
	}
}

func TestMapJoinWhicheverFirst(t *testing.T) {
	pool := mapsOf([]int{1, 4}, fewRising)
	for _, a := range pool {
		for _, b := range pool {
			ab := impl.MapJoin(a, b)
			for _, c := range pool {
				want := joined(a, b, c)
				left := impl.MapJoin(ab, c)
				right := impl.MapJoin(a, impl.MapJoin(b, c))
				mid := impl.MapJoin(impl.MapJoin(c, a), b)
				if !sameList(left, want) || !sameList(right, want) || !sameList(mid, want) {
					t.Fatalf("%v, %v, %v joined: %v, %v, %v, want %v", a, b, c, left, right, mid, want)
				}
			}
		}
	}
}

// TestMapPutWhicheverFirst: writes put in every order, one of them twice, make the same map.
func TestMapPutWhicheverFirst(t *testing.T) {
	list := slices.Concat(fewRising(2)[1:], fewRising(4)[2:], fewRising(0)[:1])
	want := joined(list)
	var place func(m []impl.Write, rest []impl.Write)
	place = func(m []impl.Write, rest []impl.Write) {
		if len(rest) == 0 {
			m = impl.MapPut(m, list[0])
			if !sameList(m, want) {
				t.Fatalf("%v, want %v", m, want)
			}
		}
		for i, w := range rest {
			place(impl.MapPut(m, w), slices.Concat(rest[:i], rest[i+1:]))
		}
	}
	place(nil, list)
}

func TestMapJoinWrong(t *testing.T) {
	good := []impl.Write{put(2, tag(3, 0, 1), 1), put(3, tag(4, 0, 1), 1)}
	for name, m := range badMaps() {
		for _, other := range [][]impl.Write{nil, good, m} {
			if got := impl.MapJoin(m, other); len(got) != 0 {
				t.Errorf("%s: MapJoin with %v = %v", name, other, got)
			}
			if got := impl.MapJoin(other, m); len(got) != 0 {
				t.Errorf("%s: MapJoin to %v = %v", name, other, got)
			}
		}
	}
}

func TestMapHas(t *testing.T) {
	m := []impl.Write{put(0, tag(1, 0, 1), 7), gone(2, tag(5, 1, 4)), put(5, tag(9, 0, 2), -8)}
	for _, c := range []struct {
		key  int
		t    impl.Tag
		want bool
	}{
		{2, tag(5, 1, 4), true},
		{2, tag(5, 1, 3), true},
		{2, tag(5, 1, 5), false},
		{2, tag(5, 0, 9), true},
		{2, tag(5, 2, 1), false},
		{2, tag(4, 3, 9), true},
		{2, tag(6, 0, 1), false},
		{0, tag(1, 0, 1), true},
		{0, tag(1, 0, 2), false},
		{5, tag(9, 0, 2), true},
		{5, tag(9, 0, 3), false},
		{5, impl.Tag{}, true},
		{5, tag(math.MinInt, 0, 0), true},
		{5, tag(math.MaxInt, 0, 0), false},
		{1, tag(1, 0, 1), false},
		{1, impl.Tag{}, false},
		{-1, impl.Tag{}, false},
		{impl.MaxKeys, impl.Tag{}, false},
	} {
		if got := impl.MapHas(m, c.key, c.t); got != c.want {
			t.Errorf("MapHas %d %v = %v", c.key, c.t, got)
		}
	}
	if impl.MapHas(nil, 0, impl.Tag{}) || impl.MapHas(m[:1], 2, impl.Tag{}) {
		t.Error("MapHas of a write that is not there")
	}
}

// TestMapHasOfAnyList: as MapAt, of a list that is not MapOk the first with the key counts.
func TestMapHasOfAnyList(t *testing.T) {
	list := []impl.Write{put(4, tag(3, 0, 1), 1), put(2, tag(9, 0, 1), 2), put(4, tag(8, 0, 1), 3), put(99, impl.Tag{}, 4)}
	if !impl.MapHas(list, 4, tag(3, 0, 1)) || impl.MapHas(list, 4, tag(3, 0, 2)) || !impl.MapHas(list, 2, tag(9, 0, 1)) {
		t.Error("not the first write of the key counts")
	}
	if !impl.MapHas(list, 99, impl.Tag{}) || impl.MapHas(list, 99, tag(0, 0, 1)) {
		t.Error("a write with a key that is none")
	}
}

func TestWithin(t *testing.T) {
	pool := mapsOf([]int{0, 2, 5}, fewRising)
	for _, a := range pool {
		if !impl.Within(a, a) || !impl.Within(nil, a) || impl.Within(a, nil) != (len(a) == 0) {
			t.Fatalf("%v within itself, none within it, it within none", a)
		}
		for _, b := range pool {
			if got, want := impl.Within(a, b), sameList(joined(a, b), b); got != want {
				t.Fatalf("Within(%v, %v) = %v", a, b, got)
			}
		}
	}
}

// TestWithinOneKey: of each two writes of a key one is within the other, by whatever they are apart.
func TestWithinOneKey(t *testing.T) {
	list := rising(3)
	other := put(4, tag(1, 0, 1), 0)
	for i, a := range list {
		for j, b := range list {
			if got := impl.Within([]impl.Write{a}, []impl.Write{b}); got != (i <= j) {
				t.Errorf("Within(%v, %v) = %v", a, b, got)
			}
			if got := impl.Within([]impl.Write{a}, []impl.Write{b, other}); got != (i <= j) {
				t.Errorf("Within(%v, %v and one more) = %v", a, b, got)
			}
			if impl.Within([]impl.Write{a, other}, []impl.Write{b}) {
				t.Errorf("Within(%v and one more, %v) = true", a, b)
			}
		}
	}
}

func TestWithinWrong(t *testing.T) {
	good := []impl.Write{put(2, tag(3, 0, 1), 1)}
	for name, m := range badMaps() {
		for _, other := range [][]impl.Write{nil, good, m} {
			if impl.Within(m, other) || impl.Within(other, m) {
				t.Errorf("%s: Within, beside %v", name, other)
			}
		}
	}
}

func TestAlive(t *testing.T) {
	var full []impl.Write
	for k := range impl.MaxKeys {
		full = append(full, put(k, tag(impl.MaxKeys-k, 0, 1), 0))
	}
	for _, c := range []struct {
		m    []impl.Write
		want []int
	}{
		{nil, nil},
		{[]impl.Write{}, nil},
		{full, []int{0, 1, 2, 3, 4, 5}},
		{full[4:], []int{4, 5}},
		{[]impl.Write{gone(1, tag(2, 0, 1))}, nil},
		{[]impl.Write{gone(1, tag(2, 0, 1)), gone(3, tag(9, 0, 2))}, nil},
		{[]impl.Write{gone(0, tag(2, 0, 1)), put(2, tag(1, 0, 1), 0), gone(3, tag(9, 0, 2)), put(5, tag(2, 1, 1), -3)}, []int{2, 5}},
		{[]impl.Write{put(0, tag(2, 0, 1), 4), gone(2, tag(1, 0, 1)), put(4, tag(9, 0, 2), 0)}, []int{0, 4}},
	} {
		if got := impl.Alive(c.m); !slices.Equal(got, c.want) {
			t.Errorf("Alive(%v) = %v, want %v", c.m, got, c.want)
		}
	}
	for name, m := range badMaps() {
		if got := impl.Alive(m); len(got) != 0 {
			t.Errorf("%s: Alive = %v", name, got)
		}
	}
}

// roomy: the list, its Deps too, with spare room behind, in which something lies.
func roomy(list []impl.Write) []impl.Write {
	out := make([]impl.Write, 0, len(list)+2)
	for _, w := range list {
		deps := make([]impl.Dep, 0, len(w.Deps)+2)
		deps = append(append(deps, w.Deps...), dep(8, 8, 8, 8), dep(9, 9, 9, 9))
		w.Deps = deps[:len(w.Deps)]
		out = append(out, w)
	}
	return append(out, put(0, tag(1, 0, 1), 88), put(1, tag(1, 0, 1), 99))[:len(list)]
}

// wholeOf: a copy of the list and of all that lies behind it and behind its Deps.
func wholeOf(list []impl.Write) []impl.Write {
	whole := slices.Clone(list[:cap(list)])
	for i := range whole {
		whole[i].Deps = slices.Clone(whole[i].Deps[:cap(whole[i].Deps)])
	}
	return whole
}

// spoil writes over all of a list of writes, its Deps, and the room behind them.
func spoil(list []impl.Write) {
	list = list[:cap(list)]
	for i := range list {
		deps := list[i].Deps[:cap(list[i].Deps)]
		for j := range deps {
			deps[j] = dep(-7, -7, -7, -7)
		}
		list[i] = put(-7, tag(-7, -7, -7), -7)
	}
}

// TestRegistersLeaveArguments: neither arguments nor the spare room behind them are written by a call, or by what is done to its answer.
func TestRegistersLeaveArguments(t *testing.T) {
	low := []impl.Write{put(0, tag(2, 0, 1), 1, dep(1, 1, 0, 1)), put(2, tag(6, 0, 2), 2, dep(0, 2, 0, 1), dep(3, 1, 2, 1))}
	high := []impl.Write{put(0, tag(1, 1, 1), 3, dep(2, 1, 0, 1)), put(2, tag(7, 1, 2), 4, dep(0, 1, 1, 1)), gone(4, tag(8, 1, 3), dep(2, 7, 1, 2))}
	bad := []impl.Write{high[1], low[0]}
	for _, as := range [][]impl.Write{low, high, bad, nil} {
		for _, bs := range [][]impl.Write{low, high, bad} {
			a, b := roomy(as), roomy(bs)
			wholeA, wholeB := wholeOf(a), wholeOf(b)
			w := b[1]
			impl.MapOk(a)
			impl.MapHas(a, 2, w.T)
			impl.Within(a, b)
			at, _ := impl.MapAt(a, 2)
			spoil([]impl.Write{at})
			spoil(impl.MapPut(a, w))
			spoil(impl.MapJoin(a, b))
			if keys := impl.Alive(a); len(keys) > 0 {
				keys[0] = -7
			}
			if !sameList(wholeOf(a), wholeA) || !sameList(wholeOf(b), wholeB) {
				t.Fatalf("written into an argument: %v, %v", a, b)
			}
		}
	}
}

// TestRegistersReadNoRoom: what lies behind a list's length changes no answer, and is not handed out.
func TestRegistersReadNoRoom(t *testing.T) {
	m := []impl.Write{put(2, tag(6, 0, 2), 2, dep(0, 2, 0, 1))}
	r := roomy(m)
	if !impl.MapOk(r) || !impl.Within(r, m) || !impl.Within(m, r) || impl.MapHas(r, 0, impl.Tag{}) || !slices.Equal(impl.Alive(r), []int{2}) {
		t.Error("what lies behind the list is read")
	}
	if _, ok := impl.MapAt(r, 0); ok || !sameList(impl.MapJoin(r, nil), m) || !sameList(impl.MapPut(nil, r[0]), m) {
		t.Error("what lies behind the list is told")
	}
	at, _ := impl.MapAt(r, 2)
	for _, answer := range [][]impl.Write{{at}, impl.MapJoin(r, nil), impl.MapJoin(nil, r), impl.MapPut(r, r[0])} {
		for _, w := range wholeOf(answer) {
			if w.Val == 88 || w.Val == 99 || slices.Contains(w.Deps, dep(8, 8, 8, 8)) {
				t.Errorf("what lies behind the list is handed out: %v", w)
			}
		}
	}
}

// sharesNone: what is done to one list of an answer shows in no other list of it, and in no other answer.
func sharesNone(t *testing.T, name string, ask func() []impl.Write) {
	t.Helper()
	want := ask()
	if len(want) < 2 {
		t.Fatalf("%s: too few to tell: %v", name, want)
	}
	for i := range want {
		got := ask()
		kept := wholeOf(got)
		spoil(got[i : i+1 : i+1])
		for j := range got {
			if j != i && !sameWrite(got[j], want[j]) {
				t.Errorf("%s: lists %d and %d of the answer share memory", name, i, j)
			}
		}
		if !sameList(wholeOf(ask())[:len(want)], kept[:len(want)]) {
			t.Errorf("%s: two answers share memory", name)
		}
	}
}

// TestRegistersShareNoLists: where arguments share their Deps, the lists of an answer don't, nor do those of two answers.
func TestRegistersShareNoLists(t *testing.T) {
	deps := []impl.Dep{dep(0, 1, 0, 1), dep(1, 1, 0, 1)}
	m := []impl.Write{put(1, tag(2, 0, 1), 1, deps...), put(3, tag(2, 0, 2), 1, deps...)}
	w := put(5, tag(2, 0, 3), 1, deps...)
	for name, ask := range map[string]func() []impl.Write{
		"put":          func() []impl.Write { return impl.MapPut(m, w) },
		"put again":    func() []impl.Write { return impl.MapPut(m, m[1]) },
		"join":         func() []impl.Write { return impl.MapJoin(m, []impl.Write{w}) },
		"join of self": func() []impl.Write { return impl.MapJoin(m, m) },
	} {
		sharesNone(t, name, ask)
	}
}
