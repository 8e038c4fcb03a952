package tests

import (
	"math"
	"slices"
	"strings"
	"testing"

	"loop.example/g00579/impl"
)

const treeSize = 2*impl.Leaves - 1

// at1: a write of one tag, whose text differs from that of another one by key and value alone.
func at1(key int, val int) impl.Write {
	return put(key, tag(1, 0, 1), val)
}

// fullMap: a write of each key, whose values hang on add.
func fullMap(add int) []impl.Write {
	var m []impl.Write
	for k := range impl.MaxKeys {
		m = append(m, put(k, tag(k+1, 0, 1), 10*k+add))
	}
	return m
}

// sumAt: the sum at a place of the tree of m, asked from above.
func sumAt(m []impl.Write, i int) int {
	if i < impl.Leaves-1 {
		words := []string{impl.NumText(sumAt(m, 2*i+1)), impl.NumText(sumAt(m, 2*i+2))}
		return sumOf(strings.Join(words, " "))
	}
	for _, w := range m {
		if w.Key == i-(impl.Leaves-1) {
			return sumOf(impl.WriteText(w))
		}
	}
	return 0
}

// apartBelow: the leaves below the place i that are told, asked from above: below a place that is the same none is.
func apartBelow(a []int, b []int, i int) []int {
	if a[i] == b[i] {
		return nil
	}
	if i >= impl.Leaves-1 {
		return []int{i - (impl.Leaves - 1)}
	}
	return append(apartBelow(a, b, 2*i+1), apartBelow(a, b, 2*i+2)...)
}

// repairedBy: what Repair tells, of leaves and places asked from above.
func repairedBy(a []impl.Write, b []impl.Write) ([]impl.Write, int) {
	var x, y []int
	for i := range treeSize {
		x, y = append(x, sumAt(a, i)), append(y, sumAt(b, i))
	}
	keys := apartBelow(x, y, 0)
	part := slices.DeleteFunc(slices.Clone(b), func(w impl.Write) bool { return !slices.Contains(keys, w.Key) })
	return joined(a, part), len(keys)
}

// treeMaps: maps of all kinds: with no key, few, all of them.
func treeMaps() [][]impl.Write {
	all := mapsOf([]int{0, 2, 5}, fewRising)
	all = append(all, fullMap(0), fullMap(1), fullMap(0)[1:], fullMap(0)[:5])
	return append(all, causalMaps()...)
}

func TestLeafSum(t *testing.T) {
	m := []impl.Write{put(0, tag(1, 0, 1), 7), put(2, tag(5, 1, 2), -3, dep(0, 1, 0, 1)), gone(5, tag(6, 3, 1), dep(0, 1, 0, 1), dep(2, 5, 1, 2))}
	for key, want := range map[int]int{0: 6595, 1: 0, 2: 59536, 3: 0, 4: 0, 5: 16099} {
		if got := impl.LeafSum(m, key); got != want {
			t.Errorf("LeafSum of key %d = %d, want %d", key, got, want)
		}
	}
	for _, key := range []int{-1, -2, impl.MaxKeys, impl.MaxKeys + 1, impl.Leaves, math.MaxInt, math.MinInt} {
		for _, list := range [][]impl.Write{m, nil, {}, fullMap(0)} {
			if got := impl.LeafSum(list, key); got != 0 {
				t.Errorf("LeafSum(%v, %d) = %d", list, key, got)
			}
		}
	}
	for key := range impl.MaxKeys {
		if impl.LeafSum(nil, key) != 0 || impl.LeafSum([]impl.Write{}, key) != 0 {
			t.Errorf("LeafSum of key %d of none is not 0", key)
		}
	}
}

func TestLeafSumOfEachWrite(t *testing.T) {
	for _, w := range slices.Concat(someWrites(), rising(3), causal()) {
		if got, want := impl.LeafSum([]impl.Write{w}, w.Key), sumOf(impl.WriteText(w)); got != want {
			t.Errorf("LeafSum of %v = %d, want %d", w, got, want)
		}
	}
}

// TestLeafSumOfAnyList: LeafSum asks for no MapOk map: of each key the first counts, as MapAt tells it; one that is not WriteOk has the sum of the empty text.
func TestLeafSumOfAnyList(t *testing.T) {
	list := []impl.Write{
		put(4, tag(1, 0, 1), 1), put(2, tag(9, 0, 1), 2), put(4, tag(8, 0, 1), 3), put(2, tag(1, 0, 1), 4),
		put(impl.MaxKeys, tag(1, 0, 1), 5), put(-1, tag(1, 0, 1), 6), put(0, impl.Tag{}, 7), put(0, tag(1, 0, 1), 7),
	}
	for key, want := range map[int]int{4: sumOf(impl.WriteText(list[0])), 2: sumOf(impl.WriteText(list[1])), impl.MaxKeys: 5381, -1: 5381, 0: 5381, 1: 0, 3: 0, 5: 0} {
		if got := impl.LeafSum(list, key); got != want {
			t.Errorf("LeafSum of key %d = %d, want %d", key, got, want)
		}
	}
	for name, w := range badWrites() {
		good := at1(w.Key, 1)
		if impl.LeafSum([]impl.Write{w}, w.Key) != 5381 || impl.LeafSum([]impl.Write{w, good}, w.Key) != 5381 || impl.LeafSum([]impl.Write{w}, w.Key+1) != 0 {
			t.Errorf("%s: LeafSum = %d", name, impl.LeafSum([]impl.Write{w}, w.Key))
		}
	}
}

func TestTreeOf(t *testing.T) {
	some := []impl.Write{put(0, tag(1, 0, 1), 7), put(2, tag(5, 1, 2), -3, dep(0, 1, 0, 1)), gone(5, tag(6, 3, 1), dep(0, 1, 0, 1), dep(2, 5, 1, 2))}
	none := []int{60637, 61534, 61534, 12381, 12381, 12381, 12381, 0, 0, 0, 0, 0, 0, 0, 0}
	for name, c := range map[string]struct {
		m    []impl.Write
		want []int
	}{
		"none":     {nil, none},
		"empty":    {[]impl.Write{}, none},
		"some":     {some, []int{46934, 35653, 8338, 28990, 58694, 60648, 12381, 6595, 0, 59536, 0, 0, 16099, 0, 0}},
		"all keys": {fullMap(0), []int{57604, 49403, 22239, 35416, 9418, 23839, 12381, 26315, 51299, 15168, 44558, 8427, 37817, 0, 0}},
	} {
		if got := impl.TreeOf(c.m); !slices.Equal(got, c.want) {
			t.Errorf("%s: TreeOf = %v, want %v", name, got, c.want)
		}
	}
}

func TestTreeOfOfMany(t *testing.T) {
	d := dice(23)
	maps := treeMaps()
	for range 500 {
		maps = append(maps, joined(thrown(&d, d.below(12))))
	}
	for _, m := range maps {
		got := impl.TreeOf(m)
		if len(got) != treeSize {
			t.Fatalf("TreeOf(%v) has %d numbers", m, len(got))
		}
		for i, sum := range got {
			if sum != sumAt(m, i) {
				t.Fatalf("TreeOf(%v) at %d = %d, want %d", m, i, sum, sumAt(m, i))
			}
		}
		for k := range impl.Leaves {
			if got[impl.Leaves-1+k] != impl.LeafSum(m, k) {
				t.Fatalf("TreeOf(%v): the leaf of %d is not its LeafSum", m, k)
			}
		}
	}
}

func TestTreeOfWrong(t *testing.T) {
	for name, m := range badMaps() {
		if got := impl.TreeOf(m); len(got) != 0 {
			t.Errorf("%s: TreeOf = %v", name, got)
		}
	}
	if got := impl.TreeOf(append(fullMap(0), at1(impl.MaxKeys, 1))); len(got) != 0 {
		t.Errorf("one key too many: TreeOf = %v", got)
	}
}

// apartAt: a list like that of the noughts but at these places.
func apartAt(places ...int) []int {
	list := make([]int, treeSize)
	for _, i := range places {
		list[i] = 1
	}
	return list
}

func allPlaces() []int {
	var places []int
	for i := range treeSize {
		places = append(places, i)
	}
	return places
}

// TestDifferPlaces: lists that are no trees: a leaf is told where it and all above it differ, and only there.
func TestDifferPlaces(t *testing.T) {
	for name, c := range map[string]struct {
		at   []int
		want []int
	}{
		"none":                         {nil, nil},
		"all":                          {allPlaces(), []int{0, 1, 2, 3, 4, 5, 6, 7}},
		"the first leaf":               {[]int{0, 1, 3, 7}, []int{0}},
		"the second leaf":              {[]int{0, 1, 3, 8}, []int{1}},
		"the third leaf":               {[]int{0, 1, 4, 9}, []int{2}},
		"the fourth leaf":              {[]int{0, 1, 4, 10}, []int{3}},
		"the fifth leaf":               {[]int{0, 2, 5, 11}, []int{4}},
		"the sixth leaf":               {[]int{0, 2, 5, 12}, []int{5}},
		"the seventh leaf, of no key":  {[]int{0, 2, 6, 13}, []int{6}},
		"the last leaf, of no key":     {[]int{0, 2, 6, 14}, []int{7}},
		"two of one place":             {[]int{0, 1, 4, 9, 10}, []int{2, 3}},
		"the first and the last":       {[]int{0, 1, 2, 3, 6, 7, 14}, []int{0, 7}},
		"a leaf alone":                 {[]int{7}, nil},
		"the last leaf alone":          {[]int{14}, nil},
		"all leaves alone":             {[]int{7, 8, 9, 10, 11, 12, 13, 14}, nil},
		"no leaf":                      {[]int{0, 1, 2, 3, 4, 5, 6}, nil},
		"the root alone":               {[]int{0}, nil},
		"all but the root":             {allPlaces()[1:], nil},
		"not at 1":                     {[]int{0, 2, 3, 4, 5, 6, 7, 8, 9, 10, 11, 12, 13, 14}, []int{4, 5, 6, 7}},
		"not at 2":                     {[]int{0, 1, 3, 4, 5, 6, 7, 8, 9, 10, 11, 12, 13, 14}, []int{0, 1, 2, 3}},
		"not at 3":                     {[]int{0, 1, 2, 4, 5, 6, 7, 8, 9, 10, 11, 12, 13, 14}, []int{2, 3, 4, 5, 6, 7}},
		"not at 5":                     {[]int{0, 1, 2, 3, 4, 6, 7, 8, 9, 10, 11, 12, 13, 14}, []int{0, 1, 2, 3, 6, 7}},
		"not at 6":                     {[]int{0, 1, 2, 3, 4, 5, 7, 8, 9, 10, 11, 12, 13, 14}, []int{0, 1, 2, 3, 4, 5}},
		"not at 7":                     {[]int{0, 1, 2, 3, 4, 5, 6, 8, 9, 10, 11, 12, 13, 14}, []int{1, 2, 3, 4, 5, 6, 7}},
		"not at 14":                    {allPlaces()[:14], []int{0, 1, 2, 3, 4, 5, 6}},
		"a place that differs and not": {[]int{0, 1, 2, 3, 5, 7, 9, 11, 13}, []int{0, 4}},
	} {
		same, apart := apartAt(), apartAt(c.at...)
		if got := impl.Differ(same, apart); !slices.Equal(got, c.want) {
			t.Errorf("%s: Differ = %v, want %v", name, got, c.want)
		}
		if got := impl.Differ(apart, same); !slices.Equal(got, c.want) {
			t.Errorf("%s: Differ the other way = %v, want %v", name, got, c.want)
		}
	}
}

// TestDifferEachPart: at which places soever two lists differ.
func TestDifferEachPart(t *testing.T) {
	same := apartAt()
	for set := range 1 << treeSize {
		apart := apartAt()
		for i := range apart {
			apart[i] = set >> i & 1
		}
		if got, want := impl.Differ(same, apart), apartBelow(same, apart, 0); !slices.Equal(got, want) {
			t.Fatalf("Differ of %v = %v, want %v", apart, got, want)
		}
	}
}

func TestDifferAnyNumbers(t *testing.T) {
	nums := []int{0, -1, 1, math.MaxInt, math.MinInt, ringSize, 1 << 32}
	d := dice(29)
	for range 5000 {
		var a, b []int
		for range treeSize {
			x := nums[d.below(len(nums))]
			a, b = append(a, x), append(b, x)
			if d.below(4) > 0 {
				b[len(b)-1] = nums[d.below(len(nums))]
			}
		}
		if got, want := impl.Differ(a, b), apartBelow(a, b, 0); !slices.Equal(got, want) {
			t.Fatalf("Differ(%v, %v) = %v, want %v", a, b, got, want)
		}
		if got := impl.Differ(a, slices.Clone(a)); len(got) != 0 {
			t.Fatalf("Differ of %v and itself = %v", a, got)
		}
	}
}

func TestDifferWrong(t *testing.T) {
	tree, other := impl.TreeOf(nil), impl.TreeOf(fullMap(0))
	for name, list := range map[string][]int{
		"nil":      nil,
		"empty":    {},
		"one":      {1},
		"one less": other[:treeSize-1],
		"one more": append(slices.Clone(other), 1),
		"leaves":   other[impl.Leaves-1:],
		"twice":    append(slices.Clone(other), other...),
		"very far": make([]int, 100000),
	} {
		for _, beside := range [][]int{tree, other, list, nil, append(slices.Clone(tree), 2), tree[1:]} {
			if got := impl.Differ(list, beside); len(got) != 0 {
				t.Errorf("%s: Differ beside %v = %v", name, beside, got)
			}
			if got := impl.Differ(beside, list); len(got) != 0 {
				t.Errorf("%s: Differ behind %v = %v", name, beside, got)
			}
		}
	}
}

// checkMaps: all that the chapter says of two maps.
func checkMaps(t *testing.T, a []impl.Write, b []impl.Write) {
	t.Helper()
	told := impl.Differ(impl.TreeOf(a), impl.TreeOf(b))
	for i, k := range told {
		if impl.LeafSum(a, k) == impl.LeafSum(b, k) || i > 0 && told[i-1] >= k {
			t.Fatalf("%v and %v: told to differ: %v", a, b, told)
		}
	}
	want, n := repairedBy(a, b)
	got, count := impl.Repair(a, b)
	if !sameList(got, want) || count != n || count != len(told) {
		t.Fatalf("Repair(%v, %v) = %v, %d, want %v, %d", a, b, got, count, want, n)
	}
	if !impl.MapOk(got) || !impl.Within(a, got) || !impl.Within(got, impl.MapJoin(a, b)) {
		t.Fatalf("Repair(%v, %v) = %v: less than it was, or more than both", a, b, got)
	}
	for _, w := range got {
		if !slices.ContainsFunc(slices.Concat(a, b), func(x impl.Write) bool { return sameWrite(x, w) }) {
			t.Fatalf("Repair(%v, %v) = %v: neither had %v", a, b, got, w)
		}
	}
	for _, w := range a {
		if !slices.ContainsFunc(got, func(x impl.Write) bool { return x.Key == w.Key && impl.WriteCmp(x, w) >= 0 }) {
			t.Fatalf("Repair(%v, %v) = %v: nothing as late as %v", a, b, got, w)
		}
	}
}

func TestTreesOfEachTwo(t *testing.T) {
	maps := treeMaps()
	for _, a := range maps {
		for _, b := range maps {
			checkMaps(t, a, b)
		}
	}
}

func TestTreesOfMany(t *testing.T) {
	d := dice(31)
	for range 3000 {
		a, b := joined(thrown(&d, d.below(9))), joined(thrown(&d, d.below(9)))
		checkMaps(t, a, b)
		checkMaps(t, a, joined(a, thrown(&d, 1)))
		checkMaps(t, joined(a, b), b)
	}
}

// TestTreesOfOneMap: a map held against itself, and against one with the same writes elsewhere, does not differ.
func TestTreesOfOneMap(t *testing.T) {
	for _, m := range append(treeMaps(), nil, []impl.Write{}) {
		if got := impl.Differ(impl.TreeOf(m), impl.TreeOf(roomy(m))); len(got) != 0 {
			t.Fatalf("%v differs from itself: %v", m, got)
		}
		if got, n := impl.Repair(m, roomy(m)); n != 0 || !sameList(got, m) {
			t.Fatalf("Repair(%v) with itself = %v, %d", m, got, n)
		}
	}
}

// TestTreesOfSomeKeys: at which keys soever two full maps differ, these are told, and repaired where the other one's come last.
func TestTreesOfSomeKeys(t *testing.T) {
	for set := range 1 << impl.MaxKeys {
		a, b, want := fullMap(0), fullMap(0), fullMap(0)
		var keys []int
		for k := range impl.MaxKeys {
			if set>>k&1 == 0 {
				continue
			}
			keys = append(keys, k)
			if k%2 == 0 {
				b[k] = gone(k, tag(50, 1, 1), dep(k, 1, 0, 1))
				want[k] = b[k]
			} else {
				b[k].Val--
			}
		}
		if got := impl.Differ(impl.TreeOf(a), impl.TreeOf(b)); !slices.Equal(got, keys) {
			t.Errorf("Differ = %v, want %v", got, keys)
		}
		if got, n := impl.Repair(a, b); n != len(keys) || !sameList(got, want) {
			t.Errorf("keys %v: Repair = %v, %d, want %v", keys, got, n, want)
		}
		checkMaps(t, b, a)
	}
}

// TestTreesByWhatIsApart: two writes of a key are told apart by whatever they are apart, and the one that comes last is there.
func TestTreesByWhatIsApart(t *testing.T) {
	list := rising(4)
	for i, a := range list {
		for j, b := range list {
			want := 1
			if i == j {
				want = 0
			}
			got, n := impl.Repair([]impl.Write{a}, []impl.Write{b})
			if n != want || !sameList(got, []impl.Write{list[max(i, j)]}) {
				t.Errorf("Repair(%v, %v) = %v, %d", a, b, got, n)
			}
		}
	}
}

// TestRepairOfKeysNotThere: a key that but one of both has is told; of one that b has not nothing is put, but it is counted.
func TestRepairOfKeysNotThere(t *testing.T) {
	full := fullMap(0)
	for set := range 1 << impl.MaxKeys {
		var part, rest []impl.Write
		for k, w := range full {
			if set>>k&1 == 1 {
				part = append(part, w)
			} else {
				rest = append(rest, w)
			}
		}
		for name, c := range map[string]struct {
			a, b, want []impl.Write
			n          int
		}{
			"a has more":   {full, part, full, len(rest)},
			"b has more":   {part, full, full, len(rest)},
			"no key alike": {part, rest, full, len(full)},
			"b has none":   {part, nil, part, len(part)},
			"a has none":   {nil, part, part, len(part)},
		} {
			if got, n := impl.Repair(c.a, c.b); n != c.n || !sameList(got, c.want) {
				t.Errorf("%s: Repair(%v, %v) = %v, %d, want %v, %d", name, c.a, c.b, got, n, c.want, c.n)
			}
		}
	}
	if got, n := impl.Repair(nil, []impl.Write{}); len(got) != 0 || n != 0 {
		t.Errorf("Repair of none = %v, %d", got, n)
	}
}

// TestSumsAlike: unlike writes may have one sum, or unlike sums one above them: such ones are not told, and not repaired.
func TestSumsAlike(t *testing.T) {
	later := put(4, tag(9, 0, 1), 1)
	for name, c := range map[string]struct {
		a, b []impl.Write
		at   int
	}{
		"a sum of 0, as of none":  {nil, []impl.Write{at1(3, -920646)}, 10},
		"one sum of two writes":   {[]impl.Write{at1(3, 0)}, []impl.Write{at1(3, 5226)}, 10},
		"one sum above two":       {[]impl.Write{at1(0, 15), at1(1, 4)}, []impl.Write{at1(0, 39), at1(1, 8)}, 3},
		"one sum above four":      {[]impl.Write{at1(0, 7), at1(2, 4)}, []impl.Write{at1(0, 11), at1(2, 18)}, 1},
		"one sum above all of it": {[]impl.Write{at1(1, 12), at1(5, 7)}, []impl.Write{at1(1, 33), at1(5, 8)}, 0},
	} {
		if impl.TreeOf(c.a)[c.at] != impl.TreeOf(c.b)[c.at] || sameList(c.a, c.b) {
			t.Fatalf("%s: the sums are not alike", name)
		}
		for _, way := range [][2][]impl.Write{{c.a, c.b}, {c.b, c.a}} {
			if got, n := impl.Repair(way[0], way[1]); n != 0 || !sameList(got, way[0]) {
				t.Errorf("%s: Repair = %v, %d", name, got, n)
			}
			if got := impl.Differ(impl.TreeOf(way[0]), impl.TreeOf(way[1])); len(got) != 0 {
				t.Errorf("%s: Differ = %v", name, got)
			}
			checkMaps(t, way[0], way[1])
			checkMaps(t, way[0], joined(way[1], []impl.Write{later}))
		}
	}
	a, b := []impl.Write{at1(3, 0)}, []impl.Write{at1(3, 5226), later}
	if got, n := impl.Repair(a, b); n != 1 || !sameList(got, []impl.Write{a[0], later}) {
		t.Errorf("Repair(%v, %v) = %v, %d", a, b, got, n)
	}
}

func TestRepairWrong(t *testing.T) {
	for name, m := range badMaps() {
		for _, other := range [][]impl.Write{nil, fullMap(0), m} {
			if got, n := impl.Repair(m, other); len(got) != 0 || n != 0 {
				t.Errorf("%s: Repair with %v = %v, %d", name, other, got, n)
			}
			if got, n := impl.Repair(other, m); len(got) != 0 || n != 0 {
				t.Errorf("%s: Repair of %v = %v, %d", name, other, got, n)
			}
		}
	}
}

// TestTreesLeaveArguments: neither arguments nor the spare room behind them are written by a call, or by what is done to its answer.
func TestTreesLeaveArguments(t *testing.T) {
	low := []impl.Write{put(0, tag(2, 0, 1), 1, dep(1, 1, 0, 1)), put(2, tag(6, 0, 2), 2, dep(0, 2, 0, 1), dep(3, 1, 2, 1))}
	high := []impl.Write{put(0, tag(1, 1, 1), 3, dep(2, 1, 0, 1)), put(2, tag(7, 1, 2), 4, dep(0, 1, 1, 1)), gone(4, tag(8, 1, 3), dep(2, 7, 1, 2))}
	bad := []impl.Write{high[1], low[0]}
	for _, as := range [][]impl.Write{low, high, bad, nil} {
		for _, bs := range [][]impl.Write{low, high, bad, nil} {
			a, b := roomy(as), roomy(bs)
			wholeA, wholeB := wholeOf(a), wholeOf(b)
			impl.LeafSum(a, 2)
			tree := impl.TreeOf(a)
			clear(tree[:cap(tree)])
			repaired, _ := impl.Repair(a, b)
			spoil(repaired)
			if !sameList(wholeOf(a), wholeA) || !sameList(wholeOf(b), wholeB) {
				t.Fatalf("written into an argument: %v, %v", a, b)
			}
		}
	}
	for _, places := range [][]int{nil, {0, 1, 3, 7}, allPlaces()} {
		a, b := append(apartAt(), 66, 67), append(apartAt(places...), 68, 69)
		wholeA, wholeB := slices.Clone(a), slices.Clone(b)
		told := impl.Differ(a[:treeSize], b[:treeSize])
		clear(told[:cap(told)])
		impl.Differ(a[:treeSize-1], b)
		if !slices.Equal(a, wholeA) || !slices.Equal(b, wholeB) {
			t.Fatalf("written into an argument: %v, %v", a, b)
		}
	}
}

// TestTreesReadNoRoom: what lies behind a list's length changes no answer, and is not handed out.
func TestTreesReadNoRoom(t *testing.T) {
	m := []impl.Write{put(2, tag(6, 0, 2), 2, dep(0, 2, 0, 1))}
	r := roomy(m)
	if !slices.Equal(impl.TreeOf(r), impl.TreeOf(m)) || impl.LeafSum(r, 0) != 0 || impl.LeafSum(r, 2) != impl.LeafSum(m, 2) {
		t.Error("what lies behind the map is read")
	}
	for _, way := range [][2][]impl.Write{{r, m}, {m, r}, {r, nil}, {nil, r}} {
		got, n := impl.Repair(way[0], way[1])
		if want := max(len(way[0]), len(way[1])) - min(len(way[0]), len(way[1])); n != want || !sameList(got, m) {
			t.Errorf("Repair = %v, %d, want %v, %d", got, n, m, want)
		}
		for _, w := range wholeOf(got) {
			if w.Val == 88 || w.Val == 99 || slices.Contains(w.Deps, dep(8, 8, 8, 8)) {
				t.Errorf("what lies behind the list is handed out: %v", w)
			}
		}
	}
	a, b := append(apartAt(), 1, 2), append(apartAt(0, 1, 3, 8), 3, 4)
	if got := impl.Differ(a[:treeSize], b[:treeSize]); !slices.Equal(got, []int{1}) {
		t.Errorf("Differ = %v", got)
	}
	if got := impl.Differ(a[:treeSize-1], b[:treeSize-1]); len(got) != 0 {
		t.Errorf("Differ of lists that are one too short = %v", got)
	}
}

// TestTreesNewMemory: what is done to one answer shows in no other one.
func TestTreesNewMemory(t *testing.T) {
	deps := []impl.Dep{dep(0, 1, 0, 1), dep(1, 1, 0, 1)}
	a := []impl.Write{put(1, tag(2, 0, 1), 1, deps...), put(3, tag(2, 0, 2), 1, deps...)}
	b := []impl.Write{put(3, tag(2, 0, 2), 1, deps...), put(5, tag(2, 0, 3), 1, deps...)}
	for name, way := range map[string][2][]impl.Write{"some of both": {a, b}, "a alone": {a, nil}, "b alone": {nil, b}, "with itself": {a, a}} {
		sharesNone(t, name, func() []impl.Write {
			got, _ := impl.Repair(way[0], way[1])
			return got
		})
	}
	x, y := impl.TreeOf(a), impl.TreeOf(b)
	wantX, told := slices.Clone(x), impl.Differ(x, y)
	wantTold := slices.Clone(told)
	clear(told)
	if !slices.Equal(impl.Differ(x, y), wantTold) || len(wantTold) == 0 {
		t.Error("two answers of Differ share memory")
	}
	clear(x)
	if !slices.Equal(impl.TreeOf(a), wantX) {
		t.Error("two answers of TreeOf share memory")
	}
}
