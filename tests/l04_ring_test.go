package tests

import (
	"cmp"
	"math"
	"slices"
	"strings"
	"testing"

	"loop.example/g00579/impl"
)

const ringSize = 65521

func pt(at int, node int) impl.Point {
	return impl.Point{At: at, Node: node}
}

// sumOf: what HashOf tells, worked out from the last byte to the first.
func sumOf(s string) int {
	sum, power := 0, 1
	for i := len(s) - 1; i >= 0; i-- {
		sum = (sum + power*int(s[i])) % ringSize
		power = power * 33 % ringSize
	}
	return (sum + power*5381) % ringSize
}

// keyAt: a text of three bytes whose HashOf is at, in 0 .. ringSize - 1.
func keyAt(at int) string {
	rest := (at - sumOf("\x00\x00\x00") + ringSize) % ringSize
	return string([]byte{byte(rest / 1089), byte(rest % 1089 / 33), byte(rest % 33)})
}

// without: the nodes but the one at the place i.
func without(nodes []int, i int) []int {
	return slices.Delete(slices.Clone(nodes), i, i+1)
}

// ringBySums: the ring by the words of the chapter, the least point that is left taken again and again.
func ringBySums(nodes []int, virt int) []impl.Point {
	var left, ring []impl.Point
	for i := range virt {
		for _, node := range nodes {
			left = append(left, pt(sumOf(impl.NumText(node)+"."+impl.NumText(i)), node))
		}
	}
	for len(left) > 0 {
		least := slices.MinFunc(left, func(a impl.Point, b impl.Point) int {
			return cmp.Or(a.At-b.At, a.Node-b.Node)
		})
		ring = append(ring, least)
		i := slices.Index(left, least)
		left = slices.Delete(left, i, i+1)
	}
	return ring
}

// preferred: what Prefer tells, of the points laid out in two parts.
func preferred(ring []impl.Point, key string, n int) []int {
	i := slices.IndexFunc(ring, func(p impl.Point) bool { return p.At >= sumOf(key) })
	i = max(i, 0)
	var nodes []int
	for _, p := range slices.Concat(ring[i:], ring[:i]) {
		if len(nodes) < n && !slices.Contains(nodes, p.Node) {
			nodes = append(nodes, p.Node)
		}
	}
	return nodes
}

// someNodes: lists that are NodesOk.
func someNodes() [][]int {
	list := [][]int{
		nil, {}, {0}, {99}, {50}, {0, 99}, {0, 1}, {98, 99}, {9, 10}, {3, 20, 41, 99},
		{0, 1, 2, 3, 4, 5, 6, 7}, {92, 93, 94, 95, 96, 97, 98, 99}, {0, 12, 25, 37, 50, 62, 75, 99}, {1, 2, 10, 11, 12, 20, 21, 22},
	}
	d := dice(11)
	for range 40 {
		var nodes []int
		for node := d.below(30); node < 100 && len(nodes) < impl.MaxNodes; node += 1 + d.below(25) {
			nodes = append(nodes, node)
		}
		list = append(list, nodes)
	}
	return list
}

// badNodes: lists that are not NodesOk.
func badNodes() map[string][]int {
	return map[string][]int{
		"one more than MaxNodes":   {0, 1, 2, 3, 4, 5, 6, 7, 8},
		"many more":                slices.Repeat([]int{1, 2, 3}, 50),
		"-1":                       {-1},
		"100":                      {100},
		"-1 first":                 {-1, 0, 1},
		"100 last":                 {0, 99, 100},
		"the least int":            {math.MinInt, 3},
		"the greatest int":         {3, math.MaxInt},
		"two that fall":            {2, 1},
		"the last falls":           {1, 5, 4},
		"the first falls":          {5, 1, 7},
		"two alike":                {4, 4},
		"two noughts":              {0, 0},
		"two alike at last":        {1, 98, 98},
		"two alike, not neighbors": {1, 2, 1},
		"MaxNodes, the last falls": {0, 1, 2, 3, 4, 5, 7, 6},
	}
}

// edgeKeys: keys at, one ahead of and one behind each point, and at both ends.
func edgeKeys(ring []impl.Point) []string {
	ats := []int{0, 1, ringSize - 2, ringSize - 1, 5381}
	for _, p := range ring {
		ats = append(ats, p.At-1, p.At, p.At+1)
	}
	slices.Sort(ats)
	var keys []string
	for _, at := range slices.Compact(ats) {
		if at >= 0 && at < ringSize {
			keys = append(keys, keyAt(at))
		}
	}
	return keys
}

func TestHashOf(t *testing.T) {
	every := make([]byte, 256)
	for i := range every {
		every[i] = byte(i)
	}
	for s, want := range map[string]int{
		"": 5381, "a": 46628, "b": 46629, "ab": 31839, "ba": 31871,
		"0.0": 12843, "1.0": 13932, "99.5": 38487, "a b\n": 8953, "w 2 5 1 2 -3 0 0": 24498,
		"\x00": 46531, "\x00\x00": 28540, "\x7f": 46658, "\x80": 46659, "\xff": 46786, "\xff\xff\xff": 48807,
		"\xc3\xa9": 35144, "\xe6\x97\xa5\xe6\x9c\xac": 30421,
		string(every): 24463, strings.Repeat("\xff", 1000): 21434, strings.Repeat("a", 100000): 11104,
	} {
		if got := impl.HashOf(s); got != want || sumOf(s) != want {
			t.Errorf("HashOf of %d bytes (%.20q) = %d, want %d", len(s), s, got, want)
		}
	}
}

func TestHashOfOfMany(t *testing.T) {
	d := dice(13)
	for range 3000 {
		s := make([]byte, d.below(40))
		for i := range s {
			s[i] = byte(d.below(256))
		}
		if got := impl.HashOf(string(s)); got != sumOf(string(s)) {
			t.Fatalf("HashOf(%q) = %d, want %d", s, got, sumOf(string(s)))
		}
	}
	for at := range ringSize {
		if got := impl.HashOf(keyAt(at)); got != at {
			t.Fatalf("HashOf(%q) = %d, want %d", keyAt(at), got, at)
		}
	}
}

func TestNodesOk(t *testing.T) {
	for _, nodes := range someNodes() {
		if !impl.NodesOk(nodes) {
			t.Errorf("NodesOk(%v) = false", nodes)
		}
	}
	for name, nodes := range badNodes() {
		if impl.NodesOk(nodes) {
			t.Errorf("%s: NodesOk = true", name)
		}
	}
	for node := -300; node <= 300; node++ {
		if got := impl.NodesOk([]int{node}); got != (node >= 0 && node <= 99) {
			t.Errorf("NodesOk of %d = %v", node, got)
		}
	}
}

func TestRingOf(t *testing.T) {
	for name, c := range map[string]struct {
		nodes []int
		virt  int
		want  []impl.Point
	}{
		"none":       {nil, 1, nil},
		"none of 6":  {[]int{}, impl.MaxVirt, nil},
		"node 0":     {[]int{0}, 1, []impl.Point{pt(12843, 0)}},
		"node 99":    {[]int{99}, 1, []impl.Point{pt(38482, 99)}},
		"three of 5": {[]int{5}, 3, []impl.Point{pt(18288, 5), pt(18289, 5), pt(18290, 5)}},
		"four, turned by their sums": {[]int{3, 20, 41, 99}, 2, []impl.Point{
			pt(16110, 3), pt(16111, 3), pt(38482, 99), pt(38483, 99), pt(39206, 20), pt(39207, 20), pt(46648, 41), pt(46649, 41),
		}},
		"MaxVirt": {[]int{0, 99}, impl.MaxVirt, []impl.Point{
			pt(12843, 0), pt(12844, 0), pt(12845, 0), pt(12846, 0), pt(12847, 0), pt(12848, 0),
			pt(38482, 99), pt(38483, 99), pt(38484, 99), pt(38485, 99), pt(38486, 99), pt(38487, 99),
		}},
		"MaxNodes": {[]int{0, 1, 2, 3, 4, 5, 6, 7}, 1, []impl.Point{
			pt(12843, 0), pt(13932, 1), pt(15021, 2), pt(16110, 3), pt(17199, 4), pt(18288, 5), pt(19377, 6), pt(20466, 7),
		}},
	} {
		if got := impl.RingOf(c.nodes, c.virt); !slices.Equal(got, c.want) {
			t.Errorf("%s: RingOf = %v, want %v", name, got, c.want)
		}
	}
}

func TestRingOfOfMany(t *testing.T) {
	for _, nodes := range someNodes() {
		for virt := 1; virt <= impl.MaxVirt; virt++ {
			if got, want := impl.RingOf(nodes, virt), ringBySums(nodes, virt); !slices.Equal(got, want) {
				t.Fatalf("RingOf(%v, %d) = %v, want %v", nodes, virt, got, want)
			}
		}
	}
}

// TestRingOfRises: every two nodes of all together, each with all its points, by At, then by Node.
func TestRingOfRises(t *testing.T) {
	for a := range 100 {
		for b := a + 1; b < 100; b++ {
			ring := impl.RingOf([]int{a, b}, impl.MaxVirt)
			if len(ring) != 2*impl.MaxVirt {
				t.Fatalf("RingOf %d and %d has %d points", a, b, len(ring))
			}
			for i := 1; i < len(ring); i++ {
				p, q := ring[i-1], ring[i]
				if p.At > q.At || p.At == q.At && p.Node >= q.Node {
					t.Fatalf("RingOf %d and %d: %v comes ahead of %v", a, b, p, q)
				}
			}
		}
	}
}

func TestRingOfWrong(t *testing.T) {
	for name, nodes := range badNodes() {
		for _, virt := range []int{0, 1, impl.MaxVirt, impl.MaxVirt + 1} {
			if got := impl.RingOf(nodes, virt); len(got) != 0 {
				t.Errorf("%s, %d: RingOf = %v", name, virt, got)
			}
		}
	}
	for _, virt := range []int{math.MinInt, -1, 0, impl.MaxVirt + 1, 100, math.MaxInt} {
		for _, nodes := range someNodes() {
			if got := impl.RingOf(nodes, virt); len(got) != 0 {
				t.Errorf("RingOf(%v, %d) = %v", nodes, virt, got)
			}
		}
	}
}

func TestPreferPlaces(t *testing.T) {
	ring := []impl.Point{pt(100, 7), pt(200, 3), pt(300, 7), pt(400, 9)}
	for at, want := range map[int][]int{
		0: {7, 3, 9}, 99: {7, 3, 9}, 100: {7, 3, 9},
		101: {3, 7, 9}, 199: {3, 7, 9}, 200: {3, 7, 9},
		201: {7, 9, 3}, 300: {7, 9, 3},
		301: {9, 7, 3}, 399: {9, 7, 3}, 400: {9, 7, 3},
		401: {7, 3, 9}, 5381: {7, 3, 9}, ringSize - 1: {7, 3, 9},
	} {
		for _, n := range []int{math.MinInt, -1, 0, 1, 2, 3, 4, 5, 1000, math.MaxInt} {
			if got := impl.Prefer(ring, keyAt(at), n); !slices.Equal(got, want[:min(max(n, 0), 3)]) {
				t.Errorf("Prefer of a key at %d, %d = %v, of %v", at, n, got, want)
			}
		}
	}
}

func TestPreferEdges(t *testing.T) {
	all := math.MaxInt
	for name, c := range map[string]struct {
		ring []impl.Point
		at   int
		n    int
		want []int
	}{
		"no ring":                      {nil, 5, all, nil},
		"an empty one":                 {[]impl.Point{}, 5, 1, nil},
		"no ring, none":                {nil, 5, 0, nil},
		"one point, ahead":             {[]impl.Point{pt(10, 4)}, 9, all, []int{4}},
		"one point, at":                {[]impl.Point{pt(10, 4)}, 10, all, []int{4}},
		"one point, behind":            {[]impl.Point{pt(10, 4)}, 11, all, []int{4}},
		"one point, none":              {[]impl.Point{pt(10, 4)}, 11, 0, nil},
		"one node":                     {[]impl.Point{pt(10, 4), pt(20, 4), pt(30, 4)}, 15, 2, []int{4}},
		"points of one At, at":         {[]impl.Point{pt(10, 1), pt(20, 2), pt(20, 5), pt(20, 8), pt(30, 3)}, 20, all, []int{2, 5, 8, 3, 1}},
		"points of one At, ahead":      {[]impl.Point{pt(10, 1), pt(20, 2), pt(20, 5), pt(20, 8), pt(30, 3)}, 11, 2, []int{2, 5}},
		"points of one At, behind":     {[]impl.Point{pt(10, 1), pt(20, 2), pt(20, 5), pt(20, 8), pt(30, 3)}, 21, all, []int{3, 1, 2, 5, 8}},
		"one At for all, at":           {[]impl.Point{pt(20, 9), pt(20, 2), pt(20, 5)}, 20, all, []int{9, 2, 5}},
		"one At for all, behind":       {[]impl.Point{pt(20, 9), pt(20, 2), pt(20, 5)}, 21, all, []int{9, 2, 5}},
		"one point twice":              {[]impl.Point{pt(20, 9), pt(20, 9), pt(30, 2)}, 20, 2, []int{9, 2}},
		"the greatest key":             {[]impl.Point{pt(10, 4), pt(ringSize-1, 6)}, ringSize - 1, all, []int{6, 4}},
		"the least key":                {[]impl.Point{pt(0, 4), pt(5, 6)}, 0, all, []int{4, 6}},
		"not in order":                 {[]impl.Point{pt(50, 1), pt(10, 2), pt(40, 3), pt(20, 4)}, 30, all, []int{1, 2, 3, 4}},
		"not in order, one far":        {[]impl.Point{pt(10, 2), pt(40, 3), pt(20, 4), pt(30, 5), pt(90, 1)}, 41, all, []int{1, 2, 3, 4, 5}},
		"not in order, the first fits": {[]impl.Point{pt(10, 2), pt(45, 3), pt(20, 4), pt(30, 5), pt(60, 1)}, 29, all, []int{3, 4, 5, 1, 2}},
		"falls, behind all":            {[]impl.Point{pt(30, 1), pt(20, 2), pt(10, 3)}, 31, all, []int{1, 2, 3}},
		"numbers of any kind":          {[]impl.Point{pt(math.MinInt, 100), pt(-1, -5), pt(math.MaxInt, math.MaxInt), pt(ringSize, math.MinInt)}, 0, all, []int{math.MaxInt, math.MinInt, 100, -5}},
		"all below any key":            {[]impl.Point{pt(-9, -1), pt(-8, -2), pt(-7, -1)}, 0, all, []int{-1, -2}},
		"all above any key":            {[]impl.Point{pt(ringSize, 3), pt(math.MaxInt, 2)}, ringSize - 1, all, []int{3, 2}},
	} {
		if got := impl.Prefer(c.ring, keyAt(c.at), c.n); !slices.Equal(got, c.want) {
			t.Errorf("%s: Prefer = %v, want %v", name, got, c.want)
		}
	}
}

func TestPreferKeys(t *testing.T) {
	ring := impl.RingOf([]int{3, 20, 41, 99}, 2)
	for key, want := range map[string][]int{
		"":                           {3, 99, 20, 41}, // at 5381, ahead of the first point
		"b":                          {41, 3, 99, 20}, // at 46629
		"ab":                         {99, 20, 41, 3}, // at 31839
		"3.0":                        {3, 99, 20, 41},
		"3.1":                        {3, 99, 20, 41},
		"3.2":                        {99, 20, 41, 3},
		"99.1":                       {99, 20, 41, 3},
		"20.1":                       {20, 41, 3, 99},
		"41.1":                       {41, 3, 99, 20},
		"41.2":                       {3, 99, 20, 41}, // behind the last point
		"\xff":                       {3, 99, 20, 41}, // at 46786
		"\xff\xff\xff":               {3, 99, 20, 41}, // at 48807
		"\xc3\xa9":                   {99, 20, 41, 3}, // at 35144
		strings.Repeat("\xff", 1000): {99, 20, 41, 3}, // at 21434
		strings.Repeat("a", 100000):  {3, 99, 20, 41}, // at 11104
	} {
		if got := impl.Prefer(ring, key, 4); !slices.Equal(got, want) {
			t.Errorf("Prefer of %.20q = %v, want %v", key, got, want)
		}
	}
}

// TestPreferOfMany: at all edges of many rings, for each n, as the chapter says it: each node once, the first n.
func TestPreferOfMany(t *testing.T) {
	for _, nodes := range someNodes() {
		for virt := 1; virt <= impl.MaxVirt; virt++ {
			ring := impl.RingOf(nodes, virt)
			for _, key := range edgeKeys(ring) {
				all := impl.Prefer(ring, key, len(nodes))
				if sorted := slices.Sorted(slices.Values(all)); !slices.Equal(sorted, nodes) {
					t.Fatalf("Prefer(%v, %q) = %v, not each of %v once", ring, key, all, nodes)
				}
				for n := -1; n <= len(nodes)+1; n++ {
					if got := impl.Prefer(ring, key, n); !slices.Equal(got, preferred(ring, key, n)) || !slices.Equal(got, all[:min(max(n, 0), len(all))]) {
						t.Fatalf("Prefer(%v, %q, %d) = %v, of %v", ring, key, n, got, all)
					}
				}
			}
		}
	}
}

func TestPreferOfAnyRing(t *testing.T) {
	d := dice(17)
	for range 4000 {
		var ring []impl.Point
		for range d.below(12) {
			ring = append(ring, pt(d.below(2*ringSize)-ringSize/2, d.below(9)-4))
		}
		key, n := keyAt(d.below(ringSize)), d.below(8)-1
		if got, want := impl.Prefer(ring, key, n), preferred(ring, key, n); !slices.Equal(got, want) {
			t.Fatalf("Prefer(%v, %q, %d) = %v, want %v", ring, key, n, got, want)
		}
	}
}

func TestPreferOfLongRing(t *testing.T) {
	var ring []impl.Point
	var want []int
	for i := range 60000 {
		ring = append(ring, pt(i, i), pt(i, -i))
		want = append(want, (i+30000)%60000)
		if i != 30000 {
			want = append(want, -((i + 30000) % 60000))
		}
	}
	if got := impl.Prefer(ring, keyAt(30000), math.MaxInt); !slices.Equal(got, want) {
		t.Errorf("Prefer of a long ring tells %d nodes, want %d", len(got), len(want))
	}
	if got := impl.Prefer(ring, keyAt(30000), 3); !slices.Equal(got, []int{30000, -30000, 30001}) {
		t.Errorf("Prefer of a long ring = %v", got)
	}
}

// checkGone: the key's nodes beside those of the ring that lacks one.
func checkGone(t *testing.T, nodes []int, virt int, i int, key string) {
	t.Helper()
	all := impl.Prefer(impl.RingOf(nodes, virt), key, len(nodes))
	want := slices.DeleteFunc(slices.Clone(all), func(node int) bool { return node == nodes[i] })
	got := impl.Prefer(impl.RingOf(without(nodes, i), virt), key, len(nodes))
	if len(all) != len(nodes) || len(want) != len(nodes)-1 || !slices.Equal(got, want) {
		t.Fatalf("%v, %d: Prefer of %q = %v, without %d %v", nodes, virt, key, all, nodes[i], got)
	}
}

func TestNodeGoneAtEdges(t *testing.T) {
	for _, nodes := range someNodes() {
		for virt := 1; virt <= impl.MaxVirt; virt++ {
			keys := edgeKeys(impl.RingOf(nodes, virt))
			for i := range nodes {
				for _, key := range keys {
					checkGone(t, nodes, virt, i, key)
				}
			}
		}
	}
}

func TestNodeGoneEverywhere(t *testing.T) {
	nodes := []int{0, 25, 62, 99}
	for at := range ringSize {
		checkGone(t, nodes, 2, at%len(nodes), keyAt(at))
	}
}

// TestNodesGoneOneByOne: till none is left, the others stay in their order.
func TestNodesGoneOneByOne(t *testing.T) {
	d := dice(19)
	for _, key := range []string{"", "a", "key", "\xff\xfe", keyAt(0), keyAt(ringSize - 1), strings.Repeat("long ", 999)} {
		left := []int{0, 12, 25, 37, 50, 62, 75, 99}
		order := impl.Prefer(impl.RingOf(left, 3), key, len(left))
		for len(left) > 0 {
			i := d.below(len(left))
			order = slices.DeleteFunc(order, func(node int) bool { return node == left[i] })
			left = without(left, i)
			if got := impl.Prefer(impl.RingOf(left, 3), key, impl.MaxNodes); !slices.Equal(got, order) {
				t.Fatalf("%.20q: of %v Prefer = %v, want %v", key, left, got, order)
			}
		}
	}
}

// TestRingLeavesArguments: neither arguments nor the spare room behind them are written by a call, or by what is done to its answer.
func TestRingLeavesArguments(t *testing.T) {
	for _, list := range [][]int{nil, {3}, {3, 20, 41, 99}, {5, 1}, {0, 1, 2, 3, 4, 5, 6, 7}} {
		whole := append(slices.Clone(list), 66, 67, 68)
		nodes := slices.Clone(whole)[:len(list)]
		impl.NodesOk(nodes)
		ring := impl.RingOf(nodes, 2)
		for i := range ring[:cap(ring)] {
			ring[:cap(ring)][i] = pt(-7, -7)
		}
		if !slices.Equal(nodes[:len(whole)], whole) {
			t.Errorf("written into the nodes: %v, were %v", nodes[:len(whole)], whole)
		}
	}
	sorted, mixed := impl.RingOf([]int{3, 20, 41}, 2), []impl.Point{pt(50, 1), pt(10, 2), pt(40, 1), pt(20, 4)}
	for _, list := range [][]impl.Point{nil, sorted, mixed} {
		whole := append(slices.Clone(list), pt(66, 66), pt(67, 67))
		ring := slices.Clone(whole)[:len(list)]
		for _, key := range edgeKeys(list) {
			for n := range 6 {
				nodes := impl.Prefer(ring, key, n)
				for i := range nodes[:cap(nodes)] {
					nodes[:cap(nodes)][i] = -7
				}
			}
		}
		if !slices.Equal(ring[:len(whole)], whole) {
			t.Errorf("written into the ring: %v, was %v", ring[:len(whole)], whole)
		}
	}
}

// TestRingReadsNoRoom: what lies behind a list's length changes no answer, and is not handed out.
func TestRingReadsNoRoom(t *testing.T) {
	whole := []int{3, 20, 41, 99, -1, 100, 7, 8, 9, 10}
	if !impl.NodesOk(whole[:4]) || !slices.Equal(impl.RingOf(whole[:4], 2), ringBySums(whole[:4], 2)) {
		t.Error("what lies behind the nodes is read")
	}
	ring := []impl.Point{pt(100, 7), pt(200, 3), pt(300, 66), pt(400, 67)}[:2]
	for _, at := range []int{0, 150, 250, 350, 450} {
		got := impl.Prefer(ring, keyAt(at), 9)
		if !slices.Equal(got, preferred(ring, keyAt(at), 9)) || slices.Contains(got[:cap(got)], 66) {
			t.Errorf("Prefer at %d = %v", at, got[:cap(got)])
		}
	}
}

// TestRingNewMemory: what is done to one answer shows in no other one.
func TestRingNewMemory(t *testing.T) {
	nodes := []int{3, 20, 41, 99}
	first := impl.RingOf(nodes, 2)
	want := slices.Clone(first)
	for i := range first {
		first[i] = pt(-7, -7)
	}
	second := impl.RingOf(nodes, 2)
	if !slices.Equal(second, want) {
		t.Error("two answers of RingOf share memory")
	}
	told := impl.Prefer(second, "a", 4)
	kept := slices.Clone(told)
	for i := range told {
		told[i] = -7
	}
	if !slices.Equal(impl.Prefer(second, "a", 4), kept) || !slices.Equal(second, want) {
		t.Error("two answers of Prefer share memory")
	}
}
