package tests

import (
	"cmp"
	"math"
	"slices"
	"strconv"
	"testing"

	"loop.example/g00579/impl"
)

func vec(ns ...int) impl.Vec {
	return impl.Vec{V: ns}
}

func post(from int, val int, ns ...int) impl.Post {
	return impl.Post{From: from, V: ns, Val: val}
}

func sameVec(a impl.Vec, b impl.Vec) bool {
	return slices.Equal(a.V, b.V)
}

func samePost(a impl.Post, b impl.Post) bool {
	return a.From == b.From && slices.Equal(a.V, b.V) && a.Val == b.Val
}

func samePosts(a []impl.Post, b []impl.Post) bool {
	return slices.EqualFunc(a, b, samePost)
}

func valsOf(list []impl.Post) []int {
	var out []int
	for _, p := range list {
		out = append(out, p.Val)
	}
	return out
}

// sortedPosts: the posts, whichever came first.
func sortedPosts(list []impl.Post) []impl.Post {
	return slices.SortedFunc(slices.Values(list), func(a impl.Post, b impl.Post) int {
		return cmp.Or(cmp.Compare(a.From, b.From), slices.Compare(a.V, b.V), cmp.Compare(a.Val, b.Val))
	})
}

// vecsBelow: each vector of numbers below n.
func vecsBelow(n int) []impl.Vec {
	all := []impl.Vec{vec()}
	for range impl.MaxSites {
		var next []impl.Vec
		for _, v := range all {
			for k := range n {
				next = append(next, vec(append(slices.Clone(v.V), k)...))
			}
		}
		all = next
	}
	return all
}

// edgeVecs: vectors with the numbers that the document names at each place.
func edgeVecs() []impl.Vec {
	all := []impl.Vec{vec(0, 0, 0, 0), vec(1, 2, 3, 4), vec(4, 3, 2, 1)}
	for _, n := range []int{1, impl.MaxTick - 1, impl.MaxTick} {
		all = append(all, vec(n, n, n, n))
		for i := range impl.MaxSites {
			v := vec(0, 0, 0, 0)
			v.V[i] = n
			all = append(all, v)
		}
	}
	return all
}

// badVecs: vectors that are not VecOk.
func badVecs() map[string]impl.Vec {
	bad := map[string]impl.Vec{
		"nil":                 {},
		"none":                vec([]int{}...),
		"one number":          vec(1),
		"one too few":         vec(1, 0, 2),
		"one too many":        vec(1, 0, 2, 0, 0),
		"twice as many":       vec(1, 0, 2, 0, 1, 0, 2, 0),
		"one too few of room": vec([]int{1, 0, 2, 0}[:3]...),
	}
	for _, n := range []int{-1, impl.MaxTick + 1, math.MinInt, math.MaxInt, -impl.MaxTick} {
		for i := range impl.MaxSites {
			v := vec(1, 0, 2, 0)
			v.V[i] = n
			bad[strconv.Itoa(n)+" at "+strconv.Itoa(i)] = v
		}
	}
	return bad
}

// joinedVec, cmpBy, mayComeBy, orderBy: by the words of the chapter, number by number, of vectors that are in order.
func joinedVec(a impl.Vec, b impl.Vec) impl.Vec {
	var out []int
	for i := range a.V {
		if a.V[i] > b.V[i] {
			out = append(out, a.V[i])
		} else {
			out = append(out, b.V[i])
		}
	}
	return vec(out...)
}

func cmpBy(a impl.Vec, b impl.Vec) int {
	more, less := 0, 0
	for i := range a.V {
		if a.V[i] > b.V[i] {
			more++
		}
		if a.V[i] < b.V[i] {
			less++
		}
	}
	switch {
	case more == 0 && less == 0:
		return 0
	case more == 0:
		return -1
	case less == 0:
		return 1
	}
	return 2
}

func vecOkBy(v impl.Vec) bool {
	return len(v.V) == impl.MaxSites && slices.Min(v.V) >= 0 && slices.Max(v.V) <= impl.MaxTick
}

func mayComeBy(v impl.Vec, p impl.Post) bool {
	if !vecOkBy(v) || !vecOkBy(vec(p.V...)) || p.From < 0 || p.From >= len(v.V) {
		return false
	}
	for i, n := range p.V {
		if i == p.From && n != v.V[i]+1 || i != p.From && n > v.V[i] {
			return false
		}
	}
	return true
}

func orderBy(list []impl.Post) ([]impl.Post, impl.Vec) {
	seen, done := vec(0, 0, 0, 0), make([]bool, len(list))
	var out []impl.Post
again:
	for i, p := range list {
		if !done[i] && mayComeBy(seen, p) {
			done[i] = true
			out, seen = append(out, p), joinedVec(seen, vec(p.V...))
			goto again
		}
	}
	return out, seen
}

// checkOrder: what is told is what the words of the chapter say; each comes behind what its site had seen; the vector says how many of each site came; and none that is left may come.
func checkOrder(t *testing.T, list []impl.Post) ([]impl.Post, impl.Vec) {
	t.Helper()
	got, v := impl.InOrder(list)
	if want, wantV := orderBy(list); !samePosts(got, want) || !sameVec(v, wantV) {
		t.Fatalf("InOrder(%v) = %v, %v, want %v, %v", list, got, v, want, wantV)
	}
	had := vec(0, 0, 0, 0)
	for _, p := range got {
		for site, n := range p.V {
			if site != p.From && n > had.V[site] || site == p.From && n != had.V[site]+1 {
				t.Fatalf("InOrder(%v) = %v: %v comes behind %v", list, got, p, had)
			}
		}
		had.V[p.From]++
	}
	if !sameVec(v, had) || !impl.VecOk(v) {
		t.Fatalf("InOrder(%v): vector %v, but %v came", list, v, had)
	}
	for _, p := range list {
		if impl.MayCome(v, p) {
			t.Fatalf("InOrder(%v) = %v, %v: %v may come", list, got, v, p)
		}
	}
	return got, v
}

// eachTurning: the list, beginning at each of its places, and the same backward.
func eachTurning(list []impl.Post, ask func([]impl.Post)) {
	for i := range max(1, len(list)) {
		turned := slices.Concat(list[i:], list[:i])
		ask(turned)
		slices.Reverse(turned)
		ask(turned)
	}
}

// eachOrder: the list in each order.
func eachOrder(list []impl.Post, ask func([]impl.Post)) {
	var place func(ahead []impl.Post, rest []impl.Post)
	place = func(ahead []impl.Post, rest []impl.Post) {
		if len(rest) == 0 {
			ask(ahead)
		}
		for i, p := range rest {
			place(append(slices.Clone(ahead), p), slices.Concat(rest[:i], rest[i+1:]))
		}
	}
	place(nil, list)
}

// sentBy: what sites sent and saw, thrown; a site sees a post once it has seen what its site had.
func sentBy(d *dice, n int) []impl.Post {
	var sites [impl.MaxSites]impl.Vec
	for i := range sites {
		sites[i] = vec(0, 0, 0, 0)
	}
	var list []impl.Post
	for len(list) < n {
		site := d.below(impl.MaxSites)
		if d.below(3) == 0 {
			sites[site].V[site]++
			list = append(list, post(site, len(list)+1, slices.Clone(sites[site].V)...))
		}
		for _, p := range list {
			if p.From != site && d.below(2) == 0 && mayComeBy(sites[site], p) {
				sites[site] = joinedVec(sites[site], vec(p.V...))
			}
		}
	}
	return list
}

func TestVecOk(t *testing.T) {
	for _, v := range append(vecsBelow(3), edgeVecs()...) {
		if !impl.VecOk(v) {
			t.Errorf("VecOk(%v) = false", v)
		}
	}
	for name, v := range badVecs() {
		if impl.VecOk(v) {
			t.Errorf("%s: VecOk(%v) = true", name, v)
		}
	}
	for n := range 10 {
		if got := impl.VecOk(impl.Vec{V: make([]int, n)}); got != (n == impl.MaxSites) {
			t.Errorf("%d noughts: VecOk = %v", n, got)
		}
	}
}

func TestVecJoin(t *testing.T) {
	for name, x := range map[string]struct{ a, b, want impl.Vec }{
		"noughts":        {vec(0, 0, 0, 0), vec(0, 0, 0, 0), vec(0, 0, 0, 0)},
		"side by side":   {vec(1, 0, 2, 0), vec(0, 3, 2, 0), vec(1, 3, 2, 0)},
		"the first more": {vec(5, 6, 7, 8), vec(4, 6, 0, 7), vec(5, 6, 7, 8)},
		"the other more": {vec(4, 6, 0, 7), vec(5, 6, 7, 8), vec(5, 6, 7, 8)},
		"the last place": {vec(0, 0, 0, 1), vec(0, 0, 0, 9), vec(0, 0, 0, 9)},
		"the most":       {vec(impl.MaxTick, 0, impl.MaxTick, 1), vec(0, impl.MaxTick, impl.MaxTick-1, 2), vec(impl.MaxTick, impl.MaxTick, impl.MaxTick, 2)},
	} {
		if got := impl.VecJoin(x.a, x.b); !sameVec(got, x.want) {
			t.Errorf("%s: VecJoin(%v, %v) = %v, want %v", name, x.a, x.b, got, x.want)
		}
	}
}

// TestVecJoinWhicheverFirst: promise 11, of each two vectors of small numbers and of the edges; and one is at most another just where joined they are that one.
func TestVecJoinWhicheverFirst(t *testing.T) {
	all := append(vecsBelow(3), edgeVecs()...)
	for _, a := range all {
		if got := impl.VecJoin(a, a); !sameVec(got, a) {
			t.Fatalf("VecJoin(%v, itself) = %v", a, got)
		}
		for _, b := range all {
			got, back := impl.VecJoin(a, b), impl.VecJoin(b, a)
			if want := joinedVec(a, b); !sameVec(got, want) || !sameVec(back, want) || !impl.VecOk(got) {
				t.Fatalf("VecJoin of %v, %v = %v, backward %v, want %v", a, b, got, back, want)
			}
			for _, v := range []impl.Vec{a, b, got} {
				if again := impl.VecJoin(got, v); !sameVec(again, got) {
					t.Fatalf("VecJoin(%v, %v) = %v", got, v, again)
				}
			}
			c := impl.VecCmp(a, b)
			if atMost := c == -1 || c == 0; atMost != sameVec(got, b) {
				t.Fatalf("VecCmp(%v, %v) = %d, joined they are %v", a, b, c, got)
			}
			if atLeast := c == 1 || c == 0; atLeast != sameVec(got, a) {
				t.Fatalf("VecCmp(%v, %v) = %d, joined they are %v", a, b, c, got)
			}
		}
	}
}

// TestVecJoinOfThree: promise 11, of each three; and what is joined is the least that both are at most.
func TestVecJoinOfThree(t *testing.T) {
	atMost := func(a impl.Vec, b impl.Vec) bool {
		c := impl.VecCmp(a, b)
		return c == 0 || c == -1
	}
	all := append(vecsBelow(2), vec(impl.MaxTick, 2, 0, 1), vec(0, 2, impl.MaxTick, 2), vec(3, 0, 1, impl.MaxTick))
	for _, a := range all {
		for _, b := range all {
			for _, c := range all {
				want := impl.VecJoin(impl.VecJoin(a, b), c)
				for _, got := range []impl.Vec{impl.VecJoin(a, impl.VecJoin(b, c)), impl.VecJoin(impl.VecJoin(c, a), b), impl.VecJoin(c, impl.VecJoin(b, a))} {
					if !sameVec(got, want) {
						t.Fatalf("of %v, %v, %v: VecJoin = %v and %v", a, b, c, got, want)
					}
				}
				if got := atMost(impl.VecJoin(a, b), c); got != (atMost(a, c) && atMost(b, c)) {
					t.Fatalf("%v, %v joined are at most %v: %v", a, b, c, got)
				}
				if atMost(a, b) && atMost(b, c) && !atMost(a, c) {
					t.Fatalf("%v is at most %v, that %v, but the first not the last", a, b, c)
				}
			}
		}
	}
}

func TestVecCmp(t *testing.T) {
	most := impl.MaxTick
	for name, x := range map[string]struct {
		a, b impl.Vec
		want int
	}{
		"noughts":                    {vec(0, 0, 0, 0), vec(0, 0, 0, 0), 0},
		"the same":                   {vec(1, 2, 3, 4), vec(1, 2, 3, 4), 0},
		"the same, the most":         {vec(most, most, most, most), vec(most, most, most, most), 0},
		"less at the first place":    {vec(0, 2, 3, 4), vec(1, 2, 3, 4), -1},
		"less at the last place":     {vec(1, 2, 3, 3), vec(1, 2, 3, 4), -1},
		"less everywhere":            {vec(0, 1, 2, 3), vec(1, 2, 3, 4), -1},
		"nought and the most":        {vec(0, 0, 0, 0), vec(most, most, most, most), -1},
		"more at the first place":    {vec(2, 2, 3, 4), vec(1, 2, 3, 4), 1},
		"more at the last place":     {vec(1, 2, 3, 5), vec(1, 2, 3, 4), 1},
		"more everywhere":            {vec(2, 3, 4, 5), vec(1, 2, 3, 4), 1},
		"the most and one less":      {vec(most, most, most, most), vec(most, most, most-1, most), 1},
		"more, then less":            {vec(2, 2, 3, 3), vec(1, 2, 3, 4), 2},
		"less, then more":            {vec(0, 2, 3, 5), vec(1, 2, 3, 4), 2},
		"less in the midst":          {vec(1, 1, 4, 4), vec(1, 2, 3, 4), 2},
		"much more, a little less":   {vec(most, most, most, 0), vec(0, 0, 0, 1), 2},
		"the same numbers, turned":   {vec(1, 2, 3, 4), vec(4, 1, 2, 3), 2},
		"less at three, more at one": {vec(0, 0, 0, 1), vec(1, 1, 1, 0), 2},
	} {
		if got := impl.VecCmp(x.a, x.b); got != x.want {
			t.Errorf("%s: VecCmp(%v, %v) = %d, want %d", name, x.a, x.b, got, x.want)
		}
	}
	turned := map[int]int{0: 0, -1: 1, 1: -1, 2: 2}
	told := map[int]int{}
	all := append(vecsBelow(3), edgeVecs()...)
	for _, a := range all {
		for _, b := range all {
			got := impl.VecCmp(a, b)
			told[got]++
			if want := cmpBy(a, b); got != want {
				t.Fatalf("VecCmp(%v, %v) = %d, want %d", a, b, got, want)
			}
			if back := impl.VecCmp(b, a); back != turned[got] {
				t.Fatalf("VecCmp(%v, %v) = %d, backward %d", a, b, got, back)
			}
		}
	}
	if len(told) != 4 || told[0] < len(all) {
		t.Errorf("VecCmp told %v", told)
	}
}

// TestVecWrong: of a vector that is not VecOk, as the one argument, the other, or both.
func TestVecWrong(t *testing.T) {
	good := []impl.Vec{vec(0, 0, 0, 0), vec(1, 0, 2, 0), vec(impl.MaxTick, impl.MaxTick, impl.MaxTick, impl.MaxTick)}
	for name, bad := range badVecs() {
		for _, v := range good {
			for _, x := range [][2]impl.Vec{{bad, v}, {v, bad}, {bad, bad}} {
				if got := impl.VecJoin(x[0], x[1]); len(got.V) != 0 {
					t.Errorf("%s: VecJoin(%v, %v) = %v", name, x[0], x[1], got)
				}
				if got := impl.VecCmp(x[0], x[1]); got != 3 {
					t.Errorf("%s: VecCmp(%v, %v) = %d", name, x[0], x[1], got)
				}
			}
		}
		for other, worse := range badVecs() {
			if got := impl.VecJoin(bad, worse); len(got.V) != 0 || impl.VecCmp(bad, worse) != 3 {
				t.Errorf("%s, %s: VecJoin = %v, VecCmp = %d", name, other, got, impl.VecCmp(bad, worse))
			}
		}
		for site := -1; site <= impl.MaxSites; site++ {
			if got, ok := impl.VecTick(bad, site); ok || len(got.V) != 0 {
				t.Errorf("%s: VecTick(%v, %d) = %v, %v", name, bad, site, got, ok)
			}
		}
	}
}

func TestVecTick(t *testing.T) {
	for _, v := range append(vecsBelow(3), edgeVecs()...) {
		for site := range impl.MaxSites {
			got, ok := impl.VecTick(v, site)
			if v.V[site] == impl.MaxTick {
				if ok || len(got.V) != 0 {
					t.Errorf("VecTick(%v, %d) = %v, %v", v, site, got, ok)
				}
				continue
			}
			want := vec(slices.Clone(v.V)...)
			want.V[site]++
			if !ok || !sameVec(got, want) || impl.VecCmp(v, got) != -1 || !impl.VecOk(got) {
				t.Errorf("VecTick(%v, %d) = %v, %v, want %v", v, site, got, ok, want)
			}
		}
		for _, site := range []int{-1, -2, impl.MaxSites, impl.MaxSites + 1, math.MinInt, math.MaxInt} {
			if got, ok := impl.VecTick(v, site); ok || len(got.V) != 0 {
				t.Errorf("no place: VecTick(%v, %d) = %v, %v", v, site, got, ok)
			}
		}
	}
}

// TestVecTickToTheMost: the last tick that may be is told, the one beyond it not, whatever the other numbers are.
func TestVecTickToTheMost(t *testing.T) {
	for site := range impl.MaxSites {
		for _, other := range []int{0, 5, impl.MaxTick} {
			v := vec(other, other, other, other)
			v.V[site] = impl.MaxTick - 2
			for want := impl.MaxTick - 1; want <= impl.MaxTick; want++ {
				got, ok := impl.VecTick(v, site)
				if !ok || got.V[site] != want {
					t.Fatalf("VecTick(%v, %d) = %v, %v", v, site, got, ok)
				}
				v = got
			}
			if got, ok := impl.VecTick(v, site); ok || len(got.V) != 0 {
				t.Errorf("VecTick(%v, %d) = %v, %v", v, site, got, ok)
			}
		}
	}
}

func TestMayCome(t *testing.T) {
	v, most := vec(1, 0, 2, 0), impl.MaxTick
	for name, x := range map[string]struct {
		v    impl.Vec
		p    impl.Post
		want bool
	}{
		"the next one":                    {v, post(0, 5, 2, 0, 2, 0), true},
		"the next one of the last place":  {v, post(3, 5, 1, 0, 2, 1), true},
		"one that has seen less":          {v, post(1, 5, 0, 1, 0, 0), true},
		"the same as was seen":            {v, post(0, 5, 1, 0, 2, 0), false},
		"one that came long ago":          {v, post(2, 5, 0, 0, 1, 0), false},
		"one too far":                     {v, post(0, 5, 3, 0, 2, 0), false},
		"the first one of its site, late": {v, post(0, 5, 1, 0, 0, 0), false},
		"it has seen one more":            {v, post(0, 5, 2, 1, 2, 0), false},
		"it has seen one more at last":    {v, post(0, 5, 2, 0, 2, 1), false},
		"the next one of another site":    {v, post(1, 5, 2, 0, 2, 0), false},
		"a value of any size":             {v, post(0, math.MinInt, 2, 0, 2, 0), true},
		"nothing seen":                    {vec(0, 0, 0, 0), post(2, 0, 0, 0, 1, 0), true},
		"nothing sent":                    {vec(0, 0, 0, 0), post(2, 0, 0, 0, 0, 0), false},
		"the last tick":                   {vec(0, most-1, 0, 0), post(1, 0, 0, most, 0, 0), true},
		"the last tick, again":            {vec(0, most, 0, 0), post(1, 0, 0, most, 0, 0), false},
		"beyond the last tick":            {vec(0, most, 0, 0), post(1, 0, 0, most+1, 0, 0), false},
		"others at the most":              {vec(most, 0, most, most), post(1, 0, most, 1, most, most), true},
		"far more at another place":       {vec(0, 0, 0, 0), post(1, 0, 0, 1, most, 0), false},
		"From one below":                  {v, post(-1, 5, 2, 0, 2, 0), false},
		"From one beyond":                 {v, post(impl.MaxSites, 5, 2, 0, 2, 0), false},
		"From the least":                  {v, post(math.MinInt, 5, 2, 0, 2, 0), false},
		"From the most":                   {v, post(math.MaxInt, 5, 2, 0, 2, 0), false},
	} {
		if got := impl.MayCome(x.v, x.p); got != x.want {
			t.Errorf("%s: MayCome(%v, %v) = %v", name, x.v, x.p, got)
		}
	}
}

// TestMayComeOfMany: each vector and each post of small numbers; where one may come, what was seen is then just one more at its site.
func TestMayComeOfMany(t *testing.T) {
	come := 0
	for _, v := range vecsBelow(3) {
		for _, o := range vecsBelow(4) {
			for from := -1; from <= impl.MaxSites; from++ {
				p := post(from, 1, o.V...)
				got := impl.MayCome(v, p)
				if want := mayComeBy(v, p); got != want {
					t.Fatalf("MayCome(%v, %v) = %v, want %v", v, p, got, want)
				}
				if !got {
					continue
				}
				come++
				next, ok := impl.VecTick(v, from)
				if after := impl.VecJoin(v, o); !ok || !sameVec(after, next) || impl.MayCome(after, p) {
					t.Fatalf("%v comes behind %v: %v, want %v, and no second time", p, v, after, next)
				}
			}
		}
	}
	if come < 2000 {
		t.Errorf("%d may come: too few to tell", come)
	}
}

// TestMayComeEdges: V at From from 2 less than v there to 3 more; at each other place 1 less, the same and 1 greater.
func TestMayComeEdges(t *testing.T) {
	for _, base := range []int{2, 50, impl.MaxTick - 4} {
		for from := range impl.MaxSites {
			for more := -2; more <= 3; more++ {
				for other := range impl.MaxSites {
					for by := -1; by <= 1; by++ {
						v, p := vec(base, base, base, base), post(from, 1, base, base, base, base)
						p.V[from] += more
						if other != from {
							p.V[other] += by
						}
						if want := more == 1 && (other == from || by <= 0); impl.MayCome(v, p) != want {
							t.Errorf("MayCome(%v, %v) = %v", v, p, !want)
						}
					}
				}
			}
		}
	}
}

// TestMayComeWrong: a vector that is not VecOk on either side, also where all that is asked beside that holds.
func TestMayComeWrong(t *testing.T) {
	for name, bad := range badVecs() {
		for from := -1; from <= impl.MaxSites; from++ {
			for _, good := range []impl.Vec{vec(0, 0, 0, 0), vec(1, 0, 2, 0), vec(2, 0, 2, 0), vec(1, 1, 2, 0)} {
				if impl.MayCome(bad, post(from, 1, good.V...)) || impl.MayCome(good, post(from, 1, bad.V...)) {
					t.Errorf("%s, from %d: one of %v, %v may come", name, from, bad, good)
				}
			}
			if impl.MayCome(bad, post(from, 1, bad.V...)) {
				t.Errorf("%s, from %d: of %v on both sides one may come", name, from, bad)
			}
		}
	}
	for name, x := range map[string]struct {
		v impl.Vec
		p impl.Post
	}{
		"both one too few":       {vec(0, 0, 0), post(0, 1, 1, 0, 0)},
		"both one too many":      {vec(0, 0, 0, 0, 0), post(0, 1, 1, 0, 0, 0, 0)},
		"a place that is beyond": {vec(0, 0, 0, 0, 0), post(4, 1, 0, 0, 0, 0, 1)},
		"from -1 to 0":           {vec(-1, 0, 0, 0), post(0, 1, 0, 0, 0, 0)},
		"-1 both":                {vec(0, -1, 0, 0), post(0, 1, 1, -1, 0, 0)},
		"-1 in the post":         {vec(0, 0, 0, 0), post(0, 1, 1, -1, 0, 0)},
		"too much, both":         {vec(0, impl.MaxTick+1, 0, 0), post(0, 1, 1, impl.MaxTick+1, 0, 0)},
		"too much in the vector": {vec(0, impl.MaxTick+1, 0, 0), post(0, 1, 1, 0, 0, 0)},
		"the most wraps round":   {vec(math.MaxInt, 0, 0, 0), post(0, 1, math.MinInt, 0, 0, 0)},
	} {
		if impl.MayCome(x.v, x.p) {
			t.Errorf("%s: MayCome(%v, %v)", name, x.v, x.p)
		}
	}
}

func TestInOrder(t *testing.T) {
	a1, a2, a3 := post(0, 1, 1, 0, 0, 0), post(0, 2, 2, 0, 0, 0), post(0, 3, 3, 0, 0, 0)
	b1, b2 := post(1, 4, 1, 1, 0, 0), post(1, 5, 2, 2, 0, 0)
	d1 := post(3, 6, 2, 2, 0, 1)
	for name, x := range map[string]struct {
		list []impl.Post
		vals []int
		v    impl.Vec
	}{
		"none":                             {nil, nil, vec(0, 0, 0, 0)},
		"an empty list":                    {[]impl.Post{}, nil, vec(0, 0, 0, 0)},
		"one":                              {[]impl.Post{a1}, []int{1}, vec(1, 0, 0, 0)},
		"one that waits":                   {[]impl.Post{a2}, nil, vec(0, 0, 0, 0)},
		"in order":                         {[]impl.Post{a1, a2, a3}, []int{1, 2, 3}, vec(3, 0, 0, 0)},
		"backward":                         {[]impl.Post{a3, a2, a1}, []int{1, 2, 3}, vec(3, 0, 0, 0)},
		"one lacks":                        {[]impl.Post{a3, a1}, []int{1}, vec(1, 0, 0, 0)},
		"the first lacks":                  {[]impl.Post{a2, a3, b1, b2, d1}, nil, vec(0, 0, 0, 0)},
		"another site's, behind its cause": {[]impl.Post{b1, a1}, []int{1, 4}, vec(1, 1, 0, 0)},
		"the first of those that may":      {[]impl.Post{b1, a1, a2}, []int{1, 4, 2}, vec(2, 1, 0, 0)},
		"the first of those, turned":       {[]impl.Post{a1, a2, b1}, []int{1, 2, 4}, vec(2, 1, 0, 0)},
		"all, backward":                    {[]impl.Post{d1, b2, b1, a3, a2, a1}, []int{1, 4, 2, 5, 6, 3}, vec(3, 2, 0, 1)},
		"all but one":                      {[]impl.Post{d1, b1, a3, a2, a1}, []int{1, 4, 2, 3}, vec(3, 1, 0, 0)},
		"the same twice":                   {[]impl.Post{a1, a1, a2, a1, a2}, []int{1, 2}, vec(2, 0, 0, 0)},
		"the same twice, that waits":       {[]impl.Post{b1, b1, a1, b1}, []int{1, 4}, vec(1, 1, 0, 0)},
		"no number of its own":             {[]impl.Post{post(0, 7, 0, 0, 0, 0), a1}, []int{1}, vec(1, 0, 0, 0)},
		"two that wait for each other":     {[]impl.Post{post(0, 7, 1, 1, 0, 0), post(1, 8, 1, 1, 0, 0)}, nil, vec(0, 0, 0, 0)},
		"one that waits for its next":      {[]impl.Post{post(0, 7, 1, 1, 0, 0), post(1, 8, 2, 1, 0, 0), a2}, nil, vec(0, 0, 0, 0)},
		"From one below":                   {[]impl.Post{post(-1, 7, 1, 0, 0, 0), a1}, []int{1}, vec(1, 0, 0, 0)},
		"From one beyond":                  {[]impl.Post{post(4, 7, 1, 0, 0, 0), a1}, []int{1}, vec(1, 0, 0, 0)},
		"From far off, alone":              {[]impl.Post{post(math.MaxInt, 7, 1, 0, 0, 0), post(math.MinInt, 7, 1, 0, 0, 0)}, nil, vec(0, 0, 0, 0)},
		"a V of too few":                   {[]impl.Post{post(0, 7, 1, 0, 0), a1}, []int{1}, vec(1, 0, 0, 0)},
		"a V of too many":                  {[]impl.Post{post(0, 7, 1, 0, 0, 0, 0), a1}, []int{1}, vec(1, 0, 0, 0)},
		"a V of none":                      {[]impl.Post{post(0, 7), a1}, []int{1}, vec(1, 0, 0, 0)},
		"a V with -1":                      {[]impl.Post{post(0, 7, 1, -1, 0, 0), a1}, []int{1}, vec(1, 0, 0, 0)},
		"a V of too much":                  {[]impl.Post{post(0, 7, 1, 0, 0, impl.MaxTick+1), a1}, []int{1}, vec(1, 0, 0, 0)},
		"a V of the most":                  {[]impl.Post{post(0, 7, 1, 0, 0, impl.MaxTick), post(3, 8, 0, 0, 0, impl.MaxTick)}, nil, vec(0, 0, 0, 0)},
		"one of each site":                 {[]impl.Post{post(3, 4, 0, 0, 0, 1), post(2, 3, 0, 0, 1, 0), post(1, 2, 0, 1, 0, 0), a1}, []int{4, 3, 2, 1}, vec(1, 1, 1, 1)},
		"one because of each other":        {[]impl.Post{post(3, 4, 1, 1, 1, 1), post(2, 3, 1, 1, 1, 0), b1, a1}, []int{1, 4, 3, 4}, vec(1, 1, 1, 1)},
	} {
		got, v := checkOrder(t, x.list)
		if !slices.Equal(valsOf(got), x.vals) || !sameVec(v, x.v) {
			t.Errorf("%s: InOrder = %v, %v, want %v, %v", name, valsOf(got), v, x.vals, x.v)
		}
	}
}

// TestInOrderOneNumber: of two posts of one site with one number the first that may come comes, the other never; the vector is the same.
func TestInOrderOneNumber(t *testing.T) {
	early, other, waits := post(0, 1, 1, 0, 0, 0), post(0, 2, 1, 0, 0, 0), post(0, 3, 1, 1, 0, 0)
	q, next := post(1, 4, 0, 1, 0, 0), post(0, 5, 2, 1, 0, 0)
	for name, x := range map[string]struct {
		list []impl.Post
		vals []int
		v    impl.Vec
	}{
		"of one V":                         {[]impl.Post{early, other}, []int{1}, vec(1, 0, 0, 0)},
		"of one V, turned":                 {[]impl.Post{other, early}, []int{2}, vec(1, 0, 0, 0)},
		"the first waits":                  {[]impl.Post{waits, early, q}, []int{1, 4}, vec(1, 1, 0, 0)},
		"the first waited":                 {[]impl.Post{waits, q, early}, []int{4, 3}, vec(1, 1, 0, 0)},
		"that for which it waits is ahead": {[]impl.Post{q, early, waits}, []int{4, 1}, vec(1, 1, 0, 0)},
		"it waits in vain":                 {[]impl.Post{waits, early}, []int{1}, vec(1, 0, 0, 0)},
		"the next one comes in any case":   {[]impl.Post{next, waits, q, early, other}, []int{4, 3, 5}, vec(2, 1, 0, 0)},
		"the next one, turned":             {[]impl.Post{next, other, early, waits, q}, []int{2, 4, 5}, vec(2, 1, 0, 0)},
	} {
		got, v := checkOrder(t, x.list)
		if !slices.Equal(valsOf(got), x.vals) || !sameVec(v, x.v) {
			t.Errorf("%s: InOrder = %v, %v, want %v, %v", name, valsOf(got), v, x.vals, x.v)
		}
	}
	eachOrder([]impl.Post{early, other, waits, q, next}, func(list []impl.Post) {
		if got, v := checkOrder(t, list); len(got) != 3 || !sameVec(v, vec(2, 1, 0, 0)) {
			t.Fatalf("InOrder(%v) = %v, %v", list, got, v)
		}
	})
}

// TestInOrderEachOrder: promise 11, short lists in each order: some with posts that wait for one that is not there, some with one that never may come, some with the same post twice.
func TestInOrderEachOrder(t *testing.T) {
	a1, a2, b1, b2, c1 := post(0, 1, 1, 0, 0, 0), post(0, 2, 2, 1, 0, 0), post(1, 3, 1, 1, 0, 0), post(1, 4, 2, 2, 0, 0), post(2, 5, 2, 2, 1, 0)
	d1, far, never, nowhere, short := post(3, 6, 0, 0, 0, 1), post(0, 7, 4, 0, 0, 0), post(2, 8, 0, 0, 0, 0), post(4, 9, 1, 0, 0, 0), post(3, 10, 0, 0, 1)
	for name, x := range map[string]struct {
		list []impl.Post
		come []impl.Post
	}{
		"none":                 {nil, nil},
		"a row":                {[]impl.Post{a1, b1, a2, b2, c1}, []impl.Post{a1, b1, a2, b2, c1}},
		"a row and one beside": {[]impl.Post{a1, b1, a2, b2, c1, d1}, []impl.Post{a1, b1, a2, b2, c1, d1}},
		"side by side":         {[]impl.Post{a1, post(1, 3, 0, 1, 0, 0), post(2, 5, 0, 0, 1, 0), d1}, []impl.Post{a1, post(1, 3, 0, 1, 0, 0), post(2, 5, 0, 0, 1, 0), d1}},
		"one lacks":            {[]impl.Post{a1, a2, b2, c1, d1}, []impl.Post{a1, d1}},
		"the first lacks":      {[]impl.Post{b1, a2, b2, c1, far}, nil},
		"one is far":           {[]impl.Post{a1, far, b1, a2}, []impl.Post{a1, b1, a2}},
		"some never come":      {[]impl.Post{a1, never, b1, nowhere, d1, short}, []impl.Post{a1, b1, d1}},
		"the same twice":       {[]impl.Post{a1, a1, b1, b1, a2, a2}, []impl.Post{a1, b1, a2}},
	} {
		want := sortedPosts(x.come)
		_, wantV := impl.InOrder(x.list)
		orders := 0
		eachOrder(x.list, func(list []impl.Post) {
			orders++
			if got, v := checkOrder(t, list); !samePosts(sortedPosts(got), want) || !sameVec(v, wantV) {
				t.Fatalf("%s: InOrder(%v) = %v, %v, want in some order %v, and %v", name, list, got, v, want, wantV)
			}
		})
		if len(x.list) == 6 && orders != 720 {
			t.Errorf("%s: %d orders", name, orders)
		}
	}
}

// TestInOrderOfCourses: promise 11, of what sites sent and saw: turned at each place, all come; where some were lost, those come that, with all that they had seen, were not.
func TestInOrderOfCourses(t *testing.T) {
	d := dice(1101)
	lacking := 0
	for range 60 {
		all := sentBy(&d, 5+d.below(25))
		count := vec(0, 0, 0, 0)
		for _, p := range all {
			count.V[p.From]++
		}
		eachTurning(all, func(list []impl.Post) {
			if got, v := checkOrder(t, list); !samePosts(sortedPosts(got), sortedPosts(all)) || !sameVec(v, count) {
				t.Fatalf("InOrder(%v) = %v, %v, want all", list, got, v)
			}
		})
		if got, _ := impl.InOrder(all); !samePosts(got, all) {
			t.Fatalf("InOrder(%v) = %v, want the same", all, got)
		}
		var left, lost []impl.Post
		for _, p := range all {
			if d.below(9) == 0 {
				lost = append(lost, p)
			} else {
				left = append(left, p)
			}
		}
		want := slices.DeleteFunc(slices.Clone(left), func(p impl.Post) bool {
			return slices.ContainsFunc(lost, func(o impl.Post) bool { return o.V[o.From] <= p.V[o.From] })
		})
		lacking += len(left) - len(want)
		eachTurning(left, func(list []impl.Post) {
			if got, _ := checkOrder(t, list); !samePosts(sortedPosts(got), sortedPosts(want)) {
				t.Fatalf("without %v: InOrder(%v) = %v, want in some order %v", lost, list, got, want)
			}
		})
	}
	if lacking < 100 {
		t.Errorf("%d waited for one that was lost: too few to tell", lacking)
	}
}

// thrownPosts: posts of small numbers, so that many come and many wait in vain, and some that are no course's.
func thrownPosts(d *dice, n int) []impl.Post {
	var list []impl.Post
	for i := range n {
		p := post(d.below(impl.MaxSites), i, d.below(4)/2, d.below(4)/3, d.below(4)/3, d.below(4)/3)
		p.V[p.From] = d.below(4)
		switch d.below(20) {
		case 0:
			p.From = -1 + d.below(2)*(impl.MaxSites+1)
		case 1:
			p.V = p.V[:d.below(impl.MaxSites)]
		case 2:
			p.V[d.below(impl.MaxSites)] = []int{-1, impl.MaxTick + 1}[d.below(2)]
		}
		list = append(list, p)
	}
	return list
}

// oneOfEach: of those posts of one site with one number the first alone.
func oneOfEach(list []impl.Post) []impl.Post {
	had := map[[2]int]int{}
	return slices.DeleteFunc(slices.Clone(list), func(p impl.Post) bool {
		if p.From < 0 || p.From >= len(p.V) {
			return false
		}
		had[[2]int{p.From, p.V[p.From]}]++
		return had[[2]int{p.From, p.V[p.From]}] > 1
	})
}

// TestInOrderOfMany: lists of posts of all kinds: turned at each place the vector is the same; where no two are of one site and number, the posts are, too.
func TestInOrderOfMany(t *testing.T) {
	d := dice(1103)
	came := 0
	for i := range 900 {
		list := thrownPosts(&d, i%30)
		_, want := impl.InOrder(list)
		eachTurning(list, func(turned []impl.Post) {
			if got, v := checkOrder(t, turned); !sameVec(v, want) {
				t.Fatalf("InOrder(%v) = %v, %v, but turned %v", turned, got, v, want)
			}
		})
		one := oneOfEach(list)
		posts, want := impl.InOrder(one)
		came += len(posts)
		eachTurning(one, func(turned []impl.Post) {
			if got, v := checkOrder(t, turned); !sameVec(v, want) || !samePosts(sortedPosts(got), sortedPosts(posts)) {
				t.Fatalf("InOrder(%v) = %v, %v, but turned %v, %v", turned, got, v, posts, want)
			}
		})
	}
	if came < 500 {
		t.Errorf("%d came: too few to tell", came)
	}
}

// TestInOrderWrongPosts: posts that are not in order change nothing, wherever they stand.
func TestInOrderWrongPosts(t *testing.T) {
	good := []impl.Post{post(1, 4, 1, 1, 0, 0), post(0, 1, 1, 0, 0, 0), post(0, 2, 2, 1, 0, 0)}
	want, wantV := checkOrder(t, good)
	wrong := func(name string, p impl.Post) {
		for place := range len(good) + 1 {
			list := slices.Insert(slices.Clone(good), place, p)
			if got, v := checkOrder(t, list); !samePosts(got, want) || !sameVec(v, wantV) {
				t.Errorf("%s at %d: InOrder = %v, %v, want %v, %v", name, place, got, v, want, wantV)
			}
		}
		if got, v := impl.InOrder([]impl.Post{p}); len(got) != 0 || !sameVec(v, vec(0, 0, 0, 0)) {
			t.Errorf("%s alone: InOrder = %v, %v", name, got, v)
		}
	}
	for name, bad := range badVecs() {
		for from := -1; from <= impl.MaxSites; from++ {
			wrong(name, post(from, 9, bad.V...))
		}
	}
	for _, from := range []int{-1, -2, impl.MaxSites, impl.MaxSites + 1, math.MinInt, math.MaxInt} {
		for _, v := range append(vecsBelow(2), edgeVecs()...) {
			wrong("from "+strconv.Itoa(from), post(from, 9, v.V...))
		}
	}
}

// TestInOrderOfVeryMany: a long row, in order and backward, with as many that wait in vain.
func TestInOrderOfVeryMany(t *testing.T) {
	const n = 5000
	var list []impl.Post
	for i := range n {
		list = append(list, post(i%2, i, (i+2)/2, (i+1)/2, 0, 0), post(3, -1, 0, 0, 1, i+1))
	}
	for range 2 {
		got, v := impl.InOrder(list)
		if len(got) != n || !sameVec(v, vec(n/2, n/2, 0, 0)) {
			t.Fatalf("%d came, %v", len(got), v)
		}
		for i, p := range got {
			if p.Val != i {
				t.Fatalf("at %d came %v", i, p)
			}
		}
		slices.Reverse(list)
	}
}

// roomyNums: the numbers, with spare room behind them, in which numbers lie.
func roomyNums(ns []int) []int {
	return append(slices.Clone(ns), 5, 0, 6, 7)[:len(ns)]
}

// roomyPosts: the posts, with spare room behind each of their lists; behind the last of them lie ones that might come.
func roomyPosts(list []impl.Post) []impl.Post {
	var out []impl.Post
	for _, p := range list {
		out = append(out, post(p.From, p.Val, roomyNums(p.V)...))
	}
	return append(out, post(2, 88, 0, 0, 1, 0), post(0, 99, 1, 0, 0, 0))[:len(list)]
}

func wholeNums(ns []int) []int {
	return slices.Clone(ns[:cap(ns)])
}

// wholePosts: copies of all lists of the posts, and of all that lies behind them.
func wholePosts(list []impl.Post) []impl.Post {
	out := slices.Clone(list[:cap(list)])
	for i := range out {
		out[i].V = wholeNums(out[i].V)
	}
	return out
}

func spoilPosts(list []impl.Post) {
	list = list[:cap(list)]
	for i := range list {
		spoilPlaces(list[i].V)
		list[i] = post(-7, -7, -7)
	}
}

// vecCalls: each that answers a vector, of what it takes and of what it refuses.
func vecCalls() map[string]func(a impl.Vec, b impl.Vec) impl.Vec {
	ticked := func(v impl.Vec, _ bool) impl.Vec { return v }
	return map[string]func(a impl.Vec, b impl.Vec) impl.Vec{
		"VecJoin":          impl.VecJoin,
		"VecJoin, turned":  func(a impl.Vec, b impl.Vec) impl.Vec { return impl.VecJoin(b, a) },
		"VecJoin of one":   func(a impl.Vec, b impl.Vec) impl.Vec { return impl.VecJoin(a, a) },
		"VecJoin of short": func(a impl.Vec, b impl.Vec) impl.Vec { return impl.VecJoin(vec(a.V[:3]...), b) },
		"VecTick":          func(a impl.Vec, b impl.Vec) impl.Vec { return ticked(impl.VecTick(a, 1)) },
		"VecTick at last":  func(a impl.Vec, b impl.Vec) impl.Vec { return ticked(impl.VecTick(b, 3)) },
		"VecTick nowhere":  func(a impl.Vec, b impl.Vec) impl.Vec { return ticked(impl.VecTick(a, 4)) },
		"the vector of InOrder": func(a impl.Vec, b impl.Vec) impl.Vec {
			_, v := impl.InOrder([]impl.Post{post(0, 1, a.V...), post(1, 1, b.V...)})
			return v
		},
	}
}

// clockVecs: twos of vectors, the first of which is less, the same, more, or neither.
func clockVecs() [][2]impl.Vec {
	return [][2]impl.Vec{
		{vec(1, 0, 0, 0), vec(1, 1, 0, 0)},
		{vec(1, 0, 2, 0), vec(1, 0, 2, 0)},
		{vec(3, 3, 3, 3), vec(3, 2, 3, 3)},
		{vec(1, 0, 2, 0), vec(0, 3, 2, 0)},
		{vec(0, impl.MaxTick, 0, 0), vec(0, 0, 0, impl.MaxTick)},
	}
}

// TestClocksLeaveArguments: neither arguments nor the room behind them are written by a call, or by what is done to its answer; and what lies in that room changes no answer, and is not handed out.
func TestClocksLeaveArguments(t *testing.T) {
	for _, x := range clockVecs() {
		for name, call := range vecCalls() {
			a, b := vec(roomyNums(x[0].V)...), vec(roomyNums(x[1].V)...)
			wholeA, wholeB := wholeNums(a.V), wholeNums(b.V)
			got := call(a, b)
			if want := call(x[0], x[1]); !sameVec(got, want) {
				t.Errorf("%s of %v: what lies behind a list is read: %v, want %v", name, x, got, want)
			}
			for _, n := range got.V[len(got.V):cap(got.V)] {
				if n != 0 {
					t.Errorf("%s of %v: what lies behind a list is handed out: %v", name, x, got.V[:cap(got.V)])
				}
			}
			if !impl.VecOk(a) || impl.VecCmp(a, b) != cmpBy(x[0], x[1]) || impl.MayCome(a, post(1, 1, b.V...)) != mayComeBy(x[0], post(1, 1, x[1].V...)) {
				t.Errorf("of %v: what lies behind a list is read", x)
			}
			spoilPlaces(got.V)
			if !slices.Equal(wholeNums(a.V), wholeA) || !slices.Equal(wholeNums(b.V), wholeB) {
				t.Errorf("%s of %v: written into an argument: %v, %v", name, x, a.V[:cap(a.V)], b.V[:cap(b.V)])
			}
		}
	}
	short := vec(append(make([]int, 0, 8), 1, 0, 2, 0)[:3]...)
	if impl.VecOk(short) || impl.VecCmp(short, vec(1, 0, 2, 0)) != 3 || impl.MayCome(vec(0, 0, 2, 0), post(0, 1, short.V...)) {
		t.Errorf("what lies behind a list is read: %v", short)
	}
}

// TestInOrderLeavesArguments: the same of a list of posts.
func TestInOrderLeavesArguments(t *testing.T) {
	d := dice(1107)
	for i := range 200 {
		plain := thrownPosts(&d, i%20)
		if i%2 == 0 {
			plain = sentBy(&d, i%20)
			slices.Reverse(plain)
		}
		list := roomyPosts(plain)
		whole := wholePosts(list)
		got, v := impl.InOrder(list)
		if want, wantV := impl.InOrder(plain); !samePosts(got, want) || !sameVec(v, wantV) {
			t.Fatalf("what lies behind a list is read: InOrder = %v, %v, want %v, %v", got, v, want, wantV)
		}
		for _, p := range got[:cap(got)] {
			if p.Val == 88 || p.Val == 99 || slices.ContainsFunc(p.V[len(p.V):cap(p.V)], func(n int) bool { return n != 0 }) {
				t.Fatalf("what lies behind a list is handed out: %v, %v", p, p.V[:cap(p.V)])
			}
		}
		spoilPosts(got)
		spoilPlaces(v.V)
		if !samePosts(wholePosts(list), whole) {
			t.Fatalf("written into an argument: %v, was %v", list[:cap(list)], whole)
		}
	}
}

// TestClocksNewMemory: what is done to an answer changes no later one.
func TestClocksNewMemory(t *testing.T) {
	for _, x := range clockVecs() {
		for name, call := range vecCalls() {
			first, other := call(x[0], x[1]), call(x[0], x[1])
			want := slices.Clone(first.V)
			spoilPlaces(other.V)
			if again := call(x[0], x[1]); !slices.Equal(first.V, want) || !slices.Equal(again.V, want) {
				t.Errorf("%s of %v: two answers share memory: %v, %v, want %v", name, x, first, again, want)
			}
		}
	}
}

// TestInOrderNewMemory: no two lists of an answer share any, also where those of the posts do; nor do those of two answers.
func TestInOrderNewMemory(t *testing.T) {
	room := []int{0, 0, 0, 1, 0, 0, 0}
	lists := map[string][]impl.Post{
		"Vs that share":      {post(3, 1, room[:4]...), post(2, 2, room[1:5]...), post(1, 3, room[2:6]...), post(0, 4, room[3:7]...)},
		"one":                {post(0, 1, 1, 0, 0, 0)},
		"the last had all":   {post(1, 2, 1, 1, 0, 0), post(0, 1, 1, 0, 0, 0)},
		"the same twice":     {post(0, 1, room[3:7]...), post(0, 1, room[3:7]...)},
		"none":               nil,
		"one that never may": {post(0, 1, 2, 0, 0, 0)},
	}
	d := dice(1109)
	lists["a course"] = sentBy(&d, 12)
	for name, list := range lists {
		ask := func() ([]impl.Post, [][]int) {
			got, v := impl.InOrder(list)
			nums := [][]int{v.V}
			for _, p := range got {
				nums = append(nums, p.V)
			}
			return got, nums
		}
		want, wantNums := ask()
		for i := range wantNums {
			_, nums := ask()
			spoilPlaces(nums[i])
			for j := range nums {
				if j != i && !slices.Equal(nums[j], wantNums[j]) {
					t.Errorf("%s: lists %d and %d of the answer share memory", name, i, j)
				}
			}
		}
		got, nums := ask()
		spoilPosts(got)
		spoilPlaces(nums[0])
		if again, againNums := ask(); !samePosts(again, want) || !slices.Equal(againNums[0], wantNums[0]) {
			t.Errorf("%s: two answers share memory: %v, want %v", name, again, want)
		}
	}
}

// TestClocksSameEachTime: no call keeps anything for another one.
func TestClocksSameEachTime(t *testing.T) {
	d := dice(1111)
	list := sentBy(&d, 15)
	slices.Reverse(list)
	want, wantV := impl.InOrder(list)
	for range 40 {
		impl.InOrder(thrownPosts(&d, 20))
		impl.VecTick(vec(1, 1, 1, 1), d.below(5))
		if got, v := checkOrder(t, list); !samePosts(got, want) || !sameVec(v, wantV) {
			t.Fatalf("InOrder(%v) = %v, %v, then %v, %v", list, want, wantV, got, v)
		}
	}
}
