package tests

import (
	"fmt"
	"math"
	"math/big"
	"runtime"
	"slices"
	"strings"
	"testing"

	"loop.example/g00579/impl"
)

func doPut(site int, key int, val int, mask int) impl.Act {
	return impl.Act{Kind: impl.AcPut, A: site, B: key, C: val, D: mask}
}

func doDel(site int, key int, mask int) impl.Act {
	return impl.Act{Kind: impl.AcDel, A: site, B: key, D: mask}
}

func doGet(site int, key int) impl.Act {
	return impl.Act{Kind: impl.AcGet, A: site, B: key}
}

func doSnap(site int, mask int) impl.Act {
	return impl.Act{Kind: impl.AcSnap, A: site, D: mask}
}

func doDeliver(place int) impl.Act {
	return impl.Act{Kind: impl.AcDeliver, A: place}
}

func doDrop(place int) impl.Act {
	return impl.Act{Kind: impl.AcDrop, A: place}
}

func doTwice(place int) impl.Act {
	return impl.Act{Kind: impl.AcTwice, A: place}
}

func doSync(a int, b int) impl.Act {
	return impl.Act{Kind: impl.AcSync, A: a, B: b}
}

func doFetch(site int, store int) impl.Act {
	return impl.Act{Kind: impl.AcFetch, A: site, B: store}
}

func doBreak(site int, key int, val int, mask int, e int) impl.Act {
	return impl.Act{Kind: impl.AcBreak, A: site, B: key, C: val, D: mask, E: e}
}

// A told course: each act taken by the words of the chapter, without the program's Run.
type told struct {
	impl.Outcome
}

func toldNew(sites int, reps int) *told {
	c := &told{}
	for site := range sites {
		c.Shims = append(c.Shims, impl.Shim{Site: site, Last: -1})
	}
	c.Reps = make([]impl.Rep, reps)
	return c
}

func (c *told) act(a impl.Act) {
	if c.isNone(a) {
		c.Replies = append(c.Replies, impl.Reply{Code: impl.RpAct})
		return
	}
	c.Replies = append(c.Replies, c.taken(a))
}

func (c *told) isNone(a impl.Act) bool {
	place := func(n int, of int) bool { return n >= 0 && n < of }
	site, key := place(a.A, len(c.Shims)), place(a.B, impl.MaxKeys)
	val, mask := a.C >= -impl.MaxVal && a.C <= impl.MaxVal, a.D >= 0 && a.D <= allKeys
	switch a.Kind {
	case impl.AcPut, impl.AcBreak:
		return !site || !key || !val || !mask
	case impl.AcDel:
		return !site || !key || !mask
	case impl.AcGet:
		return !site || !key
	case impl.AcSnap:
		return !site || !mask
	case impl.AcDeliver, impl.AcDrop, impl.AcTwice:
		return !place(a.A, len(c.Net))
	case impl.AcSync:
		return !place(a.A, len(c.Reps)) || !place(a.B, len(c.Reps))
	case impl.AcFetch:
		return !site || !place(a.B, len(c.Reps))
	}
	return true
}

func (c *told) taken(a impl.Act) impl.Reply {
	switch a.Kind {
	case impl.AcPut:
		return c.written(a, a.C, false)
	case impl.AcDel:
		return c.written(a, 0, true)
	case impl.AcBreak:
		return c.broken(a)
	case impl.AcGet, impl.AcSnap:
		return c.shown(a)
	case impl.AcSync:
		both := joined(c.Reps[a.A].M, c.Reps[a.B].M)
		c.Reps[a.A].M, c.Reps[a.B].M = both, both
		return impl.Reply{}
	case impl.AcFetch:
		c.Shims[a.A] = seenBy(c.Shims[a.A], c.Reps[a.B].M)
		return impl.Reply{}
	}
	return c.moved(a)
}

func (c *told) written(a impl.Act, val int, dead bool) impl.Reply {
	if len(c.Net)+len(c.Reps) > 300 {
		return impl.Reply{Code: impl.RpFull}
	}
	next, w := putBy(c.Shims[a.A], a.B, val, dead, a.D)
	c.Shims[a.A] = next
	for to := range c.Reps {
		c.Net = append(c.Net, impl.Msg{To: to, W: w})
	}
	return impl.Reply{Ws: []impl.Write{w}}
}

// broken: a batch that is not whole is none, so the site is as it was.
func (c *told) broken(a impl.Act) impl.Reply {
	next, w := putBy(c.Shims[a.A], a.B, a.C, false, a.D)
	size := len(next.Log) - len(c.Shims[a.A].Log)
	left := new(big.Int).Mod(big.NewInt(int64(a.E)), big.NewInt(int64(size+1)))
	if left.Int64() < int64(size) {
		return impl.Reply{Code: impl.RpBroke}
	}
	c.Shims[a.A] = next
	return impl.Reply{Code: impl.RpBroke, Ws: []impl.Write{w}}
}

func (c *told) shown(a impl.Act) impl.Reply {
	mask := a.D
	if a.Kind == impl.AcGet {
		mask = 1 << a.B
	}
	var ws []impl.Write
	for _, w := range c.Shims[a.A].Local {
		if mask/(1<<w.Key)%2 == 1 {
			ws = append(ws, w)
		}
	}
	if a.Kind == impl.AcGet && len(ws) == 0 {
		return impl.Reply{Code: impl.RpNone}
	}
	return impl.Reply{Ws: ws}
}

func (c *told) moved(a impl.Act) impl.Reply {
	m := c.Net[a.A]
	if a.Kind == impl.AcTwice {
		if len(c.Net) == 300 {
			return impl.Reply{Code: impl.RpFull}
		}
		c.Net = append(c.Net, m)
		return impl.Reply{}
	}
	c.Net = slices.Concat(c.Net[:a.A], c.Net[a.A+1:])
	if a.Kind == impl.AcDeliver {
		c.Reps[m.To].M = joined(c.Reps[m.To].M, []impl.Write{m.W})
	}
	return impl.Reply{}
}

func sameReply(a impl.Reply, b impl.Reply) bool {
	return a.Code == b.Code && sameList(a.Ws, b.Ws)
}

func sameOutcome(a impl.Outcome, b impl.Outcome) bool {
	return slices.EqualFunc(a.Replies, b.Replies, sameReply) && slices.EqualFunc(a.Shims, b.Shims, sameShim) &&
		slices.EqualFunc(a.Reps, b.Reps, func(x impl.Rep, y impl.Rep) bool { return sameList(x.M, y.M) }) &&
		slices.EqualFunc(a.Net, b.Net, func(x impl.Msg, y impl.Msg) bool { return x.To == y.To && sameWrite(x.W, y.W) })
}

// checkRun: what comes of the acts is what the words of the chapter say.
func checkRun(t *testing.T, sites int, reps int, acts []impl.Act) impl.Outcome {
	t.Helper()
	c := toldNew(sites, reps)
	for _, a := range acts {
		c.act(a)
	}
	got, ok := impl.Run(sites, reps, acts)
	if !ok || !sameOutcome(got, c.Outcome) {
		t.Fatalf("Run(%d, %d, %v) = %v, %v, want %v", sites, reps, acts, got, ok, c.Outcome)
	}
	return got
}

// checkCourse: behind each act all is as the words of the chapter say, and promise 8 holds.
func checkCourse(t *testing.T, sites int, reps int, acts []impl.Act) impl.Outcome {
	t.Helper()
	c := toldNew(sites, reps)
	was, ok := impl.Run(sites, reps, nil)
	if !ok || !sameOutcome(was, c.Outcome) {
		t.Fatalf("Run(%d, %d) of no acts = %v, %v", sites, reps, was, ok)
	}
	for i, a := range acts {
		c.act(a)
		now, ok := impl.Run(sites, reps, acts[:i+1])
		if !ok || !sameOutcome(now, c.Outcome) {
			t.Fatalf("Run(%d, %d, %v) = %v, %v, want %v", sites, reps, acts[:i+1], now, ok, c.Outcome)
		}
		checkPromise(t, acts[:i+1], was, now)
		was = now
	}
	return was
}

// writtenIn: what was written in the acts, in order.
func writtenIn(acts []impl.Act, replies []impl.Reply) []impl.Write {
	var list []impl.Write
	for i, r := range replies {
		if k := acts[i].Kind; k == impl.AcPut || k == impl.AcDel || k == impl.AcBreak {
			list = append(list, r.Ws...)
		}
	}
	return list
}

// allCauses: of the writes those because of which w is, however far; false where one of them was not written.
func allCauses(written []impl.Write, w impl.Write) ([]impl.Write, bool) {
	var list []impl.Write
	ask := slices.Clone(w.Deps)
	for len(ask) > 0 {
		d := ask[0]
		ask = ask[1:]
		i := slices.IndexFunc(written, func(o impl.Write) bool { return o.Key == d.Key && o.T == d.T })
		if i < 0 {
			return nil, false
		}
		if !slices.ContainsFunc(list, func(o impl.Write) bool { return sameWrite(o, written[i]) }) {
			list = append(list, written[i])
			ask = append(ask, written[i].Deps...)
		}
	}
	return list, true
}

// depsOf: the keys and tags of the writes, which a map must cover to be as late.
func depsOf(list []impl.Write) []impl.Dep {
	var deps []impl.Dep
	for _, w := range list {
		deps = append(deps, impl.Dep{Key: w.Key, T: w.T})
	}
	return deps
}

// checkPromise: was and now are what stood ahead of the last of the acts and behind it.
func checkPromise(t *testing.T, acts []impl.Act, was impl.Outcome, now impl.Outcome) {
	t.Helper()
	written := writtenIn(acts, now.Replies)
	known := func(list []impl.Write) {
		for _, w := range list {
			if !slices.ContainsFunc(written, func(o impl.Write) bool { return sameWrite(o, w) }) {
				t.Fatalf("behind %v: nobody wrote %v", acts, w)
			}
		}
	}
	for i, s := range now.Shims {
		if !isCut(s.Local) || !impl.IsCut(s.Local) || !impl.ShimOk(s) {
			t.Fatalf("behind %v: site %d shows no cut: %v", acts, i, s.Local)
		}
		if back := impl.ShimBack(i, s.Log); !sameShim(back, s) {
			t.Fatalf("behind %v: the log of %v brings back %v", acts, s, back)
		}
		if !covers(s.Local, depsOf(was.Shims[i].Local)) || !strings.HasPrefix(s.Log, was.Shims[i].Log) {
			t.Fatalf("behind %v: site %d goes back from %v to %v", acts, i, was.Shims[i], s)
		}
		own := slices.DeleteFunc(slices.Clone(written), func(w impl.Write) bool { return w.T.Site != i })
		if !covers(s.Local, depsOf(own)) {
			t.Fatalf("behind %v: site %d wrote %v but shows %v", acts, i, own, s.Local)
		}
		for _, w := range s.Local {
			causes, ok := allCauses(written, w)
			if !ok || !covers(s.Local, depsOf(causes)) {
				t.Fatalf("behind %v: site %d shows %v without a cause of it: %v", acts, i, w, s.Local)
			}
		}
		known(s.Local)
	}
	for _, r := range now.Reps {
		known(r.M)
	}
	for _, m := range now.Net {
		known([]impl.Write{m.W})
	}
	known(now.Replies[len(acts)-1].Ws)
}

// codesOf: the codes of the replies.
func codesOf(replies []impl.Reply) []int {
	var codes []int
	for _, r := range replies {
		codes = append(codes, r.Code)
	}
	return codes
}

// netOf: of what is on its way, for each message to which store, and which value.
func netOf(net []impl.Msg) [][2]int {
	var list [][2]int
	for _, m := range net {
		list = append(list, [2]int{m.To, m.W.Val})
	}
	return list
}

// full: acts behind which MaxNet messages are on their way, to three stores.
func full() []impl.Act {
	var acts []impl.Act
	for i := range impl.MaxNet / impl.MaxReps {
		acts = append(acts, doPut(i%impl.MaxSites, i%impl.MaxKeys, i, 0))
	}
	return acts
}

func TestRunNew(t *testing.T) {
	for sites := 1; sites <= impl.MaxSites; sites++ {
		for reps := 1; reps <= impl.MaxReps; reps++ {
			for _, acts := range [][]impl.Act{nil, {}} {
				out := checkRun(t, sites, reps, acts)
				if len(out.Shims) != sites || len(out.Reps) != reps || len(out.Replies) != 0 || len(out.Net) != 0 {
					t.Errorf("Run(%d, %d) of no acts = %v", sites, reps, out)
				}
				for i, s := range out.Shims {
					if !sameShim(s, impl.ShimNew(i)) {
						t.Errorf("site %d of %d at first: %v", i, sites, s)
					}
				}
			}
		}
	}
}

func TestRunPut(t *testing.T) {
	w := put(2, tag(1, 1, 1), 7)
	out := checkCourse(t, 3, 3, []impl.Act{doPut(1, 2, 7, 0)})
	want := impl.Outcome{
		Replies: []impl.Reply{{Ws: []impl.Write{w}}},
		Shims:   []impl.Shim{{Last: -1}, {Site: 1, Clock: 1, Seq: 1, Last: 2, Local: []impl.Write{w}, Log: logText([]impl.Write{w})}, {Site: 2, Last: -1}},
		Reps:    make([]impl.Rep, 3),
		Net:     []impl.Msg{{To: 0, W: w}, {To: 1, W: w}, {To: 2, W: w}},
	}
	if !sameOutcome(out, want) {
		t.Errorf("a put: %v, want %v", out, want)
	}
	x, y := put(0, tag(2, 1, 2), -impl.MaxVal, dep(2, 1, 1, 1)), put(5, tag(1, 0, 1), impl.MaxVal)
	z := put(2, tag(3, 1, 3), 0, dep(0, 2, 1, 2), dep(2, 1, 1, 1))
	out = checkCourse(t, 2, 2, []impl.Act{doPut(1, 2, 7, 0), doPut(1, 0, -impl.MaxVal, 0), doPut(0, 5, impl.MaxVal, allKeys), doPut(1, 2, 0, 1<<2)})
	want = impl.Outcome{
		Replies: []impl.Reply{{Ws: []impl.Write{w}}, {Ws: []impl.Write{x}}, {Ws: []impl.Write{y}}, {Ws: []impl.Write{z}}},
		Shims: []impl.Shim{
			{Clock: 1, Seq: 1, Last: 5, Local: []impl.Write{y}, Log: logText([]impl.Write{y})},
			{Site: 1, Clock: 3, Seq: 3, Last: 2, Local: []impl.Write{x, z}, Log: logText([]impl.Write{w}) + logText([]impl.Write{x}) + logText([]impl.Write{z})},
		},
		Reps: make([]impl.Rep, 2),
		Net:  []impl.Msg{{To: 0, W: w}, {To: 1, W: w}, {To: 0, W: x}, {To: 1, W: x}, {To: 0, W: y}, {To: 1, W: y}, {To: 0, W: z}, {To: 1, W: z}},
	}
	if !sameOutcome(out, want) {
		t.Errorf("several puts: %v, want %v", out, want)
	}
}

func TestRunDel(t *testing.T) {
	w, x := put(4, tag(1, 0, 1), 9), gone(4, tag(2, 0, 2), dep(4, 1, 0, 1))
	out := checkCourse(t, 1, 1, []impl.Act{doPut(0, 4, 9, 0), doDel(0, 4, 0), doGet(0, 4), doDeliver(0), doDeliver(0)})
	if !sameList(out.Replies[1].Ws, []impl.Write{x}) || !sameList(out.Replies[2].Ws, []impl.Write{x}) || !sameList(out.Reps[0].M, []impl.Write{x}) {
		t.Errorf("a put and a dead one: %v", out)
	}
	if got := out.Shims[0].Log; got != logText([]impl.Write{w})+logText([]impl.Write{x}) {
		t.Errorf("a put and a dead one in the log: %q", got)
	}
	// A dead one has no value: what C says is not asked.
	for _, c := range []int{1, -1, impl.MaxVal, impl.MaxVal + 1, math.MinInt, math.MaxInt} {
		act := doDel(0, 4, 0)
		act.C = c
		if out := checkRun(t, 1, 1, []impl.Act{act}); !sameReply(out.Replies[0], impl.Reply{Ws: []impl.Write{gone(4, tag(1, 0, 1))}}) {
			t.Errorf("C %d: %v", c, out.Replies)
		}
	}
}

// TestRunPuts: each site, key and mask, and the values at the edges.
func TestRunPuts(t *testing.T) {
	start := []impl.Act{doPut(0, 0, 1, 0), doPut(1, 3, 2, 0), doPut(2, 5, 3, 0), doPut(3, 0, 4, 0)}
	for i := range start {
		start = append(start, doDeliver(i))
	}
	for site := range impl.MaxSites {
		start = append(start, doFetch(site, 0))
	}
	for site := range impl.MaxSites {
		for key := range impl.MaxKeys {
			for mask := range allKeys + 1 {
				val := []int{-impl.MaxVal, -1, 0, 1, impl.MaxVal}[mask%5]
				acts := slices.Concat(start, []impl.Act{doPut(site, key, val, mask), doDel(site, key, mask)})
				out := checkRun(t, impl.MaxSites, 1, acts)
				for i, r := range out.Replies[len(start):] {
					if r.Code != impl.RpOK || len(r.Ws) != 1 || r.Ws[0].Key != key || r.Ws[0].Val != val*(1-i) || r.Ws[0].Dead != (i == 1) {
						t.Fatalf("%v: %v", acts[len(start)+i], r)
					}
				}
			}
		}
	}
}

func TestRunGet(t *testing.T) {
	w := put(2, tag(1, 0, 1), 7)
	acts := []impl.Act{doPut(0, 2, 7, 0)}
	for site := range 2 {
		for key := range impl.MaxKeys {
			acts = append(acts, doGet(site, key))
		}
	}
	out := checkCourse(t, 2, 1, acts)
	for i, r := range out.Replies[1:] {
		want := impl.Reply{Code: impl.RpNone}
		if i == 2 {
			want = impl.Reply{Ws: []impl.Write{w}}
		}
		if !sameReply(r, want) {
			t.Errorf("%v: %v, want %v", acts[i+1], r, want)
		}
	}
}

func TestRunSnap(t *testing.T) {
	start := []impl.Act{doPut(0, 4, 7, 0), doPut(0, 1, 8, 0), doDel(0, 2, 0)}
	for mask := range allKeys + 1 {
		out := checkRun(t, 2, 1, slices.Concat(start, []impl.Act{doSnap(0, mask), doSnap(1, mask)}))
		var want []impl.Write
		for _, w := range []impl.Write{out.Replies[1].Ws[0], out.Replies[2].Ws[0], out.Replies[0].Ws[0]} {
			if mask>>w.Key&1 == 1 {
				want = append(want, w)
			}
		}
		if !sameReply(out.Replies[3], impl.Reply{Ws: want}) || !sameReply(out.Replies[4], impl.Reply{}) {
			t.Errorf("mask %d: %v, %v, want %v", mask, out.Replies[3], out.Replies[4], want)
		}
	}
	checkCourse(t, 2, 1, append(start, doSnap(0, allKeys), doSnap(1, allKeys), doSnap(0, 0)))
}

// TestRunNet: what is on its way behind each act.
func TestRunNet(t *testing.T) {
	var acts []impl.Act
	var reps [2][]int
	for i, c := range []struct {
		act  impl.Act
		want [][2]int
		came [2][]int
	}{
		{doPut(0, 0, 10, 0), [][2]int{{0, 10}, {1, 10}}, [2][]int{}},
		{doPut(1, 1, 11, 0), [][2]int{{0, 10}, {1, 10}, {0, 11}, {1, 11}}, [2][]int{}},
		{doGet(0, 0), [][2]int{{0, 10}, {1, 10}, {0, 11}, {1, 11}}, [2][]int{}},
		{doTwice(1), [][2]int{{0, 10}, {1, 10}, {0, 11}, {1, 11}, {1, 10}}, [2][]int{}},
		{doTwice(4), [][2]int{{0, 10}, {1, 10}, {0, 11}, {1, 11}, {1, 10}, {1, 10}}, [2][]int{}},
		{doTwice(0), [][2]int{{0, 10}, {1, 10}, {0, 11}, {1, 11}, {1, 10}, {1, 10}, {0, 10}}, [2][]int{}},
		{doDeliver(3), [][2]int{{0, 10}, {1, 10}, {0, 11}, {1, 10}, {1, 10}, {0, 10}}, [2][]int{1: {11}}},
		{doDrop(0), [][2]int{{1, 10}, {0, 11}, {1, 10}, {1, 10}, {0, 10}}, [2][]int{}},
		{doDeliver(0), [][2]int{{0, 11}, {1, 10}, {1, 10}, {0, 10}}, [2][]int{1: {10}}},
		{doDeliver(2), [][2]int{{0, 11}, {1, 10}, {0, 10}}, [2][]int{}},
		{doPut(0, 2, 12, 0), [][2]int{{0, 11}, {1, 10}, {0, 10}, {0, 12}, {1, 12}}, [2][]int{}},
		{doBreak(0, 3, 13, 0, -1), [][2]int{{0, 11}, {1, 10}, {0, 10}, {0, 12}, {1, 12}}, [2][]int{}},
		{doSync(1, 1), [][2]int{{0, 11}, {1, 10}, {0, 10}, {0, 12}, {1, 12}}, [2][]int{}},
		{doFetch(0, 1), [][2]int{{0, 11}, {1, 10}, {0, 10}, {0, 12}, {1, 12}}, [2][]int{}},
		{doDrop(4), [][2]int{{0, 11}, {1, 10}, {0, 10}, {0, 12}}, [2][]int{}},
		{doDeliver(3), [][2]int{{0, 11}, {1, 10}, {0, 10}}, [2][]int{0: {12}}},
		{doDrop(1), [][2]int{{0, 11}, {0, 10}}, [2][]int{}},
		{doDeliver(0), [][2]int{{0, 10}}, [2][]int{0: {11}}},
		{doDeliver(0), nil, [2][]int{0: {10}}},
		{doDeliver(0), nil, [2][]int{}},
	} {
		acts = append(acts, c.act)
		out := checkRun(t, 2, 2, acts)
		if !slices.Equal(netOf(out.Net), c.want) {
			t.Fatalf("act %d, %v: on their way are %v, want %v", i, c.act, netOf(out.Net), c.want)
		}
		for n := range reps {
			reps[n] = slices.Sorted(slices.Values(append(reps[n], c.came[n]...)))
			var vals []int
			for _, w := range out.Reps[n].M {
				vals = append(vals, w.Val)
			}
			if slices.Sort(vals); !slices.Equal(vals, reps[n]) {
				t.Fatalf("act %d, %v: store %d has %v, want %v", i, c.act, n, vals, reps[n])
			}
		}
	}
	checkCourse(t, 2, 2, acts)
}

// TestRunForgets: a store keeps of a key the last write, in whichever order they come, doubled or not.
func TestRunForgets(t *testing.T) {
	puts := []impl.Act{doPut(0, 3, 1, 0), doPut(0, 3, 2, 0), doPut(0, 3, 3, 0)}
	for name, c := range map[string]struct {
		come []impl.Act
		val  int
	}{
		"in order":          {[]impl.Act{doDeliver(0), doDeliver(0), doDeliver(0)}, 3},
		"the last first":    {[]impl.Act{doDeliver(2), doDeliver(1), doDeliver(0)}, 3},
		"without the last":  {[]impl.Act{doDeliver(1), doDeliver(0)}, 2},
		"the last is lost":  {[]impl.Act{doDrop(2), doDeliver(0), doDeliver(0)}, 2},
		"the first is late": {[]impl.Act{doDeliver(1), doTwice(0), doDeliver(0), doDeliver(1)}, 2},
		"the last twice":    {[]impl.Act{doTwice(2), doDeliver(2), doDeliver(0), doDeliver(1)}, 3},
	} {
		out := checkCourse(t, 1, 1, slices.Concat(puts, c.come))
		if len(out.Reps[0].M) != 1 || out.Reps[0].M[0].Val != c.val {
			t.Errorf("%s: the store has %v", name, out.Reps[0].M)
		}
	}
}

func TestRunSync(t *testing.T) {
	// Store 0 has key 0 of site 0 and an early key 1, store 1 a late key 1 and key 2, store 2 key 3.
	start := []impl.Act{
		doPut(0, 0, 10, 0), doDeliver(0), doDrop(0), doDrop(0),
		doPut(0, 1, 11, 0), doDeliver(0), doDrop(0), doDrop(0),
		doPut(0, 1, 12, 0), doDrop(0), doDeliver(0), doDrop(0),
		doPut(1, 2, 13, 0), doDrop(0), doDeliver(0), doDrop(0),
		doPut(1, 3, 14, 0), doDrop(0), doDrop(0), doDeliver(0),
	}
	has := [][]int{{10, 11}, {12, 13}, {14}}
	for _, c := range []struct {
		a, b int
		want []int
	}{
		{0, 1, []int{10, 12, 13}}, {1, 0, []int{10, 12, 13}}, {0, 2, []int{10, 11, 14}}, {2, 0, []int{10, 11, 14}},
		{1, 2, []int{12, 13, 14}}, {2, 1, []int{12, 13, 14}}, {0, 0, []int{10, 11}}, {1, 1, []int{12, 13}}, {2, 2, []int{14}},
	} {
		out := checkRun(t, 2, 3, append(start, doSync(c.a, c.b)))
		for i, r := range out.Reps {
			want := has[i]
			if i == c.a || i == c.b {
				want = c.want
			}
			var vals []int
			for _, w := range r.M {
				vals = append(vals, w.Val)
			}
			if !slices.Equal(vals, want) {
				t.Errorf("stores %d and %d: store %d has %v, want %v", c.a, c.b, i, vals, want)
			}
		}
		if r := out.Replies[len(start)]; !sameReply(r, impl.Reply{}) || len(out.Net) != 0 {
			t.Errorf("stores %d and %d: %v, %v", c.a, c.b, r, out.Net)
		}
	}
	out := checkCourse(t, 2, 3, append(start, doSync(0, 1), doSync(1, 2), doSync(2, 0), doFetch(0, 0), doFetch(1, 0), doSync(0, 1)))
	for i, r := range out.Reps {
		if len(r.M) != 4 || !sameList(r.M, out.Shims[0].Local) || !sameList(r.M, out.Shims[1].Local) {
			t.Errorf("all joined: store %d has %v, the sites %v", i, r.M, out.Shims)
		}
	}
}

// TestRunFetch: what a store has is held until its causes are there, wherever they come from.
func TestRunFetch(t *testing.T) {
	acts := []impl.Act{doPut(0, 0, 5, 0), doPut(0, 1, 6, 0), doPut(0, 2, 7, 0)}
	for _, c := range []struct {
		act  impl.Act
		want int
	}{
		{doFetch(1, 0), 0},
		{doDeliver(4), 0}, // key 2 comes to store 0
		{doFetch(1, 0), 0},
		{doDeliver(3), 0}, // key 1 comes to store 1
		{doFetch(1, 1), 0},
		{doDeliver(1), 0}, // key 0 comes to store 1
		{doFetch(1, 0), 0},
		{doFetch(1, 1), 2},
		{doFetch(1, 1), 2},
		{doFetch(1, 0), 3},
		{doFetch(1, 1), 3},
		{doFetch(0, 0), 3},
	} {
		acts = append(acts, c.act)
		out := checkRun(t, 2, 2, acts)
		if r := out.Replies[len(acts)-1]; !sameReply(r, impl.Reply{}) || len(out.Shims[1].Local) != c.want {
			t.Fatalf("%v: %v, site 1 shows %v", c.act, r, out.Shims[1].Local)
		}
	}
	out := checkCourse(t, 2, 2, acts)
	if !sameList(out.Shims[0].Local, out.Shims[1].Local) || out.Shims[1].Clock != 3 || out.Shims[1].Seq != 0 || out.Shims[1].Last != -1 {
		t.Errorf("all was seen: %v", out.Shims)
	}
	// The store forgets the cause for a later write of its key, which itself lacks something: neither that nor the effect is shown.
	acts = []impl.Act{doPut(0, 0, 1, 0), doDeliver(0), doFetch(1, 0), doPut(1, 1, 2, 1), doDeliver(0), doPut(0, 2, 3, 0), doDrop(0), doPut(0, 0, 4, 0), doDeliver(0), doFetch(2, 0), doGet(2, 1)}
	if out := checkCourse(t, 3, 1, acts); len(out.Shims[2].Local) != 0 || out.Replies[10].Code != impl.RpNone {
		t.Errorf("what was forgotten is lacking: %v", out.Shims[2])
	}
}

// TestRunBreak: a site that breaks down at each byte of what it puts behind its log.
func TestRunBreak(t *testing.T) {
	for name, start := range map[string][]impl.Act{
		"at first":    nil,
		"behind some": {doPut(1, 4, 3, 0), doPut(0, 3, 9, 0), doDeliver(0), doFetch(1, 0), doPut(1, 5, -8, allKeys)},
		"once more":   {doPut(1, 4, 3, 0), doBreak(1, 2, 1, 0, 20), doBreak(1, 0, 1, 0, -1)},
	} {
		ahead := checkRun(t, 2, 1, start)
		next, w := putBy(ahead.Shims[1], 2, 77, false, 1<<4)
		size := len(next.Log) - len(ahead.Shims[1].Log)
		for left := range size + 1 {
			for _, e := range []int{left, left + size + 1, left - (size + 1), left + 1000*(size+1), left - 1000*(size+1)} {
				out := checkRun(t, 2, 1, append(start, doBreak(1, 2, 77, 1<<4, e)))
				want := impl.Reply{Code: impl.RpBroke}
				site := ahead.Shims[1]
				if left == size {
					want.Ws, site = []impl.Write{w}, next
				}
				if got := out.Replies[len(start)]; !sameReply(got, want) || !sameShim(out.Shims[1], site) || !sameShim(out.Shims[0], ahead.Shims[0]) {
					t.Fatalf("%s, E %d of %d: %v, %v, want %v, %v", name, e, size, got, out.Shims[1], want, site)
				}
				if len(out.Net) != len(ahead.Net) || !sameList(out.Reps[0].M, ahead.Reps[0].M) {
					t.Fatalf("%s, E %d of %d: %v, %v", name, e, size, out.Net, out.Reps)
				}
			}
		}
		for _, e := range []int{math.MinInt, math.MinInt + 1, math.MaxInt - 1, math.MaxInt} {
			checkCourse(t, 2, 1, append(start, doBreak(1, 2, 77, 1<<4, e), doGet(1, 2)))
		}
	}
}

// TestRunBehindBreak: what a site that broke down does then: what was lost is written by no one, what was kept is shown, but nothing says it to others.
func TestRunBehindBreak(t *testing.T) {
	rest := []impl.Act{doGet(0, 0), doPut(0, 1, 6, 0), doDeliver(0), doFetch(1, 0), doSnap(1, allKeys)}
	lost := checkCourse(t, 2, 1, append([]impl.Act{doBreak(0, 0, 5, 0, 10)}, rest...))
	w := put(1, tag(1, 0, 1), 6)
	if !slices.Equal(codesOf(lost.Replies), []int{impl.RpBroke, impl.RpNone, 0, 0, 0, 0}) || !sameList(lost.Replies[5].Ws, []impl.Write{w}) {
		t.Errorf("a write that is lost: %v", lost.Replies)
	}
	kept := checkCourse(t, 2, 1, append([]impl.Act{doBreak(0, 0, 5, 0, -1)}, rest...))
	x := put(1, tag(2, 0, 2), 6, dep(0, 1, 0, 1))
	if !slices.Equal(codesOf(kept.Replies), []int{impl.RpBroke, 0, 0, 0, 0, 0}) || !sameList(kept.Replies[2].Ws, []impl.Write{x}) || len(kept.Replies[5].Ws) != 0 {
		t.Errorf("a write that is kept: %v", kept.Replies)
	}
	if !sameList(kept.Reps[0].M, []impl.Write{x}) || len(kept.Shims[0].Local) != 2 {
		t.Errorf("a write that is kept: %v", kept)
	}
}

// TestRunMaxNet: MaxNet messages on their way and one more, with what comes beside each code.
func TestRunMaxNet(t *testing.T) {
	start := full()
	ahead := checkRun(t, impl.MaxSites, impl.MaxReps, start)
	if len(ahead.Net) != impl.MaxNet || slices.Max(codesOf(ahead.Replies)) != impl.RpOK {
		t.Fatalf("%d messages on their way", len(ahead.Net))
	}
	for name, c := range map[string]struct {
		acts  []impl.Act
		codes []int
		net   int
	}{
		"a put":                     {[]impl.Act{doPut(0, 1, 5, 0)}, []int{impl.RpFull}, 300},
		"a dead one":                {[]impl.Act{doDel(0, 1, 0)}, []int{impl.RpFull}, 300},
		"twice":                     {[]impl.Act{doTwice(0)}, []int{impl.RpFull}, 300},
		"twice, the last":           {[]impl.Act{doTwice(299)}, []int{impl.RpFull}, 300},
		"one past":                  {[]impl.Act{doTwice(300), doDrop(300), doDeliver(300)}, []int{impl.RpAct, impl.RpAct, impl.RpAct}, 300},
		"a break":                   {[]impl.Act{doBreak(0, 1, 5, 0, 0), doBreak(0, 1, 5, 0, -1)}, []int{impl.RpBroke, impl.RpBroke}, 300},
		"room for one":              {[]impl.Act{doDrop(299), doPut(0, 1, 5, 0), doTwice(298), doTwice(0)}, []int{0, impl.RpFull, 0, impl.RpFull}, 300},
		"room for two":              {[]impl.Act{doDeliver(0), doDeliver(0), doDel(0, 1, 0), doTwice(1)}, []int{0, 0, impl.RpFull, 0}, 299},
		"room for three":            {[]impl.Act{doDeliver(0), doDrop(0), doDeliver(0), doPut(0, 1, 5, 0), doPut(0, 1, 5, 0)}, []int{0, 0, 0, 0, impl.RpFull}, 300},
		"all else":                  {[]impl.Act{doGet(0, 0), doSnap(0, 63), doFetch(0, 0), doSync(0, 1)}, []int{0, 0, 0, 0}, 300},
		"full, and no site":         {[]impl.Act{doPut(4, 1, 5, 0), doDel(-1, 1, 0)}, []int{impl.RpAct, impl.RpAct}, 300},
		"full, and no key":          {[]impl.Act{doPut(0, 6, 5, 0), doDel(0, -1, 0)}, []int{impl.RpAct, impl.RpAct}, 300},
		"full, and no value":        {[]impl.Act{doPut(0, 1, impl.MaxVal+1, 0)}, []int{impl.RpAct}, 300},
		"full, and no mask":         {[]impl.Act{doPut(0, 1, 5, 64), doDel(0, 1, -1)}, []int{impl.RpAct, impl.RpAct}, 300},
		"full, and then room again": {[]impl.Act{doTwice(0), doDrop(0), doDrop(0), doDrop(0), doPut(3, 3, 3, 3)}, []int{impl.RpFull, 0, 0, 0, 0}, 300},
	} {
		out := checkRun(t, impl.MaxSites, impl.MaxReps, slices.Concat(start, c.acts))
		if got := codesOf(out.Replies[len(start):]); !slices.Equal(got, c.codes) || len(out.Net) != c.net {
			t.Errorf("%s: codes %v, want %v, %d on their way", name, got, c.codes, len(out.Net))
		}
		for _, r := range out.Replies[len(start):] {
			if (r.Code == impl.RpFull || r.Code == impl.RpAct) && len(r.Ws) != 0 {
				t.Errorf("%s: beside %d comes %v", name, r.Code, r.Ws)
			}
		}
	}
	for _, act := range []impl.Act{doPut(0, 1, 5, 0), doDel(1, 1, 0), doTwice(17)} {
		out := checkRun(t, impl.MaxSites, impl.MaxReps, append(start, act))
		out.Replies = out.Replies[:len(start)]
		if !sameOutcome(out, ahead) {
			t.Errorf("%v: RpFull, but something changed", act)
		}
	}
}

// TestRunLogs: as many acts as there may be can't fill a log: each write is in it once at most.
func TestRunLogs(t *testing.T) {
	long := put(5, tag(120, 3, 120), -impl.MaxVal)
	for key := range impl.MaxKeys {
		long.Deps = append(long.Deps, dep(key, 119, 3, 119))
	}
	if n := impl.MaxActs * len(logText([]impl.Write{long})); n > impl.MaxLog {
		t.Fatalf("a log may have %d bytes", n)
	}
	var alone, seen []impl.Act
	for i := range impl.MaxActs {
		alone = append(alone, doPut(0, i%impl.MaxKeys, -impl.MaxVal, allKeys))
	}
	for i := range impl.MaxActs / 3 {
		seen = append(seen, doPut(i%3, i%impl.MaxKeys, -impl.MaxVal, allKeys), doDeliver(0), doFetch((i+1)%4, 0))
	}
	for name, acts := range map[string][]impl.Act{"written": alone, "seen": seen} {
		out := checkRun(t, impl.MaxSites, 1, acts)
		if slices.Max(codesOf(out.Replies)) != impl.RpOK {
			t.Errorf("%s: %v", name, codesOf(out.Replies))
		}
		for _, s := range out.Shims {
			batches, size := impl.LogRead(s.Log)
			var all []string
			for _, b := range batches {
				for _, w := range b.Ws {
					all = append(all, impl.WriteText(w))
				}
			}
			slices.Sort(all)
			if size != len(s.Log) || size > impl.MaxLog || len(slices.Compact(slices.Clone(all))) != len(all) {
				t.Errorf("%s: site %d has a log of %d bytes, %d are read", name, s.Site, len(s.Log), size)
			}
		}
	}
}

func TestRunLimits(t *testing.T) {
	acts := func(n int) []impl.Act { return slices.Repeat([]impl.Act{doPut(0, 1, 5, 0)}, n) }
	for _, n := range []int{0, 1, impl.MaxActs - 1, impl.MaxActs} {
		out := checkRun(t, 1, 1, acts(n))
		if len(out.Replies) != n || out.Shims[0].Seq != n || len(out.Net) != n {
			t.Errorf("%d acts: %d replies, %d on their way", n, len(out.Replies), len(out.Net))
		}
	}
	// Acts that are none count, too.
	none := slices.Repeat([]impl.Act{{}}, impl.MaxActs)
	if out := checkRun(t, 1, 1, none); len(out.Replies) != impl.MaxActs || slices.Min(codesOf(out.Replies)) != impl.RpAct {
		t.Errorf("acts that are none: %v", out)
	}
	for name, c := range map[string]struct {
		sites, reps int
		acts        []impl.Act
	}{
		"no site":              {0, 1, acts(1)},
		"a site below 0":       {-1, 1, acts(1)},
		"too many sites":       {impl.MaxSites + 1, 1, acts(1)},
		"the least sites":      {math.MinInt, 1, nil},
		"the greatest sites":   {math.MaxInt, 1, nil},
		"no store":             {1, 0, acts(1)},
		"a store below 0":      {1, -1, acts(1)},
		"too many stores":      {1, impl.MaxReps + 1, acts(1)},
		"the least stores":     {1, math.MinInt, nil},
		"the greatest stores":  {1, math.MaxInt, nil},
		"too many acts":        {1, 1, acts(impl.MaxActs + 1)},
		"far too many acts":    {4, 3, acts(10 * impl.MaxActs)},
		"too many that do not": {1, 1, append(none, impl.Act{})},
		"all of it":            {0, 0, acts(impl.MaxActs + 1)},
	} {
		if out, ok := impl.Run(c.sites, c.reps, c.acts); ok || !sameOutcome(out, impl.Outcome{}) {
			t.Errorf("%s: Run = %v, %v", name, out, ok)
		}
	}
}

// wrongActs: acts that are none for two sites, two stores and four messages on their way.
func wrongActs() []impl.Act {
	var list []impl.Act
	for _, kind := range []int{0, -1, 11, 12, 100, math.MinInt, math.MaxInt} {
		list = append(list, impl.Act{Kind: kind}, impl.Act{Kind: kind, A: 1, B: 1, C: 1, D: 1, E: 1})
	}
	for _, n := range []int{-1, 2, 3, 4, math.MinInt, math.MaxInt} {
		list = append(list, doPut(n, 1, 5, 0), doDel(n, 1, 0), doGet(n, 0), doSnap(n, 1), doFetch(n, 0), doFetch(0, n), doBreak(n, 1, 5, 0, -1), doSync(n, 0), doSync(0, n), doSync(n, n))
	}
	for _, n := range []int{-1, 4, 5, impl.MaxNet, math.MinInt, math.MaxInt} {
		list = append(list, doDeliver(n), doDrop(n), doTwice(n))
	}
	for _, n := range []int{-1, impl.MaxKeys, 64, math.MinInt, math.MaxInt} {
		list = append(list, doPut(0, n, 5, 0), doDel(0, n, 0), doGet(0, n), doBreak(0, n, 5, 0, -1))
	}
	for _, n := range []int{-impl.MaxVal - 1, impl.MaxVal + 1, math.MinInt, math.MaxInt} {
		list = append(list, doPut(0, 1, n, 0), doBreak(0, 1, n, 0, -1))
	}
	for _, n := range []int{-1, allKeys + 1, math.MinInt, math.MaxInt} {
		list = append(list, doPut(0, 1, 5, n), doDel(0, 1, n), doSnap(0, n), doBreak(0, 1, 5, n, -1))
	}
	return append(list, doPut(-1, -1, impl.MaxVal+1, -1), doFetch(2, 2))
}

func TestRunWrongActs(t *testing.T) {
	start := []impl.Act{doPut(0, 0, 1, 0), doDeliver(0), doPut(1, 2, 2, 0), doDeliver(1), doFetch(0, 0), doPut(0, 3, 3, allKeys)}
	ahead := checkRun(t, 2, 2, start)
	if len(ahead.Net) != 4 {
		t.Fatalf("on their way are %v", ahead.Net)
	}
	for _, a := range wrongActs() {
		out := checkRun(t, 2, 2, append(start, a))
		if r := out.Replies[len(start)]; !sameReply(r, impl.Reply{Code: impl.RpAct}) {
			t.Errorf("%v: %v", a, r)
		}
		out.Replies = out.Replies[:len(start)]
		if !sameOutcome(out, ahead) {
			t.Errorf("%v: something changed: %v, want %v", a, out, ahead)
		}
	}
	// Nothing is on its way at first, so there is no place.
	for _, a := range []impl.Act{doDeliver(0), doDrop(0), doTwice(0), doDeliver(-1)} {
		if out := checkRun(t, 1, 1, []impl.Act{a}); !sameReply(out.Replies[0], impl.Reply{Code: impl.RpAct}) {
			t.Errorf("%v at first: %v", a, out)
		}
	}
}

// TestRunAsksNoMore: numbers that the chapter does not name for a kind may be any.
func TestRunAsksNoMore(t *testing.T) {
	start := []impl.Act{doPut(0, 1, 5, 0), doTwice(0)}
	for _, n := range []int{-1, 7, impl.MaxVal + 1, math.MinInt, math.MaxInt} {
		for _, c := range []struct{ plain, other impl.Act }{
			{doPut(0, 2, 6, 1), impl.Act{Kind: impl.AcPut, A: 0, B: 2, C: 6, D: 1, E: n}},
			{doDel(0, 2, 1), impl.Act{Kind: impl.AcDel, A: 0, B: 2, C: n, D: 1, E: n}},
			{doGet(0, 1), impl.Act{Kind: impl.AcGet, A: 0, B: 1, C: n, D: n, E: n}},
			{doSnap(0, 2), impl.Act{Kind: impl.AcSnap, A: 0, B: n, C: n, D: 2, E: n}},
			{doDeliver(1), impl.Act{Kind: impl.AcDeliver, A: 1, B: n, C: n, D: n, E: n}},
			{doDrop(1), impl.Act{Kind: impl.AcDrop, A: 1, B: n, C: n, D: n, E: n}},
			{doTwice(1), impl.Act{Kind: impl.AcTwice, A: 1, B: n, C: n, D: n, E: n}},
			{doSync(0, 1), impl.Act{Kind: impl.AcSync, A: 0, B: 1, C: n, D: n, E: n}},
			{doFetch(1, 0), impl.Act{Kind: impl.AcFetch, A: 1, B: 0, C: n, D: n, E: n}},
		} {
			want := checkRun(t, 2, 2, append(start, c.plain))
			got := checkRun(t, 2, 2, append(start, c.other))
			if !sameOutcome(got, want) || got.Replies[2].Code != impl.RpOK {
				t.Errorf("%v: %v, want %v", c.other, got, want)
			}
		}
	}
}

// near: mostly a number below n, at times one that is none.
func near(d *dice, n int) int {
	if d.below(40) == 0 {
		return []int{-1, n, math.MinInt, math.MaxInt}[d.below(4)]
	}
	return d.below(max(n, 1))
}

// thrownAct: some act of one of the kinds, as the course stands.
func thrownAct(d *dice, c *told, kinds []int) impl.Act {
	a := impl.Act{Kind: kinds[d.below(len(kinds))], A: near(d, len(c.Shims)), B: near(d, impl.MaxKeys), C: d.below(2000) - 1000, D: d.below(allKeys+1) & d.below(allKeys+1), E: d.below(400) - 200}
	switch a.Kind {
	case impl.AcDeliver, impl.AcDrop, impl.AcTwice:
		a.A = near(d, len(c.Net))
	case impl.AcSync:
		a.A, a.B = near(d, len(c.Reps)), near(d, len(c.Reps))
	case impl.AcFetch:
		a.B = near(d, len(c.Reps))
	case impl.AcBreak:
		if d.below(3) == 0 {
			a.E = -1
		}
	}
	return a
}

// TestRunCourses: courses of all kinds of acts, with loss, doubles and breaks: behind each act promise 8 holds.
func TestRunCourses(t *testing.T) {
	d := dice(71)
	p, l, f := impl.AcPut, impl.AcDeliver, impl.AcFetch
	mixed := []int{p, p, p, impl.AcDel, impl.AcGet, impl.AcSnap, l, l, l, l, impl.AcDrop, impl.AcTwice, impl.AcSync, f, f, f, impl.AcBreak}
	codes, kinds, shown := map[int]int{}, map[int]int{}, 0
	for i := range 72 {
		sites, reps := 1+i%impl.MaxSites, 1+i/4%impl.MaxReps
		c := toldNew(sites, reps)
		var acts []impl.Act
		for range 20 + d.below(30) {
			a := thrownAct(&d, c, mixed)
			c.act(a)
			acts = append(acts, a)
			if r := c.Replies[len(c.Replies)-1]; r.Code != impl.RpAct {
				kinds[a.Kind]++
			}
		}
		out := checkCourse(t, sites, reps, acts)
		for _, r := range out.Replies {
			codes[r.Code]++
		}
		for _, s := range out.Shims {
			for _, w := range s.Local {
				if w.T.Site != s.Site {
					shown++
				}
			}
		}
	}
	for _, kind := range mixed {
		if kinds[kind] < 20 {
			t.Errorf("of kind %d there were %d: too few to tell", kind, kinds[kind])
		}
	}
	if codes[impl.RpOK] < 500 || codes[impl.RpAct] < 20 || codes[impl.RpNone] < 5 || codes[impl.RpBroke] < 20 || shown < 60 {
		t.Errorf("codes %v, %d writes of others shown: too few to tell", codes, shown)
	}
}

// TestRunLongCourses: as many acts as there may be, at last only.
func TestRunLongCourses(t *testing.T) {
	d := dice(73)
	most := 0
	for i := range 30 {
		kinds := []int{impl.AcPut, impl.AcDel, impl.AcGet, impl.AcSnap, impl.AcDeliver, impl.AcDrop, impl.AcTwice, impl.AcSync, impl.AcFetch, impl.AcBreak}
		if i%3 == 0 {
			kinds = append(kinds, slices.Repeat([]int{impl.AcPut}, 60)...)
		}
		c := toldNew(impl.MaxSites, impl.MaxReps)
		var acts []impl.Act
		for range impl.MaxActs {
			a := thrownAct(&d, c, kinds)
			c.act(a)
			acts = append(acts, a)
		}
		out := checkRun(t, impl.MaxSites, impl.MaxReps, acts)
		most = max(most, len(out.Net))
		for n, s := range out.Shims {
			if !isCut(s.Local) || !sameShim(impl.ShimBack(n, s.Log), s) {
				t.Fatalf("behind %v: %v", acts, s)
			}
		}
	}
	if most < 200 {
		t.Errorf("at most %d messages were on their way: too few to tell", most)
	}
}

// TestRunAllCome: nothing is lost or broken, all that is on its way comes in some order, and each site looks: all have the same.
func TestRunAllCome(t *testing.T) {
	d := dice(79)
	kinds := []int{impl.AcPut, impl.AcPut, impl.AcDel, impl.AcGet, impl.AcSnap, impl.AcDeliver, impl.AcDeliver, impl.AcTwice, impl.AcSync, impl.AcFetch, impl.AcFetch}
	late := 0
	for i := range 60 {
		sites, reps := 1+i%impl.MaxSites, 1+i/4%impl.MaxReps
		c := toldNew(sites, reps)
		var acts []impl.Act
		take := func(a impl.Act) {
			acts = append(acts, a)
			c.act(a)
		}
		for len(acts)+len(c.Net)+sites < impl.MaxActs-impl.MaxReps {
			take(thrownAct(&d, c, kinds))
		}
		late += len(c.Net)
		for len(c.Net) > 0 {
			take(doDeliver(d.below(len(c.Net))))
		}
		for site := range sites {
			take(doFetch(site, d.below(reps)))
		}
		out := checkRun(t, sites, reps, acts)
		want := joined(writtenIn(acts, out.Replies))
		for n, s := range out.Shims {
			if !sameList(s.Local, want) {
				t.Fatalf("behind %v: site %d shows %v, want %v", acts, n, s.Local, want)
			}
		}
		for n, r := range out.Reps {
			if !sameList(r.M, want) {
				t.Fatalf("behind %v: store %d has %v, want %v", acts, n, r.M, want)
			}
		}
		if len(out.Net) != 0 || len(acts) > impl.MaxActs || len(want) == 0 {
			t.Fatalf("%d acts, %d messages, %v", len(acts), len(out.Net), want)
		}
	}
	if late < 1000 {
		t.Errorf("%d messages were late: too few to tell", late)
	}
}

// TestRunSameEachTime: how the stores run shows in no answer, and none of them runs on.
func TestRunSameEachTime(t *testing.T) {
	d := dice(83)
	c := toldNew(4, 3)
	var acts []impl.Act
	for range 100 {
		a := thrownAct(&d, c, []int{impl.AcPut, impl.AcDeliver, impl.AcDeliver, impl.AcSync, impl.AcFetch})
		c.act(a)
		acts = append(acts, a)
	}
	ahead := runtime.NumGoroutine()
	for range 30 {
		checkRun(t, 4, 3, acts)
	}
	// One that is joined may still be on its last step; so it is asked often ahead of a fault.
	for range 1000000 {
		if runtime.NumGoroutine() <= ahead {
			return
		}
		runtime.Gosched()
	}
	t.Errorf("%d run on, %d did ahead of it", runtime.NumGoroutine(), ahead)
}

func TestRunLeavesArguments(t *testing.T) {
	acts := []impl.Act{doPut(0, 0, 1, 0), doDeliver(0), doTwice(0), doDrop(0), doSync(0, 1), doFetch(1, 0), doBreak(1, 2, 3, 1, 5), doSnap(1, 3), {Kind: 99}, doPut(0, 5, 5, 5), doDeliver(0), doDel(0, 0, 0)}
	for n := range len(acts) + 1 {
		list := slices.Clone(acts)
		first, ok := impl.Run(2, 2, list[:n])
		if !ok || !slices.Equal(list, acts) {
			t.Fatalf("written into the acts: %v, %v", list, ok)
		}
		clear(list)
		if second := checkRun(t, 2, 2, acts[:n]); !sameOutcome(first, second) || len(first.Replies) != n {
			t.Fatalf("of the first %d acts: %v, want %v", n, first, second)
		}
	}
}

// writesIn: all writes of an outcome, with the very Deps that they have there.
func writesIn(out impl.Outcome) []impl.Write {
	var list []impl.Write
	for _, r := range out.Replies {
		list = append(list, r.Ws...)
	}
	for _, s := range out.Shims {
		list = append(list, s.Local...)
	}
	for _, r := range out.Reps {
		list = append(list, r.M...)
	}
	for _, m := range out.Net {
		list = append(list, m.W)
	}
	return list
}

// TestRunNewMemory: what is done to one list of an outcome shows in no other list of it, and in no other outcome.
func TestRunNewMemory(t *testing.T) {
	acts := []impl.Act{
		doPut(0, 0, 1, 0), doPut(0, 1, 2, 0), doTwice(2), doTwice(6), doDeliver(0), doDeliver(1), doSync(0, 1), doSync(1, 0), doSync(1, 1), doFetch(1, 0), doFetch(2, 1),
		doPut(1, 2, 3, allKeys), doDel(2, 3, allKeys), doTwice(5), doGet(1, 2), doGet(1, 2), doSnap(1, allKeys), doSnap(1, allKeys), doBreak(1, 4, 4, allKeys, -1), doGet(1, 4),
		doBreak(2, 4, 4, allKeys, 7), doSnap(2, allKeys), doDeliver(4), doSync(0, 2), doFetch(3, 2),
	}
	ask := func() impl.Outcome {
		out, ok := impl.Run(4, 3, acts)
		if !ok {
			t.Fatal("Run = false")
		}
		return out
	}
	sharesNone(t, "the Deps", func() []impl.Write { return writesIn(ask()) })
	whole := checkRun(t, 4, 3, acts)
	lists := func(out impl.Outcome) [][]impl.Write {
		var all [][]impl.Write
		for _, r := range out.Replies {
			all = append(all, r.Ws)
		}
		for _, s := range out.Shims {
			all = append(all, s.Local)
		}
		for _, r := range out.Reps {
			all = append(all, r.M)
		}
		return all
	}
	for i := range lists(whole) {
		out := ask()
		some := lists(out)
		spoil(some[i])
		for j, list := range some {
			if j != i && !sameList(list, lists(whole)[j]) {
				t.Fatalf("lists %d and %d of the outcome share memory", i, j)
			}
		}
	}
	if again := ask(); !sameOutcome(again, whole) {
		t.Error("two outcomes share memory")
	}
}

func TestActText(t *testing.T) {
	for want, a := range map[string]impl.Act{
		"0 0 0 0 0 0":                 {},
		"1 2 3 4 5 6":                 {Kind: 1, A: 2, B: 3, C: 4, D: 5, E: 6},
		"1 0 2 7 0 0":                 doPut(0, 2, 7, 0),
		"10 3 5 -1000000 63 -1":       doBreak(3, 5, -impl.MaxVal, allKeys, -1),
		"-1 -2 -30 -400 -5000 -60000": {Kind: -1, A: -2, B: -30, C: -400, D: -5000, E: -60000},
		"-9223372036854775808 9223372036854775807 0 -9223372036854775808 9223372036854775807 1": {Kind: math.MinInt, A: math.MaxInt, C: math.MinInt, D: math.MaxInt, E: 1},
	} {
		if got := impl.ActText(a); got != want {
			t.Errorf("ActText(%v) = %q, want %q", a, got, want)
		}
	}
}

// jobText: the text of a job.
func jobText(sites int, reps int, acts []impl.Act) string {
	text := fmt.Sprintf("sites %d\nstores %d\n", sites, reps)
	for _, a := range acts {
		text += fmt.Sprintln(a.Kind, a.A, a.B, a.C, a.D, a.E)
	}
	return text
}

// jobAnswer: what the text of a job with this outcome is answered.
func jobAnswer(out impl.Outcome) string {
	var lines []string
	line := func(head string, ws []impl.Write) {
		words := []string{head}
		for _, w := range ws {
			words = append(words, impl.WriteText(w))
		}
		lines = append(lines, strings.Join(words, "; ")+"\n")
	}
	for _, r := range out.Replies {
		line(fmt.Sprint(r.Code), r.Ws)
	}
	for i, s := range out.Shims {
		line(fmt.Sprint("site ", i), s.Local)
	}
	return strings.Join(lines, "")
}

func TestJobRun(t *testing.T) {
	for s, want := range map[string]string{
		"sites 1\nstores 1\n":                            "site 0\n",
		"sites 4\nstores 3\n":                            "site 0\nsite 1\nsite 2\nsite 3\n",
		"sites 1\nstores 1\n1 0 2 7 0 0\n":               "0; w 2 1 0 1 7 0 0\nsite 0; w 2 1 0 1 7 0 0\n",
		"sites 2\nstores 1\n1 0 2 -7 0 0\n2 0 1 0 0 0\n": "0; w 2 1 0 1 -7 0 0\n0; w 1 2 0 2 0 1 1 2 1 0 1\nsite 0; w 1 2 0 2 0 1 1 2 1 0 1; w 2 1 0 1 -7 0 0\nsite 1\n",
		"sites 1\nstores 1\n3 0 5 0 0 0\n4 0 0 0 63 0\n0 0 0 0 0 0\n-9223372036854775808 9223372036854775807 -1 -1 -1 -1\n": "3\n0\n1\n1\nsite 0\n",
		"sites 1\nstores 2\n10 0 2 7 0 3\n10 0 2 7 0 -1\n5 0 0 0 0 0\n":                                                     "4\n4; w 2 1 0 1 7 0 0\n1\nsite 0; w 2 1 0 1 7 0 0\n",
		"sites 2\nstores 1\n1 0 0 5 0 0\n1 0 1 6 0 0\n5 1 0 0 0 0\n9 1 0 0 0 0\n3 1 1 0 0 0\n5 0 0 0 0 0\n9 1 0 0 0 0\n4 1 0 0 3 0\n": "0; w 0 1 0 1 5 0 0\n0; w 1 2 0 2 6 0 1 0 1 0 1\n0\n0\n3\n0\n0\n0; w 0 1 0 1 5 0 0; w 1 2 0 2 6 0 1 0 1 0 1\n" +
			"site 0; w 0 1 0 1 5 0 0; w 1 2 0 2 6 0 1 0 1 0 1\nsite 1; w 0 1 0 1 5 0 0; w 1 2 0 2 6 0 1 0 1 0 1\n",
	} {
		if got := impl.JobRun(s); got != want {
			t.Errorf("JobRun(%q) = %q, want %q", s, got, want)
		}
	}
}

func TestJobRunOfCourses(t *testing.T) {
	d := dice(89)
	kinds := []int{impl.AcPut, impl.AcPut, impl.AcDel, impl.AcGet, impl.AcSnap, impl.AcDeliver, impl.AcDeliver, impl.AcDrop, impl.AcTwice, impl.AcSync, impl.AcFetch, impl.AcBreak, 0, 11}
	for i := range 30 {
		sites, reps := 1+i%impl.MaxSites, 1+i/4%impl.MaxReps
		c := toldNew(sites, reps)
		var acts []impl.Act
		for range d.below(impl.MaxActs + 1) {
			acts = append(acts, thrownAct(&d, c, kinds))
			c.act(acts[len(acts)-1])
		}
		if got, want := impl.JobRun(jobText(sites, reps, acts)), jobAnswer(c.Outcome); got != want {
			t.Fatalf("JobRun(%q) = %q, want %q", jobText(sites, reps, acts), got, want)
		}
	}
	acts := full()
	for len(acts) < impl.MaxActs {
		acts = append(acts, doPut(0, 0, 1, 0))
	}
	if got := impl.JobRun(jobText(4, 3, acts)); got != jobAnswer(checkRun(t, 4, 3, acts)) || strings.Count(got, "\n2\n") == 0 {
		t.Errorf("as many acts as there may be: %q", got)
	}
}

func TestJobRunWrong(t *testing.T) {
	const head = "sites 2\nstores 2\n"
	texts := []string{
		"", "\n", "\n\n", " ", "no job\n", "sites 1", "sites 1\n", "stores 1\n", "sites 1\nstores 1", "stores 1\nsites 1\n", "sites 1\nsites 1\n", "stores 1\nstores 1\n",
		"\nsites 1\nstores 1\n", "sites 1\n\nstores 1\n", "sites 1\nstores 1\n\n", "sites 1\nstores 1\n\n1 0 2 7 0 0\n", "sites 1\nstores 1\n ", "sites 1\nstores 1\n\n\n",
		"sites 1 stores 1\n", "sites 1\rstores 1\r", "sites 1\r\nstores 1\r\n", "sites 1\n1 0 2 7 0 0\n", "1 0 2 7 0 0\n", "1 0 2 7 0 0\nsites 1\nstores 1\n", "sites 1\n1 0 2 7 0 0\nstores 1\n",
		"sites 1\nstores 1\nsites 1\nstores 1\n", "sites 1\nstores 1\n1 0 2 7 0 0\nsites 1\n", "sites 1\nstores 1\x00", "sites 1\nstores 1\n\x00\n", "\xff\nstores 1\n", "\ufeffsites 1\nstores 1\n",
	}
	for _, count := range []string{"", " ", "x", " 1", "1 ", "  1", "+1", "01", "001", "-0", "-1", "0", "00", "1.0", "1e0", "0x1", "0b1", "1_0", "1 1", "1\t", "\t1", "1\x00", "１", "9223372036854775808", "18446744073709551617", "-9223372036854775809", "5", "100", "one"} {
		texts = append(texts, "sites "+count+"\nstores 1\n", "sites 1\nstores "+count+"\n")
	}
	texts = append(texts, "sites 1\nstores 4\n")
	for _, mark := range []string{"", "sites", "Sites ", "site ", "sites\t", "sites  ", " sites ", "sites=", "stores "} {
		texts = append(texts, mark+"1\nstores 1\n")
	}
	for _, mark := range []string{"", "stores", "Stores ", "store ", "stores\t", "stores  ", " stores ", "stores: ", "sites "} {
		texts = append(texts, "sites 1\n"+mark+"1\n")
	}
	for place := range 6 {
		for _, word := range []string{"", "x", "+1", "01", "00", "-0", "-01", "+0", " 1", "1 ", "1\t", "--1", "-", "+", "1.0", "1e1", "0x1", "1_0", "１", "9223372036854775808", "-9223372036854775809", "1\r", "1,", "1 1", ";", "w"} {
			words := strings.Fields("1 0 2 7 0 0")
			words[place] = word
			texts = append(texts, head+strings.Join(words, " ")+"\n", head+"1 0 2 7 0 0\n"+strings.Join(words, " ")+"\n", head+strings.Join(words, " ")+"\n1 0 2 7 0 0\n")
		}
	}
	for _, line := range []string{"1", "1 0 2 7 0", "1 0 2 7 0 0 0", "1 0 2 7 0 0 ", " 1 0 2 7 0 0", "1  0 2 7 0 0", "1\t0\t2\t7\t0\t0", "1,0,2,7,0,0", "1 0 2 7 0 0;", "put 0 2 7 0 0", "{1 0 2 7 0 0}", "1 0 2 7 0 0\r", "1 0 2 7 0 0 1 0 2 7 0 0", "      "} {
		texts = append(texts, head+line+"\n", head+line)
	}
	texts = append(texts, head+"1 0 2 7 0 0", head+"1 0 2 7 0 0\n1 0 2 7 0 0", head+"1 0 2 7 0 0\n\n", head+"1 0 2 7 0 0\n ")
	texts = append(texts, jobText(1, 1, slices.Repeat([]impl.Act{doGet(0, 0)}, impl.MaxActs+1)), jobText(1, 1, make([]impl.Act, 3000)), jobText(0, 1, nil), jobText(1, 0, nil), jobText(5, 1, nil), jobText(1, 4, nil), jobText(-1, -1, nil))
	for _, s := range texts {
		if got := impl.JobRun(s); got != "no job\n" {
			t.Errorf("JobRun(%q) = %q", s, got)
		}
	}
}

// TestJobRunCut: of a job's text that is cut, only what ends with a whole line is one.
func TestJobRunCut(t *testing.T) {
	acts := []impl.Act{doPut(0, 2, -7, 63), doDeliver(0), doFetch(1, 0), doBreak(1, 3, 12, 4, -33), doSnap(1, 63)}
	s := jobText(2, 1, acts)
	for n := range len(s) + 1 {
		want := "no job\n"
		if lines := strings.Count(s[:n], "\n"); lines >= 2 && s[n-1] == '\n' {
			want = jobAnswer(checkRun(t, 2, 1, acts[:lines-2]))
		}
		if got := impl.JobRun(s[:n]); got != want {
			t.Errorf("JobRun(%q) = %q, want %q", s[:n], got, want)
		}
	}
	// A sign that is changed makes another job or none, never an answer of another kind.
	for n := range len(s) {
		for _, sign := range nearSigns {
			changed := s[:n] + string(sign) + s[n+1:]
			if got := impl.JobRun(changed); got != "no job\n" && !strings.Contains(got, "site 0") {
				t.Fatalf("JobRun(%q) = %q", changed, got)
			}
		}
	}
}
