package tests

import (
	"math"
	"slices"
	"strings"
	"testing"

	"loop.example/g00579/impl"
)

const allKeys = 1<<impl.MaxKeys - 1

// whyOf: key by key, the last of what the masked writes are, and of what they are because of.
func whyOf(m []impl.Write, mask int) []impl.Dep {
	var list []impl.Dep
	for key := range impl.MaxKeys {
		last := impl.Tag{}
		for _, w := range m {
			if mask/(1<<w.Key)%2 == 0 {
				continue
			}
			for _, d := range append([]impl.Dep{{Key: w.Key, T: w.T}}, w.Deps...) {
				if d.Key == key && impl.TagCmp(d.T, last) > 0 {
					last = d.T
				}
			}
		}
		if last != (impl.Tag{}) {
			list = append(list, impl.Dep{Key: key, T: last})
		}
	}
	return list
}

// backOf: the site that comes back from the log of these batches.
func backOf(site int, lists ...[]impl.Write) impl.Shim {
	s := impl.Shim{Site: site, Last: -1, Local: joined(lists...)}
	for _, w := range s.Local {
		s.Clock = max(s.Clock, w.T.Clock)
	}
	for _, list := range lists {
		s.Log += logText(list)
		for _, w := range list {
			if w.T.Site == site && w.T.Seq > s.Seq {
				s.Seq, s.Last = w.T.Seq, w.Key
			}
		}
	}
	return s
}

// putBy: what the chapter says that comes of a put where nothing is in its way.
func putBy(s impl.Shim, key int, val int, dead bool, mask int) (impl.Shim, impl.Write) {
	if s.Last >= 0 && mask/(1<<s.Last)%2 == 0 {
		mask += 1 << s.Last
	}
	w := impl.Write{Key: key, T: tag(s.Clock+1, s.Site, s.Seq+1), Val: val, Dead: dead, Deps: whyOf(s.Local, mask)}
	rest := slices.DeleteFunc(slices.Clone(s.Local), func(o impl.Write) bool { return o.Key == key })
	next := impl.Shim{Site: s.Site, Clock: s.Clock + 1, Seq: s.Seq + 1, Last: key, Local: joined(rest, []impl.Write{w})}
	next.Log = s.Log + logText([]impl.Write{w})
	return next, w
}

// seenBy: what the chapter says that comes of more where nothing is in its way.
func seenBy(s impl.Shim, more []impl.Write) impl.Shim {
	fit, _ := parted(s.Local, more)
	next := s
	next.Local = joined(s.Local, fit)
	var fresh []impl.Write
	for _, w := range next.Local {
		next.Clock = max(next.Clock, w.T.Clock)
		if !slices.ContainsFunc(s.Local, func(o impl.Write) bool { return sameWrite(o, w) }) {
			fresh = append(fresh, w)
		}
	}
	next.Log += logText(fresh)
	return next
}

func sameShim(a impl.Shim, b impl.Shim) bool {
	return a.Site == b.Site && a.Clock == b.Clock && a.Seq == b.Seq && a.Last == b.Last && a.Log == b.Log && sameList(a.Local, b.Local)
}

// checkPut: a put that nothing is in the way of: all that the chapter says, and promise 7.
func checkPut(t *testing.T, s impl.Shim, key int, val int, dead bool, mask int) (impl.Shim, impl.Write) {
	t.Helper()
	want, ww := putBy(s, key, val, dead, mask)
	got, w, code := impl.ShimPut(s, key, val, dead, mask)
	if code != impl.ShOK || !sameWrite(w, ww) || !sameShim(got, want) {
		t.Fatalf("ShimPut(%v, %d, %d, %v, %d) = %v, %v, %d, want %v, %v", s, key, val, dead, mask, got, w, code, want, ww)
	}
	if last, ok := impl.MapAt(got.Local, key); !ok || !sameWrite(last, w) {
		t.Fatalf("%v is not the last one of its key in %v", w, got.Local)
	}
	if !impl.WriteOk(w) || !covers(got.Local, w.Deps) || !covers(s.Local, w.Deps) {
		t.Fatalf("the causes of %v are not all in %v", w, got.Local)
	}
	checkGrown(t, s, got)
	return got, w
}

// checkSee: more that nothing is in the way of: all that the chapter says, and promise 7.
func checkSee(t *testing.T, s impl.Shim, more []impl.Write) impl.Shim {
	t.Helper()
	want := seenBy(s, more)
	got, code := impl.ShimSee(s, more)
	if code != impl.ShOK || !sameShim(got, want) {
		t.Fatalf("ShimSee(%v, %v) = %v, %d, want %v", s, more, got, code, want)
	}
	checkGrown(t, s, got)
	again, code := impl.ShimSee(got, more)
	if code != impl.ShOK || !sameShim(again, got) {
		t.Fatalf("%v seen again by %v: %v, %d", more, got, again, code)
	}
	return got
}

// checkGrown: what is shown is a cut, no less than it was, and all of it is in the log, behind what was there.
func checkGrown(t *testing.T, s impl.Shim, next impl.Shim) {
	t.Helper()
	if !impl.ShimOk(next) || !isCut(next.Local) || !sameList(joined(s.Local, next.Local), next.Local) || next.Clock < s.Clock {
		t.Fatalf("behind %v comes %v", s, next)
	}
	if !strings.HasPrefix(next.Log, s.Log) {
		t.Fatalf("the log %q is not behind %q", next.Log, s.Log)
	}
	back := impl.ShimBack(next.Site, next.Log)
	if back.Clock > next.Clock || back.Seq != next.Seq || back.Last != next.Last || back.Log != next.Log || !sameList(back.Local, next.Local) {
		t.Fatalf("%v comes back as %v", next, back)
	}
}

// checkNothing: whatever is asked of s, the code says that it is none, and nothing comes beside it.
func checkNothing(t *testing.T, name string, s impl.Shim) {
	t.Helper()
	if impl.ShimOk(s) {
		t.Errorf("%s: ShimOk = true", name)
	}
	if got, w, code := impl.ShimPut(s, 2, 1, false, 0); code != impl.ShForm || !sameShim(got, impl.Shim{}) || !sameWrite(w, impl.Write{}) {
		t.Errorf("%s: ShimPut = %v, %v, %d", name, got, w, code)
	}
	for _, more := range [][]impl.Write{nil, {put(4, tag(1, 0, 1), 1)}} {
		if got, code := impl.ShimSee(s, more); code != impl.ShForm || !sameShim(got, impl.Shim{}) {
			t.Errorf("%s: ShimSee = %v, %d", name, got, code)
		}
	}
	if got := impl.ShimAll(s, allKeys); len(got) != 0 {
		t.Errorf("%s: ShimAll = %v", name, got)
	}
}

// sized: a log of just so many bytes, of batches that another site wrote of key 0, at Clock 7.
func sized(t *testing.T, size int) string {
	t.Helper()
	byLen := map[int]string{}
	for _, seq := range []int{1, 10, 100, 1000} {
		for val := 1; val <= impl.MaxVal; val *= 10 {
			for _, deps := range [][]impl.Dep{nil, {dep(0, 1, 0, 1)}, {dep(0, 1, 0, 1000)}} {
				for _, v := range []int{val, -val} {
					text := logText([]impl.Write{put(0, tag(7, 3, seq), v, deps...)})
					byLen[len(text)] = text
				}
			}
		}
	}
	var log strings.Builder
	add := func(n int) {
		if byLen[n] == "" {
			t.Fatalf("no batch of %d bytes", n)
		}
		log.WriteString(byLen[n])
	}
	const least = 40
	for size-log.Len() >= 3*least {
		add(least)
	}
	half := (size - log.Len()) / 2
	add(half)
	add(size - log.Len())
	return log.String()
}

// someShims: sites that have written and seen all kinds of things, each one ShimOk.
func someShims() []impl.Shim {
	list := []impl.Shim{
		{Site: 0, Last: -1},
		{Site: 3, Last: -1},
		{Site: 1, Last: -1, Clock: 5},
		{Site: 1, Last: -1, Clock: impl.MaxClock},
		backOf(0, fullMap(0)),
		backOf(2, fullMap(0)),
		backOf(2, []impl.Write{put(4, tag(9, 2, 1), 3)}),
		backOf(3, causal()[:1], causal()[1:4], causal()[4:6]),
		backOf(1, causal()[:1], causal()[1:2], causal()[2:3], causal()[3:4], causal()[4:5]),
		backOf(0, []impl.Write{put(5, tag(1, 0, impl.MaxSeq), impl.MaxVal)}, []impl.Write{gone(5, tag(2, 1, 1), dep(5, 1, 0, impl.MaxSeq))}),
	}
	late := backOf(1, fullMap(0)[:3], []impl.Write{put(1, tag(8, 1, 4), -3, dep(0, 1, 0, 1), dep(2, 3, 0, 1))})
	list = append(list, late)
	late.Clock = impl.MaxClock
	return append(list, late)
}

// badShims: sites that are not ShimOk, each by one fault alone.
func badShims() map[string]impl.Shim {
	good := func() impl.Shim {
		return backOf(1, []impl.Write{put(2, tag(1, 1, 1), 7)}, []impl.Write{put(0, tag(3, 0, 1), 8)}, []impl.Write{put(3, tag(4, 1, 2), 9, dep(0, 3, 0, 1), dep(2, 1, 1, 1))})
	}
	bad := map[string]impl.Shim{
		"zero value":           {},
		"new, a site below":    {Site: -1, Last: -1},
		"new, a site past":     {Site: impl.MaxSites, Last: -1},
		"a site past, as back": {Site: impl.MaxSites},
		"new, the least int":   {Site: math.MinInt, Last: -1},
		"new, the Clock past":  {Clock: impl.MaxClock + 1, Last: -1},
		"new, the Clock below": {Clock: -1, Last: -1},
		"new, a Seq":           {Seq: 1, Last: -1},
		"new, a Last":          {Last: 1},
		"new, a Last below -1": {Last: -2},
		"new, some Log":        {Last: -1, Log: "\n"},
		"new, some Local":      {Last: -1, Local: []impl.Write{put(2, tag(1, 1, 1), 7)}, Clock: 1},
		"no cut":               backOf(1, []impl.Write{put(3, tag(4, 0, 2), 9, dep(0, 3, 0, 1))}),
		"no cut, by an own":    backOf(0, []impl.Write{put(3, tag(4, 0, 2), 9, dep(0, 3, 0, 1))}),
		"no cut, by a Tag":     backOf(1, []impl.Write{put(0, tag(3, 0, 1), 1), put(3, tag(4, 0, 2), 9, dep(0, 3, 0, 2))}),
	}
	for name, spoilt := range map[string]func(s *impl.Shim){
		"another site":          func(s *impl.Shim) { s.Site = 0 },
		"a site below":          func(s *impl.Shim) { s.Site = -1 },
		"a site past":           func(s *impl.Shim) { s.Site = impl.MaxSites },
		"Clock too small":       func(s *impl.Shim) { s.Clock-- },
		"Clock 0":               func(s *impl.Shim) { s.Clock = 0 },
		"Clock past":            func(s *impl.Shim) { s.Clock = impl.MaxClock + 1 },
		"Clock the greatest":    func(s *impl.Shim) { s.Clock = math.MaxInt },
		"Clock the least":       func(s *impl.Shim) { s.Clock = math.MinInt },
		"Seq more":              func(s *impl.Shim) { s.Seq++ },
		"Seq less":              func(s *impl.Shim) { s.Seq-- },
		"Seq the greatest":      func(s *impl.Shim) { s.Seq = math.MaxInt },
		"Last earlier":          func(s *impl.Shim) { s.Last = 2 },
		"Last another's":        func(s *impl.Shim) { s.Last = 0 },
		"Last none":             func(s *impl.Shim) { s.Last = -1 },
		"Last past":             func(s *impl.Shim) { s.Last = impl.MaxKeys },
		"Last the greatest":     func(s *impl.Shim) { s.Last = math.MaxInt },
		"Last the least":        func(s *impl.Shim) { s.Last = math.MinInt },
		"Local of none":         func(s *impl.Shim) { s.Local = nil },
		"Local without one":     func(s *impl.Shim) { s.Local = s.Local[:2] },
		"Local with one more":   func(s *impl.Shim) { s.Local = append(s.Local, put(5, tag(1, 0, 1), 1)) },
		"Local, another value":  func(s *impl.Shim) { s.Local[1].Val++ },
		"Local, another T":      func(s *impl.Shim) { s.Local[1].T.Seq++ },
		"Local, a dead one":     func(s *impl.Shim) { s.Local[1].Val, s.Local[1].Dead = 0, true },
		"Local, Deps less":      func(s *impl.Shim) { s.Local[2].Deps = s.Local[2].Deps[:1] },
		"Local, another Dep":    func(s *impl.Shim) { s.Local[2].Deps[0].T.Clock-- },
		"Local, another key":    func(s *impl.Shim) { s.Local[2].Key++ },
		"Local, keys fall":      func(s *impl.Shim) { slices.Reverse(s.Local) },
		"Local, one twice":      func(s *impl.Shim) { s.Local = append(s.Local, s.Local[2]) },
		"Log of none":           func(s *impl.Shim) { s.Log = "" },
		"Log cut by one":        func(s *impl.Shim) { s.Log = s.Log[:len(s.Log)-1] },
		"Log with a byte more":  func(s *impl.Shim) { s.Log += "\n" },
		"Log, a byte ahead":     func(s *impl.Shim) { s.Log = " " + s.Log },
		"Log, half a batch":     func(s *impl.Shim) { s.Log += "batch 1\n" },
		"Log, one more of own":  func(s *impl.Shim) { s.Log += logText([]impl.Write{put(2, tag(1, 1, 3), 7)}) },
		"Log, one more of all":  func(s *impl.Shim) { s.Log += logText([]impl.Write{put(4, tag(1, 0, 1), 7)}) },
		"Log of another":        func(s *impl.Shim) { s.Log = backOf(1, fullMap(0)).Log },
		"Log without its first": func(s *impl.Shim) { s.Log = s.Log[strings.LastIndex(s.Log, "batch"):] },
	} {
		s := good()
		spoilt(&s)
		bad[name] = s
	}
	for name, m := range badMaps() {
		s := good()
		s.Local = m
		bad["Local, "+name] = s
		bad["new, Local, "+name] = impl.Shim{Last: -1, Local: m, Clock: impl.MaxClock}
	}
	return bad
}

func TestBecause(t *testing.T) {
	m := []impl.Write{
		put(0, tag(9, 0, 4), 1, dep(1, 2, 1, 1), dep(4, 6, 3, 1)),
		gone(1, tag(5, 1, 2), dep(0, 4, 3, 9)),
		put(3, tag(7, 2, 2), 3, dep(0, 1, 0, 1), dep(1, 5, 1, 3), dep(3, 7, 2, 1), dep(4, 6, 2, 9)),
		put(5, tag(10, 0, 5), 4, dep(0, 9, 0, 5), dep(3, 7, 2, 1)),
	}
	for name, c := range map[string]struct {
		mask int
		want []impl.Dep
	}{
		"no keys":                      {0, nil},
		"a key without a write":        {1<<2 | 1<<4, nil},
		"one, and its Deps":            {1 << 0, []impl.Dep{dep(0, 9, 0, 4), dep(1, 2, 1, 1), dep(4, 6, 3, 1)}},
		"a dead one":                   {1 << 1, []impl.Dep{dep(0, 4, 3, 9), dep(1, 5, 1, 2)}},
		"a Dep of its own key":         {1 << 3, []impl.Dep{dep(0, 1, 0, 1), dep(1, 5, 1, 3), dep(3, 7, 2, 2), dep(4, 6, 2, 9)}},
		"the write is the last":        {1<<0 | 1<<1, []impl.Dep{dep(0, 9, 0, 4), dep(1, 5, 1, 2), dep(4, 6, 3, 1)}},
		"a Dep is the last":            {1<<1 | 1<<3, []impl.Dep{dep(0, 4, 3, 9), dep(1, 5, 1, 3), dep(3, 7, 2, 2), dep(4, 6, 2, 9)}},
		"of two Deps the last by Site": {1<<0 | 1<<3, []impl.Dep{dep(0, 9, 0, 4), dep(1, 5, 1, 3), dep(3, 7, 2, 2), dep(4, 6, 3, 1)}},
		"a Dep is the last by Seq":     {1<<0 | 1<<5, []impl.Dep{dep(0, 9, 0, 5), dep(1, 2, 1, 1), dep(3, 7, 2, 1), dep(4, 6, 3, 1), dep(5, 10, 0, 5)}},
		"all keys":                     {allKeys, []impl.Dep{dep(0, 9, 0, 5), dep(1, 5, 1, 3), dep(3, 7, 2, 2), dep(4, 6, 3, 1), dep(5, 10, 0, 5)}},
		"bits of no key":               {1<<62 | 1<<6 | 1<<1, []impl.Dep{dep(0, 4, 3, 9), dep(1, 5, 1, 2)}},
		"bits of no key alone":         {1<<62 | 1<<6, nil},
		"the greatest mask":            {math.MaxInt, []impl.Dep{dep(0, 9, 0, 5), dep(1, 5, 1, 3), dep(3, 7, 2, 2), dep(4, 6, 3, 1), dep(5, 10, 0, 5)}},
		"-1":                           {-1, nil},
		"the least int":                {math.MinInt, nil},
		"-1 but for the first bit":     {-2, nil},
	} {
		if got := impl.Because(m, c.mask); !slices.Equal(got, c.want) {
			t.Errorf("%s: Because = %v, want %v", name, got, c.want)
		}
	}
	if got := impl.Because(nil, allKeys); len(got) != 0 {
		t.Errorf("Because of none = %v", got)
	}
}

func TestBecauseOfMany(t *testing.T) {
	maps := slices.Concat(causalMaps(), [][]impl.Write{fullMap(0), {manyDeps(1)}})
	d := dice(53)
	for range 300 {
		maps = append(maps, joined(thrown(&d, 1+d.below(20))))
	}
	for _, m := range maps {
		for mask := range allKeys + 1 {
			got, want := impl.Because(m, mask), whyOf(m, mask)
			if !slices.Equal(got, want) || !impl.DepsOk(got) {
				t.Fatalf("Because(%v, %d) = %v, want %v", m, mask, got, want)
			}
			if got := impl.Because(m, mask+64*(1+d.below(1000))); !slices.Equal(got, want) {
				t.Fatalf("Because(%v, %d and more) = %v, want %v", m, mask, got, want)
			}
		}
	}
}

func TestBecauseWrong(t *testing.T) {
	for name, m := range badMaps() {
		for _, mask := range []int{0, 1, allKeys, math.MaxInt, -1} {
			if got := impl.Because(m, mask); len(got) != 0 {
				t.Errorf("%s, mask %d: Because = %v", name, mask, got)
			}
		}
	}
	for _, mask := range []int{-1, -2, -64, math.MinInt, math.MinInt + 63} {
		if got := impl.Because(fullMap(0), mask); len(got) != 0 {
			t.Errorf("mask %d: Because = %v", mask, got)
		}
	}
}

func TestShimNew(t *testing.T) {
	for site := range impl.MaxSites {
		want := impl.Shim{Site: site, Last: -1}
		if got := impl.ShimNew(site); !sameShim(got, want) || !impl.ShimOk(got) {
			t.Errorf("ShimNew(%d) = %v", site, got)
		}
		if got := impl.ShimBack(site, ""); !sameShim(got, want) {
			t.Errorf("ShimBack(%d) of none = %v", site, got)
		}
	}
	log := backOf(1, fullMap(0)).Log
	for _, site := range []int{-1, impl.MaxSites, math.MinInt, math.MaxInt} {
		if got := impl.ShimNew(site); !sameShim(got, impl.Shim{}) {
			t.Errorf("ShimNew(%d) = %v", site, got)
		}
		for _, s := range []string{"", log, "\n"} {
			if got := impl.ShimBack(site, s); !sameShim(got, impl.Shim{}) {
				t.Errorf("ShimBack(%d, %q) = %v", site, s, got)
			}
		}
	}
}

func TestShimBack(t *testing.T) {
	own := put(2, tag(9, 1, 4), 1)
	for name, c := range map[string]struct {
		lists                  [][]impl.Write
		clock, seq, last, keys int
	}{
		"none":                              {nil, 0, 0, -1, 0},
		"one of its own":                    {[][]impl.Write{{own}}, 9, 4, 2, 1},
		"one of another site":               {[][]impl.Write{{put(2, tag(9, 0, 4), 1)}}, 9, 0, -1, 1},
		"the greatest Seq first":            {[][]impl.Write{{own}, {put(3, tag(10, 1, 3), 1)}}, 10, 4, 2, 2},
		"the greatest Seq last":             {[][]impl.Write{{own}, {put(3, tag(8, 1, 5), 1)}}, 9, 5, 3, 2},
		"written over by another":           {[][]impl.Write{{own}, {put(2, tag(11, 0, 8), 1)}}, 11, 4, 2, 1},
		"never in Local":                    {[][]impl.Write{{put(2, tag(11, 0, 8), 1)}, {own}}, 11, 4, 2, 1},
		"one T twice, first in one batch":   {[][]impl.Write{{put(5, tag(9, 1, 4), 1), own, put(0, tag(9, 1, 4), 3)}}, 9, 4, 5, 3},
		"one T twice, in batches":           {[][]impl.Write{{put(3, tag(9, 1, 4), 1)}, {own}, {put(0, tag(9, 1, 4), 3)}}, 9, 4, 3, 3},
		"one T twice, the last key first":   {[][]impl.Write{{put(1, tag(2, 1, 1), 1), put(4, tag(9, 1, 4), 3)}, {own}}, 9, 4, 4, 3},
		"one Seq, the Clocks fall":          {[][]impl.Write{{own, put(3, tag(8, 1, 4), 1)}}, 9, 4, 2, 2},
		"one Seq, the Clocks rise":          {[][]impl.Write{{own, put(3, tag(10, 1, 4), 1)}}, 10, 4, 2, 2},
		"another site's Seq is greater":     {[][]impl.Write{{put(3, tag(10, 2, 9), 1), own, put(4, tag(10, 0, 9), 1)}}, 10, 4, 2, 3},
		"dead":                              {[][]impl.Write{{gone(0, tag(1, 1, 1))}}, 1, 1, 0, 1},
		"the greatest of all":               {[][]impl.Write{{put(5, tag(impl.MaxClock, 1, impl.MaxSeq), impl.MaxVal)}}, impl.MaxClock, impl.MaxSeq, 5, 1},
		"no cut":                            {[][]impl.Write{{put(5, tag(7, 1, 2), 1, dep(0, 6, 0, 1))}}, 7, 2, 5, 1},
		"the last Clock is not the last's":  {[][]impl.Write{{put(0, tag(9, 0, 1), 1), put(1, tag(2, 1, 2), 1)}}, 9, 2, 1, 2},
		"its first write, Seq and all at 1": {[][]impl.Write{{put(0, tag(1, 1, 1), 0)}}, 1, 1, 0, 1},
	} {
		want := backOf(1, c.lists...)
		got := impl.ShimBack(1, want.Log)
		if !sameShim(got, want) || got.Clock != c.clock || got.Seq != c.seq || got.Last != c.last || len(got.Local) != c.keys {
			t.Errorf("%s: ShimBack = %v, want %v", name, got, want)
		}
	}
}

// TestShimBackClock: the Clock is that of Local, not that of a write that was written over.
func TestShimBackClock(t *testing.T) {
	lists := [][]impl.Write{{put(2, tag(3, 3, 1), 1)}, {put(2, tag(4, 0, 1), 1)}, {put(0, tag(2, 1, 1), 1)}}
	got := impl.ShimBack(1, backOf(1, lists...).Log)
	if got.Clock != 4 || got.Seq != 1 || got.Last != 0 || !sameList(got.Local, []impl.Write{lists[2][0], lists[1][0]}) {
		t.Errorf("ShimBack = %v", got)
	}
}

func TestShimBackOfMany(t *testing.T) {
	logs := someLogs()
	d := dice(59)
	for range 200 {
		var log [][]impl.Write
		for range d.below(10) {
			log = append(log, thrown(&d, 1+d.below(impl.MaxKeys)))
		}
		logs = append(logs, log)
	}
	for _, log := range logs {
		for site := range impl.MaxSites {
			want := backOf(site, log...)
			if got := impl.ShimBack(site, want.Log); !sameShim(got, want) {
				t.Fatalf("ShimBack(%d, %q) = %v, want %v", site, want.Log, got, want)
			}
			if got := impl.ShimOk(want); got != isCut(want.Local) {
				t.Fatalf("ShimOk(%v) = %v", want, got)
			}
		}
	}
}

// TestShimBackOfBadLogs: as much of a log is taken as is whole, whatever is behind it; what is cut is as if it had not begun.
func TestShimBackOfBadLogs(t *testing.T) {
	lists := [][]impl.Write{{put(2, tag(5, 1, 2), -3)}, {put(0, tag(6, 0, 1), 1), put(4, tag(6, 1, 3), 2)}}
	want := backOf(1, lists...)
	for name, rest := range badLogs() {
		if got := impl.ShimBack(1, rest); !sameShim(got, backOf(1)) {
			t.Errorf("%s: ShimBack = %v", name, got)
		}
		if got := impl.ShimBack(1, want.Log+rest+want.Log); !sameShim(got, want) {
			t.Errorf("%s, behind: ShimBack = %v", name, got)
		}
	}
	long := sized(t, 3*impl.MaxLog)
	got := impl.ShimBack(1, long+"x")
	if got.Log != long || got.Clock != 7 || got.Seq != 0 || got.Last != -1 || len(got.Local) != 1 {
		t.Errorf("a long log: ShimBack has %d bytes of %d, %v", len(got.Log), len(long), got.Local)
	}
}

func TestShimOk(t *testing.T) {
	for i, s := range someShims() {
		if !impl.ShimOk(s) {
			t.Errorf("%d: ShimOk(%v) = false", i, s)
		}
		empty := s
		empty.Local = append([]impl.Write{}, s.Local...)
		if !impl.ShimOk(empty) {
			t.Errorf("%d: a copy of it is none", i)
		}
	}
}

func TestShimOkWrong(t *testing.T) {
	for name, s := range badShims() {
		checkNothing(t, name, s)
	}
}

// TestShimOkClock: the Clock may be more than what is shown has, up to MaxClock, but not less.
func TestShimOkClock(t *testing.T) {
	s := backOf(2, fullMap(0))
	for _, clock := range []int{math.MinInt, -1, 0, 5, 6, 7, 1000, impl.MaxClock - 1, impl.MaxClock, impl.MaxClock + 1, math.MaxInt} {
		s.Clock = clock
		if got := impl.ShimOk(s); got != (clock >= 6 && clock <= impl.MaxClock) {
			t.Errorf("Clock %d: ShimOk = %v", clock, got)
		}
	}
}

func TestShimOkLog(t *testing.T) {
	for _, over := range []int{-1, 0, 1, 2, impl.MaxLog} {
		s := impl.ShimBack(1, sized(t, impl.MaxLog+over))
		if len(s.Log) != impl.MaxLog+over || len(s.Local) != 1 {
			t.Fatalf("a log of %d bytes", len(s.Log))
		}
		if over > 0 {
			checkNothing(t, "a log that is too long", s)
		} else if !impl.ShimOk(s) || !sameList(impl.ShimAll(s, 1), s.Local) {
			t.Errorf("a log of %d bytes: ShimOk = false", len(s.Log))
		}
	}
}

// TestShimCourse: a site that writes, sees and writes again, told sign by sign.
func TestShimCourse(t *testing.T) {
	s := impl.ShimNew(1)
	s, a, code := impl.ShimPut(s, 2, 7, false, 0)
	if code != impl.ShOK || !sameWrite(a, put(2, tag(1, 1, 1), 7)) {
		t.Fatal(a, code)
	}
	s, code = impl.ShimSee(s, []impl.Write{put(0, tag(4, 0, 3), -5), put(5, tag(5, 3, 1), 1, dep(4, 1, 0, 1)), put(2, tag(3, 2, 1), 8, dep(2, 1, 1, 1))})
	if code != impl.ShOK || s.Clock != 4 || s.Seq != 1 || s.Last != 2 {
		t.Fatal(s, code)
	}
	s, b, code := impl.ShimPut(s, 0, 0, true, 1)
	if code != impl.ShOK || !sameWrite(b, gone(0, tag(5, 1, 2), dep(0, 4, 0, 3), dep(2, 3, 2, 1))) {
		t.Fatal(b, code)
	}
	s, c, code := impl.ShimPut(s, 4, 0, false, 0)
	if code != impl.ShOK || !sameWrite(c, put(4, tag(6, 1, 3), 0, dep(0, 5, 1, 2), dep(2, 3, 2, 1))) {
		t.Fatal(c, code)
	}
	want := lined("batch 1", "w 2 1 1 1 7 0 0") +
		lined("batch 2", "w 0 4 0 3 -5 0 0", "w 2 3 2 1 8 0 1 2 1 1 1") +
		lined("batch 1", "w 0 5 1 2 0 1 2 0 4 0 3 2 3 2 1") +
		lined("batch 1", "w 4 6 1 3 0 0 2 0 5 1 2 2 3 2 1")
	if s.Log != want || s.Site != 1 || s.Clock != 6 || s.Seq != 3 || s.Last != 4 {
		t.Fatalf("%v, want the log %q", s, want)
	}
	if !sameList(s.Local, []impl.Write{b, put(2, tag(3, 2, 1), 8, dep(2, 1, 1, 1)), c}) {
		t.Fatal(s.Local)
	}
}

// TestShimBackBehindEachStep: wherever the log is cut, the site comes back as it was behind the last step that is whole in it, and goes on from there as if nothing had been.
func TestShimBackBehindEachStep(t *testing.T) {
	states := []impl.Shim{impl.ShimNew(2)}
	now := func() impl.Shim { return states[len(states)-1] }
	for i, more := range [][]impl.Write{causal()[:1], causal()[1:4], fullMap(0), causal()} {
		s, _ := checkPut(t, now(), i+1, 10*i, false, 0)
		states = append(states, s, checkSee(t, s, more))
		s, _ = checkPut(t, now(), i, 0, true, allKeys)
		states = append(states, s)
	}
	log := now().Log
	at := 0
	for cut := range len(log) + 1 {
		for at+1 < len(states) && len(states[at+1].Log) <= cut {
			at++
		}
		back := impl.ShimBack(2, log[:cut])
		if !sameShim(back, states[at]) {
			t.Fatalf("cut at %d: %v, want %v", cut, back, states[at])
		}
		if cut == len(states[at].Log) {
			checkPut(t, back, 3, cut, false, 0)
			checkSee(t, back, fullMap(0))
		}
	}
	if at != len(states)-1 {
		t.Fatalf("only %d of %d states came back", at, len(states))
	}
}

// TestShimPutBecauseOfLast: what a site wrote last is a cause of what it writes, whatever the mask lacks.
func TestShimPutBecauseOfLast(t *testing.T) {
	s := impl.ShimNew(0)
	s, a := checkPut(t, s, 4, 1, false, 0)
	if len(a.Deps) != 0 {
		t.Errorf("the first write is because of %v", a.Deps)
	}
	s, b := checkPut(t, s, 1, 2, false, 0)
	if !slices.Equal(b.Deps, []impl.Dep{{Key: 4, T: a.T}}) {
		t.Errorf("the second write is because of %v", b.Deps)
	}
	s, c := checkPut(t, s, 1, 3, false, 0)
	if !slices.Equal(c.Deps, []impl.Dep{{Key: 1, T: b.T}, {Key: 4, T: a.T}}) {
		t.Errorf("the third write, of the same key, is because of %v", c.Deps)
	}
	// Another one's write stands in the place of what was written last: it is the cause then.
	over := put(1, tag(9, 3, 1), 4, impl.Dep{Key: 1, T: c.T}, dep(5, 8, 3, 1))
	s = checkSee(t, s, []impl.Write{over, put(5, tag(8, 3, 1), 5), put(0, tag(7, 2, 1), 6)})
	s, e := checkPut(t, s, 3, 7, false, 0)
	if !slices.Equal(e.Deps, []impl.Dep{{Key: 1, T: over.T}, dep(5, 8, 3, 1)}) || e.T != tag(10, 0, 4) {
		t.Errorf("behind what another one wrote: %v", e)
	}
	_, f := checkPut(t, s, 0, 8, false, 1)
	if !slices.Equal(f.Deps, []impl.Dep{dep(0, 7, 2, 1), {Key: 1, T: over.T}, {Key: 3, T: e.T}, dep(5, 8, 3, 1)}) {
		t.Errorf("with a mask, too: %v", f)
	}
	// A site that has seen but not written has no last one.
	fresh := checkSee(t, impl.ShimNew(1), fullMap(0))
	if _, g := checkPut(t, fresh, 2, 1, false, 0); len(g.Deps) != 0 {
		t.Errorf("nothing written, no mask: because of %v", g.Deps)
	}
}

func TestShimPutEdges(t *testing.T) {
	for _, s := range someShims() {
		if s.Clock == impl.MaxClock || s.Seq == impl.MaxSeq {
			continue
		}
		for key := range impl.MaxKeys {
			for _, mask := range []int{0, 1, 1 << key, allKeys - 1, allKeys} {
				for _, val := range []int{0, 1, -1, impl.MaxVal, -impl.MaxVal} {
					checkPut(t, s, key, val, false, mask)
				}
				checkPut(t, s, key, 0, true, mask)
			}
		}
		for mask := range allKeys + 1 {
			checkPut(t, s, 3, mask, false, mask)
		}
	}
}

func TestShimPutWrong(t *testing.T) {
	for name, c := range map[string]struct {
		key, val int
		dead     bool
		mask     int
	}{
		"key below":               {-1, 0, false, 0},
		"key past":                {impl.MaxKeys, 0, false, 0},
		"the least key":           {math.MinInt, 0, false, 0},
		"the greatest key":        {math.MaxInt, 0, false, 0},
		"value past":              {1, impl.MaxVal + 1, false, 0},
		"value below":             {1, -impl.MaxVal - 1, false, 0},
		"the least value":         {1, math.MinInt, false, 0},
		"the greatest value":      {1, math.MaxInt, false, 0},
		"dead with a value":       {1, 1, true, 0},
		"dead with one below 0":   {1, -1, true, 0},
		"dead with the most":      {1, impl.MaxVal, true, 0},
		"dead with too much":      {1, impl.MaxVal + 1, true, 0},
		"mask below 0":            {1, 1, false, -1},
		"the least mask":          {1, 1, false, math.MinInt},
		"mask past":               {1, 1, false, allKeys + 1},
		"mask far past":           {1, 1, false, 1 << 40},
		"the greatest mask":       {1, 1, false, math.MaxInt},
		"mask past, the low bits": {1, 1, false, 2*allKeys + 1},
	} {
		for _, s := range append(someShims(), impl.Shim{}) {
			got, w, code := impl.ShimPut(s, c.key, c.val, c.dead, c.mask)
			if code != impl.ShForm || !sameShim(got, impl.Shim{}) || !sameWrite(w, impl.Write{}) {
				t.Errorf("%s: ShimPut = %v, %v, %d", name, got, w, code)
			}
		}
	}
}

// putsFull: a put for which there is no room: its code, and nothing beside it.
func putsFull(t *testing.T, name string, s impl.Shim) {
	t.Helper()
	for _, mask := range []int{0, allKeys} {
		got, w, code := impl.ShimPut(s, 4, 5, false, mask)
		if code != impl.ShFull || !sameShim(got, impl.Shim{}) || !sameWrite(w, impl.Write{}) {
			t.Errorf("%s: ShimPut = %v, %v, %d", name, got, w, code)
		}
	}
	if _, _, code := impl.ShimPut(s, impl.MaxKeys, 5, false, 0); code != impl.ShForm {
		t.Errorf("%s, and no key: ShimPut tells %d", name, code)
	}
}

func TestShimPutFullByTag(t *testing.T) {
	s := impl.Shim{Site: 2, Last: -1, Clock: impl.MaxClock - 1}
	s, w := checkPut(t, s, 4, 5, false, 0)
	if w.T != tag(impl.MaxClock, 2, 1) {
		t.Errorf("the last write is %v", w)
	}
	putsFull(t, "behind the last Clock", s)
	putsFull(t, "the Clock alone", impl.Shim{Site: 2, Last: -1, Clock: impl.MaxClock})
	late := backOf(0, []impl.Write{put(1, tag(impl.MaxClock, 3, 1), 1)})
	putsFull(t, "a Clock that was seen", late)
	if got := checkSee(t, s, late.Local); got.Clock != impl.MaxClock || len(got.Local) != 2 {
		t.Errorf("the last Clock seen: %v", got)
	}

	s = backOf(3, []impl.Write{put(1, tag(1, 3, impl.MaxSeq-1), 1)})
	s, w = checkPut(t, s, 4, 5, false, 0)
	if w.T != tag(2, 3, impl.MaxSeq) {
		t.Errorf("the last write is %v", w)
	}
	putsFull(t, "behind the last Seq", s)
	checkSee(t, s, fullMap(0))
}

func TestShimPutFullByLog(t *testing.T) {
	w := put(4, tag(8, 1, 1), 5)
	room := impl.MaxLog - len(logText([]impl.Write{w}))
	for _, over := range []int{-2, -1, 0} {
		s, got := checkPut(t, impl.ShimBack(1, sized(t, room+over)), 4, 5, false, 0)
		if !sameWrite(got, w) || len(s.Log) != impl.MaxLog+over {
			t.Errorf("%v, a log of %d bytes", got, len(s.Log))
		}
	}
	for _, over := range []int{1, 2, 30, impl.MaxLog - room} {
		putsFull(t, "no room in the log", impl.ShimBack(1, sized(t, room+over)))
	}
	both := impl.ShimBack(1, sized(t, impl.MaxLog))
	both.Clock = impl.MaxClock
	putsFull(t, "neither room nor a Clock", both)
}

func TestShimSeeEdges(t *testing.T) {
	s, w := checkPut(t, impl.ShimNew(1), 2, 7, false, 0)
	s, x := checkPut(t, s, 3, 8, false, 0)
	cause, effect := put(0, tag(1, 0, 1), 4), put(4, tag(6, 3, 1), 5, dep(0, 1, 0, 1), dep(3, 2, 1, 2))
	for name, c := range map[string]struct {
		more  []impl.Write
		fresh []impl.Write
		clock int
	}{
		"none":                          {nil, nil, 2},
		"empty":                         {[]impl.Write{}, nil, 2},
		"its own":                       {[]impl.Write{x, w, x}, nil, 2},
		"an earlier one":                {[]impl.Write{put(3, tag(1, 3, 9), 1)}, nil, 2},
		"a later one":                   {[]impl.Write{put(3, tag(2, 2, 1), 1)}, []impl.Write{put(3, tag(2, 2, 1), 1)}, 2},
		"a later Clock":                 {[]impl.Write{put(3, tag(9, 0, 1), 1)}, []impl.Write{put(3, tag(9, 0, 1), 1)}, 9},
		"one that lacks":                {[]impl.Write{effect}, nil, 2},
		"one that lacks, later of all":  {[]impl.Write{put(2, tag(impl.MaxClock, 0, 1), 1, dep(5, 1, 0, 1))}, nil, 2},
		"the cause":                     {[]impl.Write{cause}, []impl.Write{cause}, 2},
		"both":                          {[]impl.Write{effect, cause}, []impl.Write{cause, effect}, 6},
		"both twice":                    {[]impl.Write{effect, cause, effect, cause}, []impl.Write{cause, effect}, 6},
		"in order of keys":              {[]impl.Write{put(5, tag(1, 0, 1), 1), put(1, tag(2, 0, 1), 1), cause}, []impl.Write{cause, put(1, tag(2, 0, 1), 1), put(5, tag(1, 0, 1), 1)}, 2},
		"of a key the last":             {[]impl.Write{put(5, tag(4, 0, 1), 1), put(5, tag(5, 0, 2), 2), put(5, tag(3, 0, 3), 3)}, []impl.Write{put(5, tag(5, 0, 2), 2)}, 5},
		"of a key the last that fits":   {[]impl.Write{put(5, tag(4, 0, 1), 1), put(5, tag(5, 0, 2), 2, dep(1, 1, 0, 1))}, []impl.Write{put(5, tag(4, 0, 1), 1)}, 4},
		"its T, a greater value":        {[]impl.Write{put(3, x.T, 9, x.Deps...)}, []impl.Write{put(3, x.T, 9, x.Deps...)}, 2},
		"its T, a smaller value":        {[]impl.Write{put(3, x.T, 7, x.Deps...)}, nil, 2},
		"its T, more Deps":              {[]impl.Write{put(3, x.T, 8, dep(2, 1, 1, 1), dep(3, 1, 0, 1))}, []impl.Write{put(3, x.T, 8, dep(2, 1, 1, 1), dep(3, 1, 0, 1))}, 2},
		"its T, of another key":         {[]impl.Write{put(5, x.T, 9), put(0, x.T, 9)}, []impl.Write{put(0, x.T, 9), put(5, x.T, 9)}, 2},
		"a dead one":                    {[]impl.Write{gone(2, tag(3, 0, 1), dep(3, 2, 1, 2))}, []impl.Write{gone(2, tag(3, 0, 1), dep(3, 2, 1, 2))}, 3},
		"all keys":                      {later(fullMap(0), 10), later(fullMap(0), 10), 16},
		"the last Clock and the last T": {[]impl.Write{put(5, tag(impl.MaxClock, 3, impl.MaxSeq), 1)}, []impl.Write{put(5, tag(impl.MaxClock, 3, impl.MaxSeq), 1)}, impl.MaxClock},
	} {
		got := checkSee(t, s, c.more)
		want := impl.Shim{Site: 1, Clock: c.clock, Seq: 2, Last: 3, Local: joined(s.Local, c.fresh), Log: s.Log + logText(c.fresh)}
		if !sameShim(got, want) {
			t.Errorf("%s: ShimSee = %v, want %v", name, got, want)
		}
	}
}

// later: the writes with their Clocks so much more.
func later(list []impl.Write, by int) []impl.Write {
	for i := range list {
		list[i].T.Clock += by
	}
	return list
}

// TestShimSeeHolds: a write is not shown until what it lacks has come, and no site keeps it for then.
func TestShimSeeHolds(t *testing.T) {
	a, b := put(0, tag(1, 0, 1), 1), put(1, tag(2, 2, 1), 2, dep(0, 1, 0, 1))
	c := put(2, tag(3, 3, 1), 3, dep(0, 1, 0, 1), dep(1, 2, 2, 1))
	start := impl.ShimNew(1)
	for _, more := range [][]impl.Write{{c}, {b}, {b, c}, {c, b, c}} {
		if got := checkSee(t, start, more); !sameShim(got, start) {
			t.Errorf("%v is shown without its causes: %v", more, got)
		}
	}
	s := checkSee(t, start, []impl.Write{c, a})
	if !sameList(s.Local, []impl.Write{a}) {
		t.Errorf("not all causes are there: %v", s.Local)
	}
	s = checkSee(t, s, []impl.Write{b})
	if !sameList(s.Local, []impl.Write{a, b}) {
		t.Errorf("what was held is kept: %v", s.Local)
	}
	s = checkSee(t, s, []impl.Write{c})
	if !sameList(s.Local, []impl.Write{a, b, c}) || s.Log != logText([]impl.Write{a})+logText([]impl.Write{b})+logText([]impl.Write{c}) {
		t.Errorf("all causes are there: %v", s)
	}
	whole := checkSee(t, start, []impl.Write{c, b, a})
	if !sameList(whole.Local, s.Local) || whole.Log != logText(s.Local) {
		t.Errorf("all at once: %v", whole)
	}
}

// TestShimSeeOwnSite: what is seen changes neither Seq nor Last, also where it has the site's own Site.
func TestShimSeeOwnSite(t *testing.T) {
	s, _ := checkPut(t, impl.ShimNew(1), 2, 7, false, 0)
	for _, w := range []impl.Write{put(4, tag(9, 1, 1), 1), put(0, tag(1, 1, 1), 1), put(2, tag(3, 1, 1), 1)} {
		if got := checkSee(t, s, []impl.Write{w}); got.Seq != 1 || got.Last != 2 {
			t.Errorf("%v seen: Seq %d, Last %d", w, got.Seq, got.Last)
		}
	}
	more := []impl.Write{put(4, tag(9, 1, 5), 1)}
	got, code := impl.ShimSee(s, more)
	if code != impl.ShOK || !sameShim(got, seenBy(s, more)) || got.Seq != 1 || got.Last != 2 {
		t.Errorf("a greater Seq seen: %v, %d", got, code)
	}
}

// TestShimSeeClock: a Clock that is more than all that is shown stays.
func TestShimSeeClock(t *testing.T) {
	s := impl.Shim{Site: 1, Last: -1, Clock: 50}
	for _, clock := range []int{1, 49, 50, 51, impl.MaxClock} {
		if got := checkSee(t, s, []impl.Write{put(0, tag(clock, 0, 1), 1)}); got.Clock != max(50, clock) {
			t.Errorf("Clock %d seen: %d", clock, got.Clock)
		}
	}
	s.Clock = impl.MaxClock
	if got := checkSee(t, s, fullMap(0)); got.Clock != impl.MaxClock {
		t.Errorf("MaxClock: %d", got.Clock)
	}
}

func TestShimSeeWrong(t *testing.T) {
	good := put(2, tag(3, 0, 1), 1)
	for name, w := range badWrites() {
		for _, more := range [][]impl.Write{{w}, {w, good}, {good, w}, {good, w, good}, append(fullMap(0), w)} {
			for _, s := range append(someShims(), impl.Shim{}) {
				if got, code := impl.ShimSee(s, more); code != impl.ShForm || !sameShim(got, impl.Shim{}) {
					t.Errorf("%s: ShimSee = %v, %d", name, got, code)
				}
			}
		}
	}
	full := impl.ShimBack(1, sized(t, impl.MaxLog))
	if got, code := impl.ShimSee(full, []impl.Write{good, {}}); code != impl.ShForm || !sameShim(got, impl.Shim{}) {
		t.Errorf("no room, too: ShimSee = %v, %d", got, code)
	}
}

func TestShimSeeFull(t *testing.T) {
	fresh := []impl.Write{put(1, tag(3, 2, 1), 9), put(4, tag(8, 2, 2), -9, dep(1, 3, 2, 1))}
	lacking := put(5, tag(9, 2, 3), 1, dep(3, 1, 0, 1))
	more := []impl.Write{fresh[1], lacking, fresh[0], fresh[1]}
	room := impl.MaxLog - len(logText(fresh))
	for _, over := range []int{-1, 0} {
		s := checkSee(t, impl.ShimBack(1, sized(t, room+over)), more)
		if len(s.Log) != impl.MaxLog+over || len(s.Local) != 3 {
			t.Errorf("%v, a log of %d bytes", s.Local, len(s.Log))
		}
	}
	for _, over := range []int{1, 2, impl.MaxLog - room} {
		s := impl.ShimBack(1, sized(t, room+over))
		if got, code := impl.ShimSee(s, more); code != impl.ShFull || !sameShim(got, impl.Shim{}) {
			t.Errorf("a log of %d bytes: ShimSee = %v, %d", len(s.Log), got, code)
		}
		for _, old := range [][]impl.Write{nil, s.Local, {lacking}, {at1(0, 5), lacking}} {
			if got := checkSee(t, s, old); !sameShim(got, s) {
				t.Errorf("nothing new, but %v", got)
			}
		}
	}
}

// TestShimSeeMany: many writes of all keys, in whichever order they come: of what is shown each has its causes.
func TestShimSeeMany(t *testing.T) {
	d := dice(61)
	shown, held := 0, 0
	for range 600 {
		s := impl.ShimNew(d.below(impl.MaxSites))
		s = checkSee(t, s, notOf(s.Site, thrown(&d, 6)))
		s, _ = checkPut(t, s, d.below(impl.MaxKeys), 1, false, d.below(allKeys+1))
		more := notOf(s.Site, thrown(&d, d.below(24)))
		got := checkSee(t, s, more)
		slices.Reverse(more)
		if back := checkSee(t, s, more); !sameShim(back, got) {
			t.Fatalf("%v seen in another order: %v, want %v", more, back, got)
		}
		_, rest := parted(s.Local, more)
		for _, w := range rest {
			if covers(got.Local, w.Deps) {
				t.Fatalf("%v is held, but covered by %v", w, got.Local)
			}
		}
		shown, held = shown+len(more)-len(rest), held+len(rest)
	}
	if shown < 500 || held < 500 {
		t.Errorf("%d fitted and %d were held: too few to tell", shown, held)
	}
	list, last := chained(2000)
	if got := checkSee(t, impl.ShimNew(3), list[:100]); len(got.Local) != 0 {
		t.Errorf("a chain without its end: %v", got.Local)
	}
	got, code := impl.ShimSee(impl.ShimNew(3), append(list, last))
	if code != impl.ShOK || len(got.Local) != 2 || !sameWrite(got.Local[1], last) {
		t.Errorf("a chain with its end: %v, %d", got.Local, code)
	}
}

// notOf: the writes that are of other sites.
func notOf(site int, list []impl.Write) []impl.Write {
	return slices.DeleteFunc(list, func(w impl.Write) bool { return w.T.Site == site })
}

// TestShimSites: sites that write because of what they show, and see of what was written some, twice, late or never: what each shows is a cut and never goes back; when all has come, all show the same.
func TestShimSites(t *testing.T) {
	d := dice(67)
	for range 20 {
		var sites []impl.Shim
		for site := range impl.MaxSites {
			sites = append(sites, impl.ShimNew(site))
		}
		var all []impl.Write
		for range 80 {
			i := d.below(len(sites))
			if d.below(2) == 0 {
				dead := d.below(4) == 0
				val := 0
				if !dead {
					val = d.below(2*impl.MaxVal+1) - impl.MaxVal
				}
				s, w := checkPut(t, sites[i], d.below(impl.MaxKeys), val, dead, d.below(allKeys+1)&d.below(allKeys+1))
				sites[i], all = s, append(all, w)
				continue
			}
			var some []impl.Write
			for range d.below(8) {
				if len(all) > 0 {
					some = append(some, all[len(all)-1-d.below(min(len(all), 20))])
				}
			}
			sites[i] = checkSee(t, sites[i], some)
			if d.below(4) == 0 {
				sites[i] = impl.ShimBack(i, sites[i].Log)
			}
		}
		for i, s := range sites {
			if got := checkSee(t, s, all); !sameList(got.Local, joined(all)) {
				t.Fatalf("site %d shows %v, want %v", i, got.Local, joined(all))
			}
		}
	}
}

func TestShimAll(t *testing.T) {
	for _, s := range someShims() {
		for mask := range allKeys + 1 {
			var want []impl.Write
			for _, w := range s.Local {
				if mask/(1<<w.Key)%2 == 1 {
					want = append(want, w)
				}
			}
			for _, more := range []int{0, allKeys + 1, 1 << 62} {
				if got := impl.ShimAll(s, mask+more); !sameList(got, want) {
					t.Fatalf("ShimAll(%v, %d) = %v, want %v", s, mask+more, got, want)
				}
			}
		}
		if got := impl.ShimAll(s, math.MaxInt); !sameList(got, s.Local) {
			t.Errorf("the greatest mask: ShimAll(%v) = %v", s, got)
		}
		for _, mask := range []int{-1, -2, -64, math.MinInt, math.MinInt + 63} {
			if got := impl.ShimAll(s, mask); len(got) != 0 {
				t.Errorf("mask %d: ShimAll = %v", mask, got)
			}
		}
	}
}

// TestShimLeavesArguments: neither arguments nor the spare room behind them are written by a call, or by what is done to its answer.
func TestShimLeavesArguments(t *testing.T) {
	shims := someShims()
	for _, name := range []string{"Local without one", "no cut", "Local, keys fall"} {
		shims = append(shims, badShims()[name])
	}
	for _, was := range shims {
		for _, seen := range [][]impl.Write{nil, fullMap(0), later(fullMap(1), 20), causal(), {{}, at1(0, 1)}, later(causal(), 40)} {
			s, more := was, roomy(seen)
			s.Local = roomy(was.Local)
			local, list := wholeOf(s.Local), wholeOf(more)
			impl.ShimOk(s)
			for _, d := range [][]impl.Dep{impl.Because(s.Local, allKeys), impl.Because(more, allKeys)} {
				clear(d[:cap(d)])
			}
			next, w, _ := impl.ShimPut(s, 1, 5, false, allKeys)
			spoil(next.Local)
			spoil([]impl.Write{w})
			next, _ = impl.ShimSee(s, more)
			spoil(next.Local)
			spoil(impl.ShimAll(s, allKeys))
			if !sameList(wholeOf(s.Local), local) || !sameList(wholeOf(more), list) {
				t.Fatalf("written into an argument: %v, %v", s.Local, more)
			}
		}
	}
}

// TestShimReadsNoRoom: what lies behind a list's length changes no answer, and is not handed out.
func TestShimReadsNoRoom(t *testing.T) {
	for _, was := range someShims() {
		s := was
		s.Local = roomy(was.Local)
		more := later(fullMap(3), 20)
		if !impl.ShimOk(s) || !sameList(impl.ShimAll(s, allKeys), was.Local) || !slices.Equal(impl.Because(s.Local, allKeys), whyOf(was.Local, allKeys)) {
			t.Fatalf("what lies behind the list is read: %v", was)
		}
		seen, _ := impl.ShimSee(s, roomy(more[2:]))
		if !sameShim(seen, seenBy(was, more[2:])) {
			t.Fatalf("ShimSee with room behind: %v", seen)
		}
		answers := [][]impl.Write{seen.Local, impl.ShimAll(s, allKeys)}
		if was.Clock < impl.MaxClock && was.Seq < impl.MaxSeq {
			next, w, _ := impl.ShimPut(s, 3, 1, false, allKeys)
			want, ww := putBy(was, 3, 1, false, allKeys)
			if !sameShim(next, want) || !sameWrite(w, ww) {
				t.Fatalf("ShimPut with room behind: %v, %v", next, w)
			}
			answers = append(answers, next.Local, []impl.Write{w})
		}
		for _, list := range answers {
			for _, w := range wholeOf(list) {
				if w.Val == 88 || w.Val == 99 || slices.Contains(w.Deps, dep(8, 8, 8, 8)) {
					t.Errorf("what lies behind the list is handed out: %v", w)
				}
			}
		}
	}
}

// TestShimNewMemory: what is done to one list of an answer shows in no other list of it, and in no other answer.
func TestShimNewMemory(t *testing.T) {
	deps := []impl.Dep{dep(0, 1, 0, 1), dep(1, 1, 0, 1)}
	more := []impl.Write{at1(0, 1), at1(1, 1), put(2, tag(5, 0, 2), 1, deps...), put(3, tag(5, 0, 3), 1, deps...), put(3, tag(5, 0, 3), 1, deps...)}
	s := checkSee(t, impl.ShimNew(1), more)
	for name, ask := range map[string]func() []impl.Write{
		"back": func() []impl.Write { return impl.ShimBack(1, s.Log).Local },
		"all":  func() []impl.Write { return impl.ShimAll(s, allKeys) },
		"see": func() []impl.Write {
			next, _ := impl.ShimSee(impl.ShimNew(1), more)
			return next.Local
		},
		"see again": func() []impl.Write {
			next, _ := impl.ShimSee(s, more)
			return next.Local
		},
		"put": func() []impl.Write {
			next, _, _ := impl.ShimPut(s, 4, 1, false, allKeys)
			return next.Local
		},
		// The write that was put is an answer of its own beside Local, which has it, too.
		"put, and the write": func() []impl.Write {
			next, w, _ := impl.ShimPut(s, 4, 1, false, allKeys)
			return append(next.Local, w)
		},
	} {
		sharesNone(t, name, ask)
	}
	why := impl.Because(s.Local, allKeys)
	clear(why[:cap(why)])
	if got := impl.Because(s.Local, allKeys); !slices.Equal(got, whyOf(s.Local, allKeys)) {
		t.Errorf("two answers of Because share memory: %v", got)
	}
}
