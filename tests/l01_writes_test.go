package tests

import (
	"math"
	"reflect"
	"slices"
	"strings"
	"testing"

	"loop.example/g00579/impl"
)

func tag(clock int, site int, seq int) impl.Tag {
	return impl.Tag{Clock: clock, Site: site, Seq: seq}
}

func dep(key int, clock int, site int, seq int) impl.Dep {
	return impl.Dep{Key: key, T: tag(clock, site, seq)}
}

func sign(n int) int {
	switch {
	case n < 0:
		return -1
	case n > 0:
		return 1
	}
	return 0
}

// someWrites: writes that are WriteOk, at the limits and within them, no two the same.
func someWrites() []impl.Write {
	last := tag(impl.MaxClock, impl.MaxSites-1, impl.MaxSeq)
	var full []impl.Dep
	for k := range impl.MaxKeys {
		full = append(full, dep(k, impl.MaxClock, impl.MaxSites-1, impl.MaxSeq-1))
	}
	list := []impl.Write{
		{Key: 0, T: tag(1, 0, 1)},
		{Key: 0, T: tag(1, 0, 1), Dead: true},
		{Key: impl.MaxKeys - 1, T: last, Val: impl.MaxVal, Deps: full},
		{Key: impl.MaxKeys - 1, T: last, Val: -impl.MaxVal, Deps: full[:impl.MaxKeys-1]},
		{Key: impl.MaxKeys - 1, T: last, Dead: true, Deps: full[1:]},
	}
	for _, t := range []impl.Tag{tag(5, 1, 2), tag(5, 1, 3), tag(5, 2, 1), tag(6, 0, 1)} {
		for _, key := range []int{2, 3} {
			for _, val := range []int{-7, 0, 7} {
				for _, deps := range [][]impl.Dep{nil, {dep(1, 5, 1, 1)}, {dep(1, 5, 1, 1), dep(4, 2, 3, 9)}, {dep(1, 4, 3, 9)}, {dep(2, 1, 0, 1)}} {
					list = append(list, impl.Write{Key: key, T: t, Val: val, Deps: deps})
					if val == 0 {
						list = append(list, impl.Write{Key: key, T: t, Dead: true, Deps: deps})
					}
				}
			}
		}
	}
	return list
}

func TestNumText(t *testing.T) {
	for n, want := range map[int]string{
		0: "0", 7: "7", -7: "-7", 10: "10", -10: "-10", 1000000: "1000000",
		math.MaxInt: "9223372036854775807", math.MinInt: "-9223372036854775808",
	} {
		if got := impl.NumText(n); got != want {
			t.Errorf("NumText(%d) = %q, want %q", n, got, want)
		}
	}
}

func TestTagOkLimits(t *testing.T) {
	for _, c := range []struct {
		t    impl.Tag
		want bool
	}{
		{tag(1, 0, 1), true},
		{tag(impl.MaxClock, impl.MaxSites-1, impl.MaxSeq), true},
		{tag(5, 2, 77), true},
		{impl.Tag{}, false},
		{tag(0, 0, 1), false},
		{tag(-1, 0, 1), false},
		{tag(impl.MaxClock+1, 0, 1), false},
		{tag(1, -1, 1), false},
		{tag(1, impl.MaxSites, 1), false},
		{tag(1, 0, 0), false},
		{tag(1, 0, -1), false},
		{tag(1, 0, impl.MaxSeq+1), false},
		{tag(math.MaxInt, 0, 1), false},
		{tag(1, math.MinInt, 1), false},
		{tag(1, 0, math.MaxInt), false},
	} {
		if got := impl.TagOk(c.t); got != c.want {
			t.Errorf("TagOk(%v) = %v", c.t, got)
		}
	}
}

// TestTagCmpOrder: the list stands in order; so each two are asked, tags that are not TagOk among them.
func TestTagCmpOrder(t *testing.T) {
	list := []impl.Tag{
		tag(math.MinInt, 5, 5),
		tag(-1, 0, 0),
		tag(0, 0, 0),
		tag(1, math.MinInt, math.MaxInt),
		tag(1, 0, math.MinInt),
		tag(1, 0, 1),
		tag(1, 0, 2),
		tag(1, 0, impl.MaxSeq),
		tag(1, 0, 1<<20),
		tag(1, 1, 1),
		tag(1, 3, 9),
		tag(1, 1<<20, 0),
		tag(2, 0, 1),
		tag(2, 3, impl.MaxSeq),
		tag(3, 0, 1),
		tag(impl.MaxClock, impl.MaxSites-1, impl.MaxSeq),
		tag(math.MaxInt, math.MinInt, math.MinInt),
	}
	for i, a := range list {
		for j, b := range list {
			if got := impl.TagCmp(a, b); got != sign(i-j) {
				t.Errorf("TagCmp(%v, %v) = %d, want %d", a, b, got, sign(i-j))
			}
		}
	}
}

func TestDepsOk(t *testing.T) {
	var full []impl.Dep
	for k := range impl.MaxKeys {
		full = append(full, dep(k, impl.MaxClock, impl.MaxSites-1, impl.MaxSeq))
	}
	for _, c := range []struct {
		name string
		list []impl.Dep
		want bool
	}{
		{"nil", nil, true},
		{"empty", []impl.Dep{}, true},
		{"least", []impl.Dep{dep(0, 1, 0, 1)}, true},
		{"greatest", []impl.Dep{dep(impl.MaxKeys-1, impl.MaxClock, impl.MaxSites-1, impl.MaxSeq)}, true},
		{"all keys", full, true},
		{"rising, tags falling", []impl.Dep{dep(1, 9, 0, 1), dep(3, 2, 0, 1)}, true},
		{"key below", []impl.Dep{dep(-1, 1, 0, 1)}, false},
		{"key past", []impl.Dep{dep(impl.MaxKeys, 1, 0, 1)}, false},
		{"last key past", append(slices.Clone(full), dep(impl.MaxKeys, 1, 0, 1)), false},
		{"key twice", []impl.Dep{dep(1, 1, 0, 1), dep(1, 2, 0, 1)}, false},
		{"key 0 twice", []impl.Dep{dep(0, 1, 0, 1), dep(0, 2, 0, 1)}, false},
		{"keys fall", []impl.Dep{dep(2, 1, 0, 1), dep(1, 2, 0, 1)}, false},
		{"keys fall at last", []impl.Dep{dep(0, 1, 0, 1), dep(3, 1, 0, 1), dep(2, 2, 0, 1)}, false},
		{"zero tag", []impl.Dep{{Key: 1}}, false},
		{"clock past", []impl.Dep{dep(1, impl.MaxClock+1, 0, 1)}, false},
		{"site past", []impl.Dep{dep(1, 1, impl.MaxSites, 1)}, false},
		{"seq past, last one", []impl.Dep{dep(1, 1, 0, 1), dep(2, 1, 0, impl.MaxSeq+1)}, false},
	} {
		if got := impl.DepsOk(c.list); got != c.want {
			t.Errorf("%s: DepsOk = %v", c.name, got)
		}
	}
}

// badWrites: writes that are not WriteOk, each by one fault alone.
func badWrites() map[string]impl.Write {
	own := tag(5, 1, 2)
	with := func(deps ...impl.Dep) impl.Write {
		return impl.Write{Key: 2, T: own, Val: 3, Deps: deps}
	}
	return map[string]impl.Write{
		"zero value":         {},
		"key below":          {Key: -1, T: own},
		"key past":           {Key: impl.MaxKeys, T: own},
		"clock 0":            {Key: 2, T: tag(0, 1, 2)},
		"clock past":         {Key: 2, T: tag(impl.MaxClock+1, 1, 2)},
		"site below":         {Key: 2, T: tag(5, -1, 2)},
		"site past":          {Key: 2, T: tag(5, impl.MaxSites, 2)},
		"seq 0":              {Key: 2, T: tag(5, 1, 0)},
		"seq past":           {Key: 2, T: tag(5, 1, impl.MaxSeq+1)},
		"value past":         {Key: 2, T: own, Val: impl.MaxVal + 1},
		"value below":        {Key: 2, T: own, Val: -impl.MaxVal - 1},
		"least int":          {Key: 2, T: own, Val: math.MinInt},
		"dead with a value":  {Key: 2, T: own, Val: 1, Dead: true},
		"dead with one < 0":  {Key: 2, T: own, Val: -1, Dead: true},
		"dead, value past":   {Key: 2, T: own, Val: impl.MaxVal + 1, Dead: true},
		"dep key below":      with(dep(-1, 1, 0, 1)),
		"dep key past":       with(dep(impl.MaxKeys, 1, 0, 1)),
		"dep keys alike":     with(dep(1, 1, 0, 1), dep(1, 2, 0, 1)),
		"dep keys fall":      with(dep(1, 1, 0, 1), dep(0, 2, 0, 1)),
		"dep zero tag":       with(impl.Dep{Key: 1}),
		"dep seq past":       with(dep(1, 1, 0, impl.MaxSeq+1)),
		"dep the same tag":   with(dep(1, 5, 1, 2)),
		"dep later by seq":   with(dep(1, 5, 1, 3)),
		"dep later by site":  with(dep(1, 5, 2, 1)),
		"dep later by clock": with(dep(1, 6, 0, 1)),
		"last dep too late":  with(dep(1, 1, 0, 1), dep(3, 5, 1, 2)),
		"first dep too late": with(dep(1, 6, 0, 1), dep(3, 1, 0, 1)),
	}
}

func TestWriteOk(t *testing.T) {
	for _, w := range someWrites() {
		if !impl.WriteOk(w) {
			t.Errorf("WriteOk(%v) = false", w)
		}
	}
	for name, w := range badWrites() {
		if impl.WriteOk(w) {
			t.Errorf("%s: WriteOk = true", name)
		}
	}
}

// TestWriteOkDepAhead: of two tags at the limits a write may have the one as a Dep just where it comes ahead.
func TestWriteOkDepAhead(t *testing.T) {
	var tags []impl.Tag
	for _, clock := range []int{1, 2, impl.MaxClock - 1, impl.MaxClock} {
		for _, site := range []int{0, 1, impl.MaxSites - 1} {
			for _, seq := range []int{1, 2, impl.MaxSeq - 1, impl.MaxSeq} {
				tags = append(tags, tag(clock, site, seq))
			}
		}
	}
	for i, own := range tags {
		for j, of := range tags {
			w := impl.Write{Key: 1, T: own, Deps: []impl.Dep{{Key: 1, T: of}}}
			if got := impl.WriteOk(w); got != (j < i) {
				t.Errorf("WriteOk of %v because of %v = %v", own, of, got)
			}
		}
	}
}

// TestWriteCmpOrder: each write of the list comes ahead of all behind it, by one thing, while what is asked later speaks for the other side.
func TestWriteCmpOrder(t *testing.T) {
	late := []impl.Dep{dep(5, 9, 3, 9)}
	w := func(t impl.Tag, key int, val int, dead bool, deps ...impl.Dep) impl.Write {
		return impl.Write{Key: key, T: t, Val: val, Dead: dead, Deps: deps}
	}
	list := []impl.Write{
		w(tag(-1, 3, 9), 9, 9, true, late...),
		w(tag(1, 3, 9), 5, 9, true, late...),
		w(tag(2, 0, 9), 5, 9, true, late...),
		w(tag(2, 1, 1), 5, 9, true, late...),
		w(tag(2, 1, 2), -1, 9, true, late...),
		w(tag(2, 1, 2), 0, 9, true, late...),
		w(tag(2, 1, 2), 1, math.MinInt, true, late...),
		w(tag(2, 1, 2), 1, -1, true, late...),
		w(tag(2, 1, 2), 1, 0, true, late...),
		w(tag(2, 1, 2), 1, 1, false),
		w(tag(2, 1, 2), 1, 1, false, dep(0, 1, 0, 1)),
		w(tag(2, 1, 2), 1, 1, false, dep(0, 1, 0, 1), dep(0, 0, 0, 0)),
		w(tag(2, 1, 2), 1, 1, false, dep(0, 1, 0, 1), dep(2, 9, 3, 9), dep(5, 9, 3, 9)),
		w(tag(2, 1, 2), 1, 1, false, dep(0, 1, 0, 1), dep(3, 1, 0, 1)),
		w(tag(2, 1, 2), 1, 1, false, dep(0, 1, 0, 2), dep(1, 1, 0, 1)),
		w(tag(2, 1, 2), 1, 1, false, dep(0, 1, 1, 1)),
		w(tag(2, 1, 2), 1, 1, false, dep(0, 2, 0, 1)),
		w(tag(2, 1, 2), 1, 1, false, dep(1, 1, 0, 1)),
		w(tag(2, 1, 2), 1, 1, true),
		w(tag(2, 1, 2), 1, 1, true, dep(-1, 1, 0, 1)),
		w(tag(2, 1, 2), 1, math.MaxInt, false),
		w(tag(2, 1, 2), 2, 0, false),
		w(tag(2, 1, 3), 0, 0, false),
		w(tag(2, 2, 0), 0, 0, false),
		w(tag(3, 0, 0), 0, 0, false),
	}
	for i, a := range list {
		for j, b := range list {
			if got := impl.WriteCmp(a, b); got != sign(i-j) {
				t.Errorf("WriteCmp(%v, %v) = %d, want %d", a, b, got, sign(i-j))
			}
		}
	}
}

// TestWriteCmpWhole: of each two writes one comes ahead, from both sides told alike; only the same are 0.
func TestWriteCmpWhole(t *testing.T) {
	list := someWrites()
	slices.SortFunc(list, impl.WriteCmp)
	for i, a := range list {
		for j, b := range list {
			if got := impl.WriteCmp(a, b); got != sign(i-j) {
				t.Errorf("WriteCmp(%v, %v) = %d, want %d", a, b, got, sign(i-j))
			}
		}
	}
}

func TestWriteCmpEmptyDeps(t *testing.T) {
	a := impl.Write{Key: 1, T: tag(1, 0, 1), Deps: nil}
	b := impl.Write{Key: 1, T: tag(1, 0, 1), Deps: []impl.Dep{}}
	if impl.WriteCmp(a, b) != 0 || impl.WriteCmp(b, a) != 0 || impl.WriteText(a) != impl.WriteText(b) {
		t.Error("an empty list and nil are not the same")
	}
}

func TestWriteText(t *testing.T) {
	for want, w := range map[string]impl.Write{
		"w 0 1 0 1 0 0 0":                      {T: tag(1, 0, 1)},
		"w 0 1 0 1 0 1 0":                      {T: tag(1, 0, 1), Dead: true},
		"w 2 5 1 2 -3 0 1 0 1 0 1":             {Key: 2, T: tag(5, 1, 2), Val: -3, Deps: []impl.Dep{dep(0, 1, 0, 1)}},
		"w 5 100000 3 1000 1000000 0 0":        {Key: 5, T: tag(100000, 3, 1000), Val: 1000000},
		"w 5 100000 3 1000 -1000000 0 0":       {Key: 5, T: tag(100000, 3, 1000), Val: -1000000},
		"w 4 30 2 12 0 1 2 1 29 3 40 4 30 2 8": {Key: 4, T: tag(30, 2, 12), Dead: true, Deps: []impl.Dep{dep(1, 29, 3, 40), dep(4, 30, 2, 8)}},
	} {
		if got := impl.WriteText(w); got != want {
			t.Errorf("WriteText(%v) = %q, want %q", w, got, want)
		}
	}
	for name, w := range badWrites() {
		if got := impl.WriteText(w); got != "" {
			t.Errorf("%s: WriteText = %q", name, got)
		}
	}
}

// sameWrite: the same in all; an empty list and nil are the same.
func sameWrite(a impl.Write, b impl.Write) bool {
	if len(a.Deps) == 0 && len(b.Deps) == 0 {
		a.Deps, b.Deps = nil, nil
	}
	return reflect.DeepEqual(a, b)
}

func TestWriteReadAsItWas(t *testing.T) {
	texts := map[string]impl.Write{}
	for _, w := range someWrites() {
		s := impl.WriteText(w)
		if other, ok := texts[s]; ok {
			t.Errorf("%v and %v have one text, %q", other, w, s)
		}
		texts[s] = w
		got, ok := impl.WriteRead(s)
		if !ok || !sameWrite(got, w) {
			t.Errorf("WriteRead(%q) = %v, %v, want %v", s, got, ok, w)
		}
	}
}

func readsNothing(t *testing.T, s string) {
	t.Helper()
	if w, ok := impl.WriteRead(s); ok || !sameWrite(w, impl.Write{}) {
		t.Errorf("WriteRead(%q) = %v, %v", s, w, ok)
	}
}

func TestWriteReadWrongTexts(t *testing.T) {
	for _, s := range []string{
		"", " ", "w", "w ", "w 2", "2", "\x00", "\xff\xfe",
		"w 2 5 1 2 -3 0",   // no count
		"w 2 5 1 2 -3 2 0", // Dead is neither 0 nor 1
		"w 2 5 1 2 0 -1 0",
		"w 2 5 1 2 -3 0 0 ", // a blank too many
		" w 2 5 1 2 -3 0 0",
		"w  2 5 1 2 -3 0 0",
		"w 2 5 1 2 -3 0  0",
		"w 2 5 1 2 -3 0 0\n", // other signs
		"w\t2 5 1 2 -3 0 0",
		"w 2 5 1 2 -3 0 0 w 2 5 1 2 -3 0 0",
		"W 2 5 1 2 -3 0 0", // another mark
		"v 2 5 1 2 -3 0 0",
		"ww 2 5 1 2 -3 0 0",
		"0 2 5 1 2 -3 0 0",
		" 2 5 1 2 -3 0 0",
		"2 5 1 2 -3 0 0",
		"w +2 5 1 2 -3 0 0", // numbers spelt otherwise
		"w 02 5 1 2 -3 0 0",
		"w 2 5 1 2 -03 0 0",
		"w 2 5 1 2 -0 0 0",
		"w 2 5 1 2 +0 0 0",
		"w 2 5 1 2 --3 0 0",
		"w 2 5 1 2 - 0 0",
		"w 2 5 1 2 3. 0 0",
		"w 2 0x5 1 2 3 0 0",
		"w 2 1_0 1 2 3 0 0",
		"w 2 5 1 2 1e3 0 0",
		"w 2 ٥ 1 2 3 0 0",
		"w 2 5 1 2 x 0 0",
		"w 2 5 1 2 18446744073709551617 0 0", // 2 to the 64, and 1
		"w 2 5 1 2 9223372036854775807 0 0",
		"w 2 5 1 2 -9223372036854775808 0 0",
		"w 2 5 1 2 3 00 0",
		"w 2 5 1 2 3 0 00",
		"w 2 5 1 2 3 true 0",
		"w 2 5 1 2 3 0 1", // a count that is not so
		"w 2 5 1 2 3 0 -1",
		"w 2 5 1 2 3 0 9223372036854775807",
		"w 2 5 1 2 3 0 0 0 1 0 1",
		"w 2 5 1 2 3 0 2 0 1 0 1",
		"w 2 5 1 2 3 0 1 0 1 0",
		"w 2 5 1 2 3 0 1 0 1 0 1 ",
		"w 2 5 1 2 3 0 1 0 1 0 1 1",
		"w 2 5 1 2 3 0 1 0 1 0 1 1 1 0 1",
		"w 2 5 1 2 3 0 2 0 1 0 1 1 1 0",
		"w 2 5 1 2 3 0 0" + strings.Repeat(" ", 9),
	} {
		readsNothing(t, s)
	}
}

// TestWriteReadNotOk: the words of a write that is not WriteOk, written as WriteText would write them.
func TestWriteReadNotOk(t *testing.T) {
	for _, s := range []string{
		"w -1 5 1 2 3 0 0",
		"w 6 5 1 2 3 0 0",
		"w 2 0 1 2 3 0 0",
		"w 2 100001 1 2 3 0 0",
		"w 2 5 -1 2 3 0 0",
		"w 2 5 4 2 3 0 0",
		"w 2 5 1 0 3 0 0",
		"w 2 5 1 1001 3 0 0",
		"w 2 5 1 2 1000001 0 0",
		"w 2 5 1 2 -1000001 0 0",
		"w 2 5 1 2 3 1 0",
		"w 2 5 1 2 -3 1 0",
		"w 2 5 1 2 3 0 1 -1 1 0 1",
		"w 2 5 1 2 3 0 1 6 1 0 1",
		"w 2 5 1 2 3 0 1 1 0 0 1",
		"w 2 5 1 2 3 0 1 1 1 4 1",
		"w 2 5 1 2 3 0 1 1 1 0 1001",
		"w 2 5 1 2 3 0 1 1 5 1 2",
		"w 2 5 1 2 3 0 1 1 6 0 1",
		"w 2 5 1 2 3 0 2 1 1 0 1 1 2 0 1",
		"w 2 5 1 2 3 0 2 1 1 0 1 0 2 0 1",
		"w 2 5 1 2 3 0 7 0 1 0 1 1 1 0 1 2 1 0 1 3 1 0 1 4 1 0 1 5 1 0 1 6 1 0 1",
		"w 2 5 1 2 3 0 7 0 1 0 1 1 1 0 1 2 1 0 1 3 1 0 1 4 1 0 1 5 1 0 1 5 1 0 1",
	} {
		readsNothing(t, s)
	}
}

// TestWriteReadSignBySign: a text with one sign gone, changed or come in is read only where it is, sign by sign, the text of what is read.
func TestWriteReadSignBySign(t *testing.T) {
	const signs = "\x00\n +-.0123456789w\xff"
	for _, w := range someWrites()[:20] {
		s := impl.WriteText(w)
		var near []string
		for i := range len(s) {
			near = append(near, s[:i]+s[i+1:], s[:i], s[i:])
			for _, c := range []byte(signs) {
				near = append(near, s[:i]+string([]byte{c})+s[i+1:], s[:i]+string([]byte{c})+s[i:])
			}
		}
		for _, c := range []byte(signs) {
			near = append(near, s+string([]byte{c}))
		}
		for _, n := range near {
			got, ok := impl.WriteRead(n)
			if ok != impl.WriteOk(got) || ok && impl.WriteText(got) != n || !ok && !sameWrite(got, impl.Write{}) {
				t.Fatalf("WriteRead(%q) = %v, %v", n, got, ok)
			}
		}
	}
}

func TestWriteReadLongTexts(t *testing.T) {
	for _, s := range []string{
		strings.Repeat(" ", 1<<20),
		"w" + strings.Repeat(" 1", 1<<20),
		"w 2 5 1 2 3 0 " + strings.Repeat("0", 1<<20),
		strings.Repeat("w", 1<<20),
	} {
		if w, ok := impl.WriteRead(s); ok || !sameWrite(w, impl.Write{}) {
			t.Errorf("a text of %d bytes is read as %v", len(s), w)
		}
	}
}

// TestWritesLeaveArguments: neither the lists handed in nor the spare room behind them are written, and what lies there is not read.
func TestWritesLeaveArguments(t *testing.T) {
	room := []impl.Dep{dep(0, 1, 0, 1), dep(3, 2, 1, 4), dep(-8, -8, -8, -8), dep(1, 1, 1, 1)}
	for _, bad := range []bool{false, true} {
		if bad {
			room[1].Key = 0
		}
		kept := slices.Clone(room)
		w := impl.Write{Key: 2, T: tag(5, 1, 2), Val: 3, Deps: room[:2]}
		v := impl.Write{Key: 2, T: tag(5, 1, 2), Val: 3, Deps: kept[:2:2]}
		if impl.DepsOk(w.Deps) == bad || impl.WriteOk(w) == bad {
			t.Errorf("bad %v: what lies behind the list is read", bad)
		}
		if impl.WriteCmp(w, v) != 0 || impl.WriteCmp(v, w) != 0 || impl.WriteText(w) != impl.WriteText(v) {
			t.Errorf("bad %v: what lies behind the list counts", bad)
		}
		if !slices.Equal(room, kept) {
			t.Errorf("bad %v: the argument is %v now", bad, room)
		}
	}
}

// TestWriteReadNewMemory: what one answer's list is made to hold shows in no other answer.
func TestWriteReadNewMemory(t *testing.T) {
	s := "w 4 30 2 12 0 1 2 1 29 3 40 4 30 2 8"
	a, _ := impl.WriteRead(s)
	b, _ := impl.WriteRead(s)
	a.Deps[0] = dep(9, 9, 9, 9)
	_ = append(a.Deps, dep(8, 8, 8, 8))
	c, ok := impl.WriteRead(s)
	if !ok || impl.WriteText(b) != s || impl.WriteText(c) != s {
		t.Errorf("read %v and %v, want the writes of %q", b, c, s)
	}
	if cap(b.Deps) > len(b.Deps) && b.Deps[:cap(b.Deps)][len(b.Deps)] == dep(8, 8, 8, 8) {
		t.Error("two answers share the room behind their lists")
	}
}
