package tests

import (
	"fmt"
	"hash/crc32"
	"slices"
	"strings"
	"testing"

	"loop.example/g00579/impl"
)

// nearSigns: signs that a changed log may have: those that a log is made of, and some that it is not.
const nearSigns = "\x00\t\n\r +-.0123456789abchmstuw\x7f\x80\xff"

// summed: a body with the sum behind it that it must have.
func summed(body string) string {
	return fmt.Sprintf("%ssum %d\n", body, crc32.ChecksumIEEE([]byte(body)))
}

// lined: the lines of a batch, each ended, with the right sum.
func lined(lines ...string) string {
	return summed(strings.Join(lines, "\n") + "\n")
}

// logText: the text of some writes, line by line; empty where they are no batch.
func logText(list []impl.Write) string {
	if len(list) == 0 || len(list) > impl.MaxKeys {
		return ""
	}
	lines := []string{fmt.Sprintf("batch %d", len(list))}
	for _, w := range list {
		if !impl.WriteOk(w) {
			return ""
		}
		lines = append(lines, impl.WriteText(w))
	}
	return lined(lines...)
}

// manyDeps: a write of the last key with a Dep of each key.
func manyDeps(val int) impl.Write {
	w := put(impl.MaxKeys-1, tag(impl.MaxClock, impl.MaxSites-1, impl.MaxSeq), val)
	for k := range impl.MaxKeys {
		w.Deps = append(w.Deps, dep(k, impl.MaxClock, impl.MaxSites-1, impl.MaxSeq-1))
	}
	return w
}

// logBatches: batches of all kinds: one write and MaxKeys, no Deps and many, one key twice, one write twice, keys in any order.
func logBatches() [][]impl.Write {
	return [][]impl.Write{
		{put(0, tag(1, 0, 1), 0)},
		{gone(5, tag(9, 3, 2), dep(0, 1, 0, 1))},
		{manyDeps(impl.MaxVal)},
		fullMap(0),
		slices.Repeat([]impl.Write{manyDeps(-impl.MaxVal)}, impl.MaxKeys),
		{put(2, tag(1, 0, 1), 1), put(2, tag(2, 0, 2), 2), put(2, tag(1, 1, 1), 3)},
		{put(4, tag(2, 0, 1), -7), put(4, tag(2, 0, 1), -7)},
		{put(5, tag(7, 1, 1), 1), gone(3, tag(6, 1, 2)), put(0, tag(5, 1, 3), 1, dep(3, 4, 0, 1), dep(5, 4, 0, 2))},
		rising(3)[:5],
		causal()[:impl.MaxKeys],
	}
}

// someLogs: lists of batches: none, each alone, each two, and all.
func someLogs() [][][]impl.Write {
	all := logBatches()
	logs := [][][]impl.Write{nil, all}
	for _, a := range all {
		logs = append(logs, [][]impl.Write{a}, [][]impl.Write{a, a, a})
		for _, b := range all {
			logs = append(logs, [][]impl.Write{a, b})
		}
	}
	return logs
}

func textsOf(batches [][]impl.Write) []string {
	var texts []string
	for _, list := range batches {
		texts = append(texts, impl.BatchText(list))
	}
	return texts
}

// checkRead: the log s is read as these batches and no more, so many bytes as their texts have.
func checkRead(t *testing.T, name string, s string, want [][]impl.Write) {
	t.Helper()
	size := 0
	for _, list := range want {
		size += len(logText(list))
	}
	got, used := impl.LogRead(s)
	same := slices.EqualFunc(got, want, func(b impl.Batch, list []impl.Write) bool { return sameList(b.Ws, list) })
	if !same || used != size {
		t.Fatalf("%s: LogRead(%.300q) = %v, %d, want %v, %d", name, s, got, used, want, size)
	}
}

// wholeAhead: how many of the texts s begins with, one behind the other.
func wholeAhead(s string, texts []string) int {
	for i, text := range texts {
		rest, ok := strings.CutPrefix(s, text)
		if !ok {
			return i
		}
		s = rest
	}
	return len(texts)
}

func TestCrc(t *testing.T) {
	for s, want := range map[string]int{
		"":                           0,
		"123456789":                  3421780262,
		"a":                          3904355907,
		"\x00":                       3523407757,
		"\xff":                       4278190080,
		"\xff\xff\xff\xff":           4294967295,
		"\x00\x00\x00\x00":           558161692,
		"batch 1\nw 0 1 0 1 7 0 0\n": 1403862638,
	} {
		if got := impl.Crc(s); got != want {
			t.Errorf("Crc(%q) = %d, want %d", s, got, want)
		}
	}
}

func TestCrcOfMany(t *testing.T) {
	texts := []string{strings.Repeat("\x00", 1000), strings.Repeat("w 1\n", 1<<18), "é世界\u2028"}
	for i := range 256 {
		b := string([]byte{byte(i)})
		texts = append(texts, b, b+b, "a"+b, b+"\n")
	}
	d := dice(37)
	for range 500 {
		var text []byte
		for range d.below(200) {
			text = append(text, byte(d.below(256)))
		}
		texts = append(texts, string(text))
	}
	for _, s := range texts {
		if got, want := impl.Crc(s), int(crc32.ChecksumIEEE([]byte(s))); got != want {
			t.Errorf("Crc(%.20q) = %d, want %d", s, got, want)
		}
	}
}

func TestBatchText(t *testing.T) {
	a := put(0, tag(1, 0, 1), 7)
	b := put(1, tag(2, 1, 1), -8, dep(0, 1, 0, 1))
	c := gone(1, tag(3, 2, 9), dep(0, 1, 0, 1), dep(1, 2, 1, 1))
	for want, list := range map[string][]impl.Write{
		"batch 1\nw 0 1 0 1 7 0 0\nsum 1403862638\n":                                                                     {a},
		"batch 2\nw 1 3 2 9 0 1 2 0 1 0 1 1 2 1 1\nw 0 1 0 1 7 0 0\nsum 3312821209\n":                                    {c, a},
		"batch 3\nw 1 2 1 1 -8 0 1 0 1 0 1\nw 1 2 1 1 -8 0 1 0 1 0 1\nw 1 3 2 9 0 1 2 0 1 0 1 1 2 1 1\nsum 1592960562\n": {b, b, c},
	} {
		if got := impl.BatchText(list); got != want {
			t.Errorf("BatchText(%v) = %q, want %q", list, got, want)
		}
	}
}

func TestBatchTextOfMany(t *testing.T) {
	lists := slices.Concat(logBatches(), [][]impl.Write{nil, {}})
	for _, w := range slices.Concat(someWrites(), rising(2), causal()) {
		lists = append(lists, []impl.Write{w}, []impl.Write{w, manyDeps(1)})
	}
	d := dice(41)
	for n := range impl.MaxKeys + 4 {
		for range 100 {
			lists = append(lists, thrown(&d, n))
		}
	}
	for _, list := range lists {
		got, want := impl.BatchText(list), logText(list)
		if got != want {
			t.Fatalf("BatchText(%v) = %q, want %q", list, got, want)
		}
		if (got == "") != (len(list) == 0 || len(list) > impl.MaxKeys) {
			t.Fatalf("BatchText of %d writes = %q", len(list), got)
		}
	}
}

func TestBatchTextWrong(t *testing.T) {
	good := put(2, tag(3, 0, 1), 1)
	lists := map[string][]impl.Write{
		"nil":       nil,
		"empty":     {},
		"one more":  slices.Repeat([]impl.Write{good}, impl.MaxKeys+1),
		"very many": slices.Repeat([]impl.Write{good}, 100000),
	}
	for name, w := range badWrites() {
		lists[name+", alone"] = []impl.Write{w}
		lists[name+", first"] = []impl.Write{w, good}
		lists[name+", in the midst"] = []impl.Write{good, w, good}
		lists[name+", last of all there may be"] = append(slices.Repeat([]impl.Write{good}, impl.MaxKeys-1), w)
	}
	for name, list := range lists {
		if got := impl.BatchText(list); got != "" {
			t.Errorf("%s: BatchText = %q", name, got)
		}
	}
	if impl.BatchText(slices.Repeat([]impl.Write{good}, impl.MaxKeys)) == "" {
		t.Error("as many writes as there may be have no text")
	}
}

// TestBatchTextApart: unlike batches have unlike texts, none of which begins another one.
func TestBatchTextApart(t *testing.T) {
	lists := logBatches()
	for _, w := range someWrites() {
		lists = append(lists, []impl.Write{w}, []impl.Write{manyDeps(1), w})
	}
	texts := textsOf(lists)
	for i, a := range texts {
		for j, b := range texts {
			if strings.HasPrefix(a, b) != sameList(lists[i], lists[j]) {
				t.Errorf("%v and %v: the text of one begins that of the other", lists[i], lists[j])
			}
		}
	}
}

func TestLogReadAsItWas(t *testing.T) {
	for _, log := range someLogs() {
		checkRead(t, "whole", strings.Join(textsOf(log), ""), log)
	}
	for _, w := range slices.Concat(someWrites(), rising(1), causal()) {
		checkRead(t, "one write", impl.BatchText([]impl.Write{w}), [][]impl.Write{{w}})
	}
}

func TestLogReadOfMany(t *testing.T) {
	d := dice(43)
	for range 300 {
		var log [][]impl.Write
		for range d.below(12) {
			log = append(log, thrown(&d, 1+d.below(impl.MaxKeys)))
		}
		texts := textsOf(log)
		s := strings.Join(texts, "")
		checkRead(t, "whole", s, log)
		for range 20 {
			cut := s[:d.below(len(s)+1)]
			checkRead(t, "cut", cut, log[:wholeAhead(cut, texts)])
		}
	}
}

// TestLogCutEverywhere: of a log cut at whichever place all that were whole are read, and nothing of the rest.
func TestLogCutEverywhere(t *testing.T) {
	for _, log := range someLogs() {
		texts := textsOf(log)
		s := strings.Join(texts, "")
		whole, end := 0, 0
		for at := range len(s) + 1 {
			for whole < len(texts) && at >= end+len(texts[whole]) {
				end += len(texts[whole])
				whole++
			}
			checkRead(t, "cut", s[:at], log[:whole])
		}
		if whole != len(log) {
			t.Fatalf("only %d of %d batches were cut", whole, len(log))
		}
	}
}

// TestLogCutAhead: a log whose first bytes are gone begins with no batch, but where it is cut between two.
func TestLogCutAhead(t *testing.T) {
	log := logBatches()[:6]
	texts := textsOf(log)
	s := strings.Join(texts, "")
	first, start := 0, 0
	for at := range len(s) + 1 {
		if first < len(texts) && at == start+len(texts[first]) {
			start = at
			first++
		}
		if at == start {
			checkRead(t, "between two", s[at:], log[first:])
		} else {
			checkRead(t, "in the midst", s[at:], nil)
		}
	}
}

// changedLogs: logs of few batches, so that each place may be changed in each way.
func changedLogs() [][][]impl.Write {
	all := logBatches()
	return [][][]impl.Write{all[:1], {all[5]}, {all[1], all[5], all[0]}, {all[0], all[0], all[7]}}
}

// TestLogChangedEverywhere: of a log with one byte changed, gone or come in, all batches ahead of it are read, and no other one.
func TestLogChangedEverywhere(t *testing.T) {
	for _, log := range changedLogs() {
		texts := textsOf(log)
		s := strings.Join(texts, "")
		check := func(name string, changed string) {
			checkRead(t, name, changed, log[:wholeAhead(changed, texts)])
		}
		for at := range len(s) + 1 {
			for _, c := range []byte(nearSigns) {
				check("come in", s[:at]+string([]byte{c})+s[at:])
				if at < len(s) {
					check("changed", s[:at]+string([]byte{c})+s[at+1:])
				}
			}
			if at < len(s) {
				check("gone", s[:at]+s[at+1:])
				for bit := range 8 {
					check("a bit", s[:at]+string([]byte{s[at] ^ 1<<bit})+s[at+1:])
				}
			}
		}
	}
}

// TestLogChangedStopsThere: what is behind a batch that is not whole is not read, be it as whole as it may.
func TestLogChangedStopsThere(t *testing.T) {
	all := logBatches()
	texts := textsOf(all)
	for i := range all {
		for at := range len(texts[i]) {
			changed := texts[i][:at] + "x" + texts[i][at+1:]
			s := strings.Join(texts[:i], "") + changed + strings.Join(texts[i+1:], "")
			checkRead(t, "changed", s, all[:i])
		}
		short := texts[i][:len(texts[i])-1]
		s := strings.Join(texts[:i], "") + short + strings.Join(texts[i+1:], "")
		checkRead(t, "its end gone", s, all[:i])
	}
}

// badLogs: texts that are no batch, each by one fault alone: where nothing else is said, the sum is right.
func badLogs() map[string]string {
	const w, v = "w 2 5 1 2 -3 0 0", "w 4 5 1 3 8 0 1 2 5 1 2"
	right := lined("batch 1", w)
	sum := strings.TrimPrefix(right, "batch 1\n"+w+"\nsum ")
	sum = strings.TrimSuffix(sum, "\n")
	body := "batch 1\n" + w + "\n"
	bad := map[string]string{
		"a blank":                    " ",
		"an end":                     "\n",
		"ends":                       "\n\n\n",
		"a word":                     "batch",
		"a head alone":               "batch 1\n",
		"a sum alone":                summed(""),
		"no head":                    lined(w),
		"no sum":                     body,
		"two sums":                   "sum 0\n" + summed("sum 0\n"),
		"no bytes of text":           "\x00\xff\xfe",
		"other words":                "some text\nof lines\n",
		"a write alone":              w + "\n",
		"count 0, none":              lined("batch 0"),
		"count 0, one":               lined("batch 0", w),
		"count 1, none":              lined("batch 1"),
		"count 1, two":               lined("batch 1", w, v),
		"count 2, one":               lined("batch 2", w),
		"count 2, three":             lined("batch 2", w, v, w),
		"count 6, five":              lined("batch 6", w, v, w, v, w),
		"count 6, seven":             lined("batch 6", w, v, w, v, w, v, w),
		"count 7, seven":             lined("batch 7", w, v, w, v, w, v, w),
		"count 7, six":               lined("batch 7", w, v, w, v, w, v),
		"count below 0":              lined("batch -1", w),
		"count -0":                   lined("batch -0"),
		"count with a leading 0":     lined("batch 01", w),
		"count with leading 0s":      lined("batch 0002", w, v),
		"count with a sign":          lined("batch +1", w),
		"count with a sign and a 0":  lined("batch +02", w, v),
		"count with a point":         lined("batch 1.", w),
		"count with a 0 behind":      lined("batch 1.0", w),
		"count of 16s":               lined("batch 0x1", w),
		"count in words":             lined("batch one", w),
		"count of other digits":      lined("batch ١", w),
		"count past all numbers":     lined("batch 18446744073709551617", w),
		"no count":                   lined("batch", w),
		"no count behind the blank":  lined("batch ", w),
		"no blank":                   lined("batch1", w),
		"two blanks":                 lined("batch  1", w),
		"a blank ahead":              lined(" batch 1", w),
		"a blank behind the count":   lined("batch 1 ", w),
		"a word behind the count":    lined("batch 1 1", w),
		"a tab":                      lined("batch\t1", w),
		"a byte 13 behind the head":  lined("batch 1\r", w),
		"another head":               lined("Batch 1", w),
		"a shorter head":             lined("batc 1", w),
		"an end ahead":               summed("\n" + body),
		"an end behind the head":     lined("batch 1", "", w),
		"an end behind the write":    lined("batch 1", w, ""),
		"no write in its line":       lined("batch 1", ""),
		"a blank in its line":        lined("batch 1", " "),
		"a blank behind the write":   lined("batch 1", w+" "),
		"a blank ahead of the write": lined("batch 1", " "+w),
		"a byte 13 behind the write": lined("batch 1", w+"\r"),
		"two writes in a line":       lined("batch 2", w+" "+v),
		"the second is none":         lined("batch 2", w, "v"),
		"the first is none":          lined("batch 2", "v", w),
		"a head as a write":          lined("batch 2", w, "batch 1"),
		"a batch within":             lined("batch 2", w, strings.TrimSuffix(right, "\n")),
		"a number spelt otherwise":   lined("batch 1", "w 02 5 1 2 -3 0 0"),
		"Deps that are not there":    lined("batch 1", "w 2 5 1 2 -3 0 1"),
		"the write is not WriteOk":   lined("batch 1", "w 6 5 1 2 -3 0 0"),
		"dead with a value":          lined("batch 1", "w 2 5 1 2 -3 1 0"),
		"a Dep too late":             lined("batch 1", "w 2 5 1 2 -3 0 1 1 5 1 2"),
	}
	for name, line := range map[string]string{
		"sum of none":               "sum ",
		"an empty line as the sum":  "",
		"sum without its word":      sum,
		"sum without its blank":     "sum" + sum,
		"sum with two blanks":       "sum  " + sum,
		"sum with a blank behind":   "sum " + sum + " ",
		"sum with a blank ahead":    " sum " + sum,
		"sum with a byte 13":        "sum " + sum + "\r",
		"sum with a tab":            "sum\t" + sum,
		"another word":              "Sum " + sum,
		"sum with a leading 0":      "sum 0" + sum,
		"sum with a sign":           "sum +" + sum,
		"sum below 0":               "sum -" + sum,
		"sum with a digit more":     "sum " + sum + "0",
		"sum with a digit less":     "sum " + sum[:len(sum)-1],
		"sum 0":                     "sum 0",
		"sum of 16s":                fmt.Sprintf("sum %x", crc32.ChecksumIEEE([]byte(body))),
		"sum 1 more":                fmt.Sprintf("sum %d", crc32.ChecksumIEEE([]byte(body))+1),
		"sum 1 less":                fmt.Sprintf("sum %d", crc32.ChecksumIEEE([]byte(body))-1),
		"sum past 32 bits":          fmt.Sprintf("sum %d", int(crc32.ChecksumIEEE([]byte(body)))+1<<32),
		"sum less 32 bits":          fmt.Sprintf("sum %d", int(crc32.ChecksumIEEE([]byte(body)))-1<<32),
		"sum not turned over":       fmt.Sprintf("sum %d", ^crc32.ChecksumIEEE([]byte(body))),
		"sum of another polynomial": fmt.Sprintf("sum %d", crc32.Checksum([]byte(body), crc32.MakeTable(crc32.Castagnoli))),
		"sum without the last end":  fmt.Sprintf("sum %d", crc32.ChecksumIEEE([]byte(body[:len(body)-1]))),
		"sum of the write alone":    fmt.Sprintf("sum %d", crc32.ChecksumIEEE([]byte(w+"\n"))),
		"sum with its word in it":   fmt.Sprintf("sum %d", crc32.ChecksumIEEE([]byte(body+"sum "))),
	} {
		bad[name] = body + line + "\n"
	}
	bad["sum without its end"] = strings.TrimSuffix(right, "\n")
	bad["sum ended otherwise"] = strings.TrimSuffix(right, "\n") + "\r"
	bad["all ended otherwise"] = strings.ReplaceAll(right, "\n", "\r\n")
	bad["no ends"] = strings.ReplaceAll(right, "\n", " ")
	return bad
}

func TestLogReadWrong(t *testing.T) {
	good := [][]impl.Write{{put(2, tag(5, 1, 2), -3)}, logBatches()[7]}
	ahead, behind := impl.BatchText(good[0]), impl.BatchText(good[1])
	for name, s := range badLogs() {
		checkRead(t, name, s, nil)
		checkRead(t, name+", a batch ahead", ahead+s, good[:1])
		checkRead(t, name+", a batch behind", s+behind, nil)
		checkRead(t, name+", amid batches", ahead+behind+s+ahead, good)
	}
	checkRead(t, "the right one", lined("batch 1", "w 2 5 1 2 -3 0 0"), good[:1])
	checkRead(t, "none", "", nil)
}

// TestLogReadWritesNotOk: the words of a write that is not WriteOk, with the right sum, are no batch.
func TestLogReadWritesNotOk(t *testing.T) {
	for name, w := range badWrites() {
		dead := 0
		if w.Dead {
			dead = 1
		}
		words := fmt.Sprint("w ", w.Key, " ", w.T.Clock, " ", w.T.Site, " ", w.T.Seq, " ", w.Val, " ", dead, " ", len(w.Deps))
		for _, d := range w.Deps {
			words += fmt.Sprint(" ", d.Key, " ", d.T.Clock, " ", d.T.Site, " ", d.T.Seq)
		}
		checkRead(t, name, lined("batch 1", words), nil)
		checkRead(t, name+", last", lined("batch 2", "w 2 5 1 2 -3 0 0", words), nil)
		checkRead(t, name+", empty", lined("batch 1", impl.WriteText(w)), nil)
	}
}

// TestLogReadBytesBehind: whatever is behind the last batch, it is as it was.
func TestLogReadBytesBehind(t *testing.T) {
	all := logBatches()
	for _, log := range [][][]impl.Write{nil, all[:1], all[3:6], all} {
		s := strings.Join(textsOf(log), "")
		for i := range 256 {
			checkRead(t, "a byte", s+string([]byte{byte(i)}), log)
		}
		for _, rest := range []string{"batch", "batch 1", "batch 1\n", "\nbatch 1\n", "sum 0\n", "\n\n", "\x00\x00\x00\x00", "w 0 1 0 1 0 0 0\n"} {
			checkRead(t, "behind", s+rest, log)
		}
		if len(s) > 0 {
			checkRead(t, "the log once more, but its first byte", s+s[1:], log)
			checkRead(t, "a byte ahead", "\n"+s, nil)
		}
	}
}

// TestLogReadLongLogs: the chapter sets a log that is read no limit; a text that is none is refused, however long it is.
func TestLogReadLongLogs(t *testing.T) {
	var log [][]impl.Write
	size := 0
	for size <= 4*impl.MaxLog {
		list := logBatches()[len(log)%len(logBatches())]
		log = append(log, list)
		size += len(logText(list))
	}
	s := strings.Join(textsOf(log), "")
	checkRead(t, "long", s, log)
	checkRead(t, "long, cut by one", s[:len(s)-1], log[:len(log)-1])
	const many = 1 << 20
	for name, rest := range map[string]string{
		"blanks":      strings.Repeat(" ", many),
		"ends":        strings.Repeat("\n", many),
		"heads":       strings.Repeat("batch 1\n", many),
		"noughts":     "batch " + strings.Repeat("0", many) + "1\n",
		"a number":    "batch " + strings.Repeat("9", many) + "\n",
		"a long line": "batch 1\nw" + strings.Repeat(" 1", many) + "\n",
		"a long word": "batch 1\nw 2 5 1 2 3 0 " + strings.Repeat("0", many) + "\n",
		"a long sum":  "batch 1\nw 2 5 1 2 3 0 0\nsum " + strings.Repeat("0", many) + "\n",
	} {
		checkRead(t, name, rest, nil)
		checkRead(t, name+", behind", s+rest, log)
	}
}

func batchesOf(lists ...[]impl.Write) []impl.Batch {
	var list []impl.Batch
	for _, ws := range lists {
		list = append(list, impl.Batch{Ws: ws})
	}
	return list
}

func TestReplay(t *testing.T) {
	a, b, c := put(2, tag(4, 0, 1), 1), put(2, tag(5, 1, 1), 2, dep(3, 1, 0, 1)), gone(2, tag(6, 0, 2))
	x, y := put(0, tag(9, 3, 1), 3), put(5, tag(1, 0, 1), 4, dep(0, 1, 0, 0))
	z := put(5, tag(2, 0, 1), 5, dep(0, 1, 0, 1))
	for name, c := range map[string]struct {
		list []impl.Batch
		want []impl.Write
	}{
		"nil":                     {nil, nil},
		"empty":                   {[]impl.Batch{}, nil},
		"batches of none":         {batchesOf(nil, []impl.Write{}, nil), nil},
		"one":                     {batchesOf([]impl.Write{a}), []impl.Write{a}},
		"rising in one":           {batchesOf([]impl.Write{a, b, c}), []impl.Write{c}},
		"falling in one":          {batchesOf([]impl.Write{c, b, a}), []impl.Write{c}},
		"rising":                  {batchesOf([]impl.Write{a}, []impl.Write{b}, []impl.Write{c}), []impl.Write{c}},
		"falling":                 {batchesOf([]impl.Write{b}, []impl.Write{a}), []impl.Write{b}},
		"keys in their order":     {batchesOf([]impl.Write{z, c}, []impl.Write{x}), []impl.Write{x, c, z}},
		"none amid others":        {batchesOf(nil, []impl.Write{z}, nil, []impl.Write{x, a}, nil), []impl.Write{x, a, z}},
		"one twice":               {batchesOf([]impl.Write{a, a}, []impl.Write{a}), []impl.Write{a}},
		"one that is not WriteOk": {batchesOf([]impl.Write{y}, []impl.Write{x, y, a}), []impl.Write{x, a}},
		"not WriteOk alone":       {batchesOf([]impl.Write{y, y}), nil},
		"no cut":                  {batchesOf([]impl.Write{b}), []impl.Write{b}},
		"more than a batch has":   {batchesOf(slices.Concat(fullMap(0), fullMap(1), fullMap(0))), fullMap(1)},
	} {
		if got := impl.Replay(c.list); !sameList(got, c.want) {
			t.Errorf("%s: Replay = %v, want %v", name, got, c.want)
		}
	}
}

// TestReplayByWhatIsApart: of two writes of a key the one that comes last is there, by whatever they are apart, in whichever order.
func TestReplayByWhatIsApart(t *testing.T) {
	list := rising(4)
	for i, a := range list {
		for j, b := range list {
			want := []impl.Write{list[max(i, j)]}
			if got := impl.Replay(batchesOf([]impl.Write{a, b})); !sameList(got, want) {
				t.Errorf("Replay of %v and %v in one = %v", a, b, got)
			}
			if got := impl.Replay(batchesOf([]impl.Write{a}, []impl.Write{b})); !sameList(got, want) {
				t.Errorf("Replay of %v and %v = %v", a, b, got)
			}
		}
	}
}

// TestReplayWrong: a write that is not WriteOk is left out, and nothing else for its sake.
func TestReplayWrong(t *testing.T) {
	low, high := put(2, tag(1, 0, 1), 1), put(2, tag(2, 0, 2), 2)
	other := put(4, tag(1, 1, 1), 3)
	for name, w := range badWrites() {
		for place, list := range map[string][]impl.Batch{
			"first":        batchesOf([]impl.Write{w, low, other}, []impl.Write{high}),
			"last":         batchesOf([]impl.Write{low, other}, []impl.Write{high, w}),
			"in the midst": batchesOf([]impl.Write{low, w, other}, []impl.Write{w, high}),
			"in its own":   batchesOf([]impl.Write{low}, []impl.Write{w}, []impl.Write{high, other}, []impl.Write{w}),
		} {
			if got := impl.Replay(list); !sameList(got, []impl.Write{high, other}) {
				t.Errorf("%s, %s: Replay = %v", name, place, got)
			}
		}
		if got := impl.Replay(batchesOf([]impl.Write{w}, []impl.Write{w, w})); len(got) != 0 {
			t.Errorf("%s, alone: Replay = %v", name, got)
		}
	}
}

func TestReplayOfMany(t *testing.T) {
	d := dice(47)
	bad := badWrites()
	for range 1000 {
		var lists [][]impl.Write
		for range d.below(8) {
			lists = append(lists, thrown(&d, d.below(10)))
		}
		want := joined(lists...)
		if got := impl.Replay(batchesOf(lists...)); !sameList(got, want) || !impl.MapOk(got) {
			t.Fatalf("Replay(%v) = %v, want %v", lists, got, want)
		}
		var m []impl.Write
		for _, w := range slices.Concat(lists...) {
			m = impl.MapPut(m, w)
		}
		if !sameList(m, want) {
			t.Fatalf("put one by one %v, want %v", m, want)
		}
		for i, list := range lists {
			lists[i] = slices.Insert(slices.Clone(list), d.below(len(list)+1), bad["seq past"], bad["dep later by site"], bad["key past"], bad["key below"])
		}
		if got := impl.Replay(batchesOf(lists...)); !sameList(got, want) {
			t.Fatalf("beside writes that are none: Replay(%v) = %v, want %v", lists, got, want)
		}
	}
}

// TestReplayOfWhatIsRead: a log that is read back and replayed is what its batches were; of one that is cut, what the whole ones were.
func TestReplayOfWhatIsRead(t *testing.T) {
	log := logBatches()
	texts := textsOf(log)
	s := strings.Join(texts, "")
	for at := range len(s) + 1 {
		list, used := impl.LogRead(s[:at])
		want := joined(log[:wholeAhead(s[:at], texts)]...)
		if got := impl.Replay(list); !sameList(got, want) {
			t.Fatalf("cut at %d: Replay = %v, want %v", at, got, want)
		}
		again, size := impl.LogRead(s[:used])
		if size != used || len(again) != len(list) || used > at {
			t.Fatalf("cut at %d: what was read is not read again: %d and %d", at, used, size)
		}
	}
}

// TestLogLeavesArguments: neither arguments nor the spare room behind them are written by a call, or by what is done to its answer.
func TestLogLeavesArguments(t *testing.T) {
	lists := logBatches()
	lists = append(lists, nil, []impl.Write{{}, put(1, tag(1, 0, 1), 1, dep(0, 1, 0, 1))}, slices.Concat(fullMap(0), fullMap(1)))
	for _, as := range lists {
		for _, bs := range lists {
			a, b := roomy(as), roomy(bs)
			wholeA, wholeB := wholeOf(a), wholeOf(b)
			impl.BatchText(a)
			room := append(batchesOf(a, b, a), batchesOf(fullMap(2))...)
			spoil(impl.Replay(room[:3]))
			if !sameList(wholeOf(a), wholeA) || !sameList(wholeOf(b), wholeB) {
				t.Fatalf("written into an argument: %v, %v", a, b)
			}
			for i, want := range [][]impl.Write{as, bs, as, fullMap(2)} {
				if !sameList(room[i].Ws, want) {
					t.Fatalf("the batch at %d is %v now, want %v", i, room[i].Ws, want)
				}
			}
		}
	}
}

// TestLogReadsNoRoom: what lies behind a list's length changes no answer, and is not handed out.
func TestLogReadsNoRoom(t *testing.T) {
	for _, list := range logBatches() {
		if got := impl.BatchText(roomy(list)); got != logText(list) {
			t.Errorf("BatchText of %v with room behind = %q", list, got)
		}
		room := append(batchesOf(roomy(list)), batchesOf(fullMap(3))...)
		got := impl.Replay(room[:1])
		if !sameList(got, joined(list)) {
			t.Errorf("Replay of %v with room behind = %v", list, got)
		}
		for _, w := range wholeOf(got) {
			if w.Val == 88 || w.Val == 99 || slices.Contains(w.Deps, dep(8, 8, 8, 8)) {
				t.Errorf("what lies behind the list is handed out: %v", w)
			}
		}
	}
	if got := impl.BatchText(roomy(nil)); got != "" {
		t.Errorf("BatchText of none with room behind = %q", got)
	}
	text := "batch 1\nw 0 1 0 1 7 0 0\nsum 1403862638\n"
	if list, used := impl.LogRead(text[:len(text)-1]); len(list) != 0 || used != 0 {
		t.Errorf("LogRead reads behind the end: %v, %d", list, used)
	}
}

// TestLogNewMemory: what is done to one list of an answer shows in no other list of it, and in no other answer.
func TestLogNewMemory(t *testing.T) {
	deps := []impl.Dep{dep(0, 1, 0, 1), dep(1, 1, 0, 1)}
	ws := []impl.Write{put(1, tag(2, 0, 1), 1, deps...), put(3, tag(2, 0, 2), 1, deps...)}
	more := []impl.Write{put(5, tag(2, 0, 3), 1, deps...), put(5, tag(2, 0, 3), 1, deps...), ws[0]}
	sharesNone(t, "replay", func() []impl.Write { return impl.Replay(batchesOf(ws, more)) })
	log := impl.BatchText(ws) + impl.BatchText(ws) + impl.BatchText(more)
	want := [][]impl.Write{ws, ws, more}
	for i := range want {
		sharesNone(t, "read", func() []impl.Write {
			list, _ := impl.LogRead(log)
			return list[i].Ws
		})
		list, _ := impl.LogRead(log)
		spoil(list[i].Ws)
		for j := range want {
			if j != i && !sameList(list[j].Ws, want[j]) {
				t.Errorf("batches %d and %d of an answer share memory", i, j)
			}
		}
		clear(list[:cap(list)])
		checkRead(t, "again", log, want)
	}
}
