package impl

import (
	"cmp"
	"slices"
	"strconv"
	"strings"
)

const MaxKeys = 6
const MaxSites = 4
const MaxClock = 100000
const MaxSeq = 1000
const MaxVal = 1000000

type Tag struct {
	Clock int
	Site  int
	Seq   int
}

type Dep struct {
	Key int
	T   Tag
}

type Write struct {
	Key  int
	T    Tag
	Val  int
	Dead bool
	Deps []Dep
}

// The places of the words in a write's text; the words of the Deps, depWords
// for each, begin at headWords.
const (
	placeMark = iota
	placeKey
	placeClock
	placeSite
	placeSeq
	placeVal
	placeDead
	placeCount
	headWords
)

// The places of a Dep's words among its own.
const (
	placeDepKey = iota
	placeDepClock
	placeDepSite
	placeDepSeq
	depWords
)

const writeMark = "w"

// A Site below MaxSites and a Seq of at most MaxSeq fit into so many bits.
const (
	siteBits = 2
	seqBits  = 10
)

func TagOk(t Tag) bool {
	return inRange(t.Clock, 1, MaxClock) && inRange(t.Site, 0, MaxSites-1) && inRange(t.Seq, 1, MaxSeq)
}

func TagCmp(a Tag, b Tag) int {
	if a == b {
		return 0
	}
	return cmp.Or(cmp.Compare(a.Clock, b.Clock), cmp.Compare(a.Site, b.Site), cmp.Compare(a.Seq, b.Seq))
}

func DepsOk(list []Dep) bool {
	last := -1
	for _, d := range list {
		if !keyOk(d.Key) || d.Key <= last || !TagOk(d.T) {
			return false
		}
		last = d.Key
	}
	return true
}

func WriteOk(w Write) bool {
	if !keyOk(w.Key) || !TagOk(w.T) || !valOk(w.Val, w.Dead) || !DepsOk(w.Deps) {
		return false
	}
	own := tagWord(w.T)
	for _, d := range w.Deps {
		if tagWord(d.T) >= own {
			return false
		}
	}
	return true
}

func WriteCmp(a Write, b Write) int {
	return cmp.Or(
		TagCmp(a.T, b.T),
		cmp.Compare(a.Key, b.Key),
		cmp.Compare(a.Val, b.Val),
		cmp.Compare(flagNum(a.Dead), flagNum(b.Dead)),
		slices.CompareFunc(a.Deps, b.Deps, depCmp),
	)
}

func WriteText(w Write) string {
	if !WriteOk(w) {
		return ""
	}
	words := make([]string, headWords, headWords+depWords*len(w.Deps))
	words[placeMark] = writeMark
	words[placeKey] = NumText(w.Key)
	words[placeClock] = NumText(w.T.Clock)
	words[placeSite] = NumText(w.T.Site)
	words[placeSeq] = NumText(w.T.Seq)
	words[placeVal] = NumText(w.Val)
	words[placeDead] = NumText(flagNum(w.Dead))
	words[placeCount] = NumText(len(w.Deps))
	for _, d := range w.Deps {
		words = append(words, NumText(d.Key), NumText(d.T.Clock), NumText(d.T.Site), NumText(d.T.Seq))
	}
	return strings.Join(words, " ")
}

func WriteRead(s string) (Write, bool) {
	nums, ok := readNums(s)
	if !ok {
		return Write{}, false
	}
	w := writeOfNums(nums)
	// A number spelt otherwise, a flag or a count that is not so has been read
	// loosely: its write has another text, and one that is not WriteOk has none.
	if WriteText(w) != s {
		return Write{}, false
	}
	return w, true
}

func NumText(n int) string {
	return strconv.Itoa(n)
}

func inRange(n int, least int, most int) bool {
	return least <= n && n <= most
}

func keyOk(key int) bool {
	return inRange(key, 0, MaxKeys-1)
}

func valOk(val int, dead bool) bool {
	if dead {
		return val == 0
	}
	return inRange(val, -MaxVal, MaxVal)
}

// tagWord packs a TagOk t so that the words stand as the tags do by TagCmp.
func tagWord(t Tag) uint64 {
	return uint64(t.Clock)<<(siteBits+seqBits) | uint64(t.Site)<<seqBits | uint64(t.Seq)
}

func depCmp(a Dep, b Dep) int {
	return cmp.Or(cmp.Compare(a.Key, b.Key), TagCmp(a.T, b.T))
}

func flagNum(flag bool) int {
	if flag {
		return 1
	}
	return 0
}

// readNums keeps a 0 in the mark's place, so that numbers and words have the
// same places.
func readNums(s string) ([]int, bool) {
	// One word more than a write has at most is enough to refuse a long text.
	most := headWords + depWords*MaxKeys
	words := strings.SplitN(s, " ", most+1)
	if len(words) < headWords || len(words) > most || (len(words)-headWords)%depWords != 0 {
		return nil, false
	}
	if words[placeMark] != writeMark {
		return nil, false
	}
	nums := make([]int, len(words))
	for i := placeKey; i < len(words); i++ {
		n, err := strconv.Atoi(words[i])
		if err != nil {
			return nil, false
		}
		nums[i] = n
	}
	return nums, true
}

func writeOfNums(nums []int) Write {
	w := Write{
		Key:  nums[placeKey],
		T:    Tag{Clock: nums[placeClock], Site: nums[placeSite], Seq: nums[placeSeq]},
		Val:  nums[placeVal],
		Dead: nums[placeDead] == 1,
	}
	for rest := nums[headWords:]; len(rest) >= depWords; rest = rest[depWords:] {
		t := Tag{Clock: rest[placeDepClock], Site: rest[placeDepSite], Seq: rest[placeDepSeq]}
		w.Deps = append(w.Deps, Dep{Key: rest[placeDepKey], T: t})
	}
	return w
}
