package tally

import (
	"fmt"
	"math"
	"math/rand"
	"runtime"
	"strings"
	"sync"
	"testing"
)

func TestNumbersOfErrors(t *testing.T) {
	for i, e := range []Errno{OK, ErrKey, ErrOrder, ErrValue, ErrMany, ErrVersion, ErrProof} {
		if int(e) != i {
			t.Errorf("error %d has the number %d", i, e)
		}
	}
}

// The other tests take the limits by their names: hence the numbers themselves here.
func TestLimits(t *testing.T) {
	for _, x := range []struct {
		name        string
		limit, want int
	}{
		{"MaxKey", maxKey, 65535}, {"MaxValue", maxValue, 20}, {"MaxEntries", maxEntries, 200},
		{"MaxKeys", maxKeys, 20}, {"MaxVersions", maxVersions, 100},
	} {
		if x.limit != x.want {
			t.Errorf("%s is %d, want %d", x.name, x.limit, x.want)
		}
	}
}

// callsOn is what the calls answer of a table, and of a book that is made of it, in one text; want, what they must answer by the document's words.
func callsOn(table []Entry, keys []int, changes []Entry) (got, want string) {
	root, e1 := Root(table)
	proof, e2 := Prove(table, keys)
	isProof := Verify(root, proof, keys, valuesIn(table, keys))
	behind, e3 := Update(root, proof, changes)
	got = fmt.Sprintf("%x %d %x %d %v %x %d", root, e1, proof, e2, isProof, behind, e3)
	sum, sumBehind := wantedSum(table, 0, maxKey), wantedSum(tableBehind(table, changes), 0, maxKey)
	proofText := wantedProof(table, keys, 0, maxKey)
	want = fmt.Sprintf("%x 0 %x 0 true %x 0", sum, proofText, sumBehind)

	book := New()
	book.Set(table...)
	book.Set(changes...)
	newer, e4 := book.Root(2)
	older, e5 := book.Root(1)
	proof, e6 := book.Prove(1, keys...)
	got += fmt.Sprintf(" %x %d %x %d %x %d", newer, e4, older, e5, proof, e6)
	want += fmt.Sprintf(" %x 0 %x 0 %x 0", sumBehind, sum, proofText)
	return got, want
}

func TestAnswersHangOnNoSchedule(t *testing.T) {
	table := evenTable(0, 300, maxEntries-5)
	keys := []int{0, 299, 600, 30000, maxKey}
	changes := []Entry{{0, ""}, {299, "a"}, {600, "b"}, {30000, ""}, {maxKey, "c"}}
	for _, processors := range []int{1, 2, 8} {
		before := runtime.GOMAXPROCS(processors)
		for range 20 {
			if got, want := callsOn(table, keys, changes); got != want {
				t.Errorf("P1: on %d processors the calls answer %s, want %s", processors, got, want)
			}
		}
		runtime.GOMAXPROCS(before)
	}
}

// The calls run beside each other on lists of their own and on one that they share.
func TestCallsAtTheSameTime(t *testing.T) {
	shared := evenTable(7, 200, maxEntries-5)
	var callers sync.WaitGroup
	for i := range 16 {
		callers.Go(func() {
			own := evenTable(i, 100+i, maxEntries-5)
			keys := []int{i, 5000 + i, 40000}
			changes := []Entry{{i, ""}, {5000 + i, "a"}, {40000, "b"}}
			for range 5 {
				for _, table := range [][]Entry{own, shared} {
					if got, want := callsOn(table, keys, changes); got != want {
						t.Errorf("P1: caller %d is answered %s, want %s", i, got, want)
					}
				}
				if sum := Hash("abc"); sum[0] != 0xba || sum[31] != 0xad {
					t.Errorf("P1: Hash beside other calls = %x", sum)
				}
			}
		})
	}
	callers.Wait()
}

// An error leaves nothing behind that a later answer could hang on.
func TestAnswersHangOnNoEarlierCall(t *testing.T) {
	table := []Entry{{1, "a"}, {2, "b"}}
	keys, changes := []int{1, 3}, []Entry{{1, ""}, {3, "c"}}
	for _, between := range [][]Entry{nil, {{1, "c"}}, {{-1, ""}}, {{2, "b"}, {1, "a"}}, {{1, ""}}, evenTable(0, 1, maxEntries+1)} {
		Root(between)
		Prove(between, keysOf(between))
		Prove(table, keysOf(between))
		Verify(Sum{}, "\x05\x05", keysOf(between), nil)
		Update(Sum{}, "\x03", between)
		if got, want := callsOn(table, keys, changes); got != want {
			t.Errorf("P1: behind calls with %s the calls answer %s, want %s", brief(between), got, want)
		}
	}
}

func TestNoListOrNumberPanics(t *testing.T) {
	numbers := []int{math.MinInt, -65536, -1, 0, 1, maxKey, maxKey + 1, 1 << 32, math.MaxInt}
	values := []string{"", "\x00", strings.Repeat("v", maxValue), strings.Repeat("v", maxValue+1), strings.Repeat("\xff", 1<<16)}
	var entries []Entry
	for _, number := range numbers {
		for _, value := range values {
			entries = append(entries, Entry{number, value})
		}
	}
	for first := range entries {
		for end := first; end <= len(entries); end++ {
			list := entries[first:end]
			Root(list)
			Prove(list, keysOf(list))
			Update(Sum{}, "\x05", list)
			book := New()
			book.Set(list...)
			book.Prove(1, keysOf(list)...)
		}
		key, value := entries[first].Key, entries[first].Value
		Hash(value)
		Verify(Sum{}, value, []int{key}, []string{value})
		book := New()
		book.Set(entries[first])
		for _, version := range numbers {
			book.Get(version, key)
			book.Root(version)
			book.Prove(version, key)
		}
	}
}

func TestNoTextPanics(t *testing.T) {
	source := rand.New(rand.NewSource(9))
	texts := []string{"", strings.Repeat("\x05", 1<<20), strings.Repeat("\x00", 1<<20), strings.Repeat("\x05\x00", 40), strings.Repeat("\x05\x03", 40), strings.Repeat("\xff", 1000)}
	for range 20000 {
		text := make([]byte, source.Intn(80))
		for i := range text {
			text[i] = byte(source.Intn(7))
		}
		texts = append(texts, string(text))
	}
	root := wantedLeaf(Entry{1, "a"})
	for _, text := range texts {
		for _, keys := range [][]int{nil, {0}, {0, 1}, {maxKey}} {
			values := make([]string, len(keys))
			if Verify(root, text, keys, values) {
				t.Errorf("P4: Verify(.., %x, %v, %q) = true", text, keys, values)
			}
			changes := make([]Entry, len(keys))
			for i, key := range keys {
				changes[i] = Entry{key, "b"}
			}
			if sum, e := Update(root, text, changes); sum != (Sum{}) || e != ErrProof {
				t.Errorf("P5: Update(.., %x, %v) = %x, %d, want zeros, 6", text, changes, sum, e)
			}
		}
	}
}
