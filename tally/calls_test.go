package tally

import (
	"math"
	"runtime"
	"strings"
	"sync"
	"testing"
)

func TestNumbersOfErrors(t *testing.T) {
	for i, e := range []Errno{OK, ErrKey, ErrOrder, ErrValue, ErrMany, ErrVersion, ErrProof} {
		if int(e) != i {
			t.Errorf("error %d has the number %d", i, e)
		}
	}
}

func TestAnswersHangOnNoSchedule(t *testing.T) {
	table := evenTable(0, 300, maxEntries)
	want := wantedSum(table, 0, maxKey)
	for _, processors := range []int{1, 2, 8} {
		before := runtime.GOMAXPROCS(processors)
		for range 50 {
			if sum, e := Root(table); sum != want || e != OK {
				t.Errorf("P1: Root on %d processors = %x, %d, want %x", processors, sum, e, want)
			}
		}
		runtime.GOMAXPROCS(before)
	}
}

// The calls run beside each other on lists of their own and on one that they share.
func TestCallsAtTheSameTime(t *testing.T) {
	shared := evenTable(7, 200, maxEntries)
	wantShared := wantedSum(shared, 0, maxKey)
	var callers sync.WaitGroup
	for i := range 16 {
		callers.Go(func() {
			own := evenTable(i, 100+i, maxEntries)
			want := wantedSum(own, 0, maxKey)
			for range 10 {
				if sum, _ := Root(own); sum != want {
					t.Errorf("P1: Root of caller %d's list = %x, want %x", i, sum, want)
				}
				if sum, _ := Root(shared); sum != wantShared {
					t.Errorf("P1: Root of the shared list = %x, want %x", sum, wantShared)
				}
				if sum := Hash("abc"); sum[0] != 0xba || sum[31] != 0xad {
					t.Errorf("P1: Hash beside other calls = %x", sum)
				}
			}
		})
	}
	callers.Wait()
}

// An error leaves nothing behind that a later answer could hang on.
func TestAnswersHangOnNoEarlierCall(t *testing.T) {
	table := []Entry{{1, "a"}, {2, "b"}}
	want := wantedSum(table, 0, maxKey)
	for _, between := range [][]Entry{nil, {{1, "c"}}, {{-1, ""}}, {{2, "b"}, {1, "a"}}, {{1, ""}}, evenTable(0, 1, maxEntries+1)} {
		Root(between)
		if sum, e := Root(table); sum != want || e != OK {
			t.Errorf("P1: Root behind Root of %s = %x, %d, want %x", brief(between), sum, e, want)
		}
	}
}

func TestNoListOrNumberPanics(t *testing.T) {
	numbers := []int{math.MinInt, -65536, -1, 0, 1, maxKey, maxKey + 1, 1 << 32, math.MaxInt}
	values := []string{"", "\x00", strings.Repeat("v", maxValue), strings.Repeat("v", maxValue+1), strings.Repeat("\xff", 1<<16)}
	var entries []Entry
	for _, number := range numbers {
		for _, value := range values {
			entries = append(entries, Entry{number, value})
		}
	}
	book := New()
	for first := range entries {
		for end := first; end <= len(entries); end++ {
			list := entries[first:end]
			Root(list)
			Prove(list, keysOf(list))
			Update(Sum{}, "\x05", list)
		}
		key, value := entries[first].Key, entries[first].Value
		Hash(value)
		Verify(Sum{}, value, []int{key}, []string{value})
		book.Set(entries[first])
		book.Get(key, key)
		book.Root(key)
		book.Prove(key, key)
	}
}
