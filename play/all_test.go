package play

import (
	"fmt"
	"math"
	"math/rand"
	"runtime"
	"slices"
	"strings"
	"sync"
	"sync/atomic"
	"testing"
	"time"

	"charterhouse/api"
)

// several returns n scripts with different results: each accepts one transaction more than the one before it, up to four.
func several(n int) ([][]api.Act, [][]uint64) {
	var scripts [][]api.Act
	var want [][]uint64
	for i := range n {
		script := []api.Act{joining(i%8, i%2 == 0)}
		var ids []uint64
		for j := range i % 5 {
			d := free(1 + 10*i + j)
			script = append(script, sending(i%8, bringing(d)))
			ids = append(ids, idOf(d))
		}
		scripts = append(scripts, script)
		want = append(want, ids)
	}
	return scripts, want
}

// checkAll checks all that All returns.
func checkAll(t *testing.T, hands int, scripts [][]api.Act, ids [][]uint64, errs []api.Errno) {
	t.Helper()
	gotIDs, gotErrs, e := All(hands, 1, scripts)
	if e != api.OK || !slices.Equal(gotErrs, errs) || !slices.EqualFunc(gotIDs, ids, slices.Equal) {
		t.Errorf("%d hands, %d scripts: %d, %d, %d, want %d, %d", hands, len(scripts), gotIDs, gotErrs, e, ids, errs)
	}
}

// checkAllFails checks an error of All.
func checkAllFails(t *testing.T, hands int, scripts [][]api.Act, want api.Errno) {
	t.Helper()
	if ids, errs, e := All(hands, 1, scripts); ids != nil || errs != nil || e != want {
		t.Errorf("%d hands, %d scripts: %d, %d, %d, want error %d", hands, len(scripts), ids, errs, e, want)
	}
}

// TestAll has each number of hands, and more and fewer scripts than hands.
func TestAll(t *testing.T) {
	for hands := 1; hands <= 8; hands++ {
		for n := range 31 {
			scripts, ids := several(n)
			checkAll(t, hands, scripts, ids, make([]api.Errno, n))
		}
	}
}

// TestAllOrder has few scripts, whose results are written out, in each order.
func TestAllOrder(t *testing.T) {
	join := joining(2, false)
	a, b, c := free(1), free(2), spending(free(2), 5)
	scripts := [][]api.Act{
		{join, sending(2, bringing(a))},
		{join, sending(2, bringing(b)), sending(2, bringing(a)), sending(2, bringing(b))},
		{join, sending(2, bringing(c)), waiting(5), sending(2, bringing(b))},
		{sending(2, bringing(a)), join, sending(2, bringing(c)), {Kind: 7, Peer: 2, Bytes: bringing(b)}},
	}
	ids := [][]uint64{{idOf(a)}, {idOf(b), idOf(a)}, {idOf(b), idOf(c)}, nil}
	for order := range 256 {
		var s [][]api.Act
		var want [][]uint64
		for i := order; len(s) < 4; i /= 4 {
			s = append(s, scripts[i%4])
			want = append(want, ids[i%4])
		}
		checkAll(t, 1+order%8, s, want, make([]api.Errno, 4))
	}
}

// TestAllHandsOutOfRange has ErrArg, also if there are too many scripts.
func TestAllHandsOutOfRange(t *testing.T) {
	few, _ := several(3)
	for _, hands := range []int{
		0, 9, 10, 16, 30, 31, 60, -1, -2, -8, 256, 257, 264, -255, 1<<32 + 1, 1<<32 + 8, -1<<32 + 1,
		math.MinInt, math.MinInt + 1, math.MinInt + 8, math.MaxInt, math.MaxInt - 1, math.MaxInt - 7,
	} {
		for _, scripts := range [][][]api.Act{nil, {}, {nil}, few, {make([]api.Act, 61)}, make([][]api.Act, 30), make([][]api.Act, 31), make([][]api.Act, 1000)} {
			checkAllFails(t, hands, scripts, api.ErrArg)
		}
	}
}

// TestTooManyScripts has one more than there may be, and many more, whatever they are.
func TestTooManyScripts(t *testing.T) {
	for hands := 1; hands <= 8; hands++ {
		for _, n := range []int{31, 32, 60, 100, 256, 256 + 30, 1<<16 + 30} {
			scripts := make([][]api.Act, n)
			checkAllFails(t, hands, scripts, api.ErrLarge)
			scripts[n-1] = make([]api.Act, 61)
			scripts[0] = make([]api.Act, 61)
			checkAllFails(t, hands, scripts, api.ErrLarge)
		}
		scripts, _ := several(31)
		checkAllFails(t, hands, scripts, api.ErrLarge)
		checkAllFails(t, hands, slices.Repeat([][]api.Act{make([]api.Act, 61)}, 31), api.ErrLarge)
	}
}

// TestTooLongScripts has scripts with too many actions between others, which are executed all the same.
func TestTooLongScripts(t *testing.T) {
	for hands := 1; hands <= 8; hands++ {
		for _, at := range [][]int{{0}, {1}, {7}, {28}, {29}, {0, 29}, {3, 4, 5, 6, 7, 8, 9, 10, 11}, {1, 3, 5, 7, 9, 27}} {
			scripts, ids := several(30)
			errs := make([]api.Errno, 30)
			for j, i := range at {
				long, _ := bringMany(61 + j*100)
				scripts[i], ids[i], errs[i] = long, nil, api.ErrLarge
			}
			checkAll(t, hands, scripts, ids, errs)
			if got, _, _ := All(hands, 1, scripts); got[at[0]] != nil {
				t.Errorf("a script with an error accepted %d", got[at[0]])
			}
		}
		long, _ := bringMany(61)
		checkAll(t, hands, [][]api.Act{long}, [][]uint64{nil}, []api.Errno{api.ErrLarge})
		checkAll(t, hands, slices.Repeat([][]api.Act{long}, 30), make([][]uint64, 30), slices.Repeat([]api.Errno{api.ErrLarge}, 30))
	}
}

// TestLongScripts has as many scripts as there may be, each with as many actions as there may be.
func TestLongScripts(t *testing.T) {
	for hands := 1; hands <= 8; hands++ {
		script, ids := bringMany(60)
		checkAll(t, hands, slices.Repeat([][]api.Act{script}, 30), slices.Repeat([][]uint64{ids}, 30), make([]api.Errno, 30))
	}
}

// TestUnequalScripts has one long script among short ones: while it is executed, the others are, and no order changes.
func TestUnequalScripts(t *testing.T) {
	for hands := 1; hands <= 8; hands++ {
		for at := range 30 {
			scripts, ids := several(30)
			scripts[at], ids[at] = bringMany(60)
			checkAll(t, hands, scripts, ids, make([]api.Errno, 30))
		}
	}
}

// TestEmptyScripts has none, and nil and empty ones between others.
func TestEmptyScripts(t *testing.T) {
	full, ids := bringMany(4)
	for hands := 1; hands <= 8; hands++ {
		checkAll(t, hands, nil, nil, nil)
		checkAll(t, hands, [][]api.Act{}, nil, nil)
		checkAll(t, hands, make([][]api.Act, 40)[:0], nil, nil)
		checkAll(t, hands, [][]api.Act{nil}, [][]uint64{nil}, []api.Errno{0})
		checkAll(t, hands, [][]api.Act{{}}, [][]uint64{nil}, []api.Errno{0})
		checkAll(t, hands, make([][]api.Act, 30), make([][]uint64, 30), make([]api.Errno, 30))
		scripts := [][]api.Act{nil, full, {}, full[:0], full, full[:1], nil, full[:2], nil}
		want := [][]uint64{nil, ids, nil, nil, ids, nil, nil, ids[:1], nil}
		checkAll(t, hands, scripts, want, make([]api.Errno, 9))
	}
}

// TestAllAgainstRun has drawn scripts: for each number of hands, and again, the results are those of Run.
func TestAllAgainstRun(t *testing.T) {
	random := rand.New(rand.NewSource(1))
	seen := map[string]int{}
	for range 60 {
		var scripts [][]api.Act
		var ids [][]uint64
		var errs []api.Errno
		for range random.Intn(31) {
			script := draw(random.Intn, []int{8, 60, 90}[random.Intn(3)])
			checkDirect(t, 1, script)
			outs, actErrs, accepted, e := Run(1, script)
			scripts, ids, errs = append(scripts, script), append(ids, accepted), append(errs, e)
			seen["sent"] += min(len(outs), 1)
			seen["accepted"] += min(len(accepted)/2, 1)
			seen["too long"] += int(e) / 2
			for _, e := range actErrs {
				seen[fmt.Sprint("error ", e)]++
			}
		}
		for hands := 1; hands <= 8; hands++ {
			checkAll(t, hands, scripts, ids, errs)
		}
		if t.Failed() {
			return
		}
	}
	for _, what := range []string{"sent", "accepted", "too long", "error 0", "error 1", "error 3", "error 5", "error 6"} {
		if seen[what] < 20 {
			t.Errorf("%s: only %d times", what, seen[what])
		}
	}
}

// TestAllSalts has any salt: it is not seen in what is accepted.
func TestAllSalts(t *testing.T) {
	scripts, want := several(9)
	for _, salt := range []uint64{0, 1, 2, 1 << 63, math.MaxUint64} {
		ids, errs, e := All(3, salt, scripts)
		if e != api.OK || !slices.Equal(errs, make([]api.Errno, 9)) || !slices.EqualFunc(ids, want, slices.Equal) {
			t.Errorf("salt %d: %d, %d, %d", salt, ids, errs, e)
		}
	}
}

// TestRoundSalt looks at the salt that reaches the goroutines, since All returns nothing that depends on it.
func TestRoundSalt(t *testing.T) {
	for _, salt := range []uint64{0, 7, math.MaxUint64} {
		if r := newRound(salt, nil); r.salt != salt {
			t.Errorf("salt %d, want %d", r.salt, salt)
		}
	}
}

// others returns how many goroutines beside this one are in this package.
func others() int {
	buffer := make([]byte, 1<<20)
	stacks := strings.Split(string(buffer[:runtime.Stack(buffer, true)]), "\n\n")
	count := 0
	for _, stack := range stacks[1:] {
		if strings.Contains(stack, "charterhouse/play.") {
			count++
		}
	}
	return count
}

// soon waits until a condition holds, and reports whether it does in time.
func soon(holds func() bool) bool {
	for range 10000 {
		if holds() {
			return true
		}
		time.Sleep(time.Millisecond)
	}
	return holds()
}

// TestNothingGoesOn checks that no goroutine is left when All has returned, also after errors.
func TestNothingGoesOn(t *testing.T) {
	long, _ := bringMany(60)
	tooLong, _ := bringMany(61)
	before := runtime.NumGoroutine()
	for _, scripts := range [][][]api.Act{
		nil, {nil}, {long}, {long, tooLong, long}, {tooLong}, slices.Repeat([][]api.Act{long}, 30),
		slices.Repeat([][]api.Act{tooLong}, 30), slices.Repeat([][]api.Act{long}, 31), slices.Repeat([][]api.Act{nil, long}, 15),
	} {
		for hands := range 10 {
			for range 5 {
				All(hands, 1, scripts)
				if n := others(); n > 0 {
					t.Fatalf("%d hands, %d scripts: %d goroutines go on", hands, len(scripts), n)
				}
			}
		}
	}
	// A goroutine that has done its work may be counted for another moment.
	if !soon(func() bool { return runtime.NumGoroutine() <= before }) {
		t.Errorf("%d goroutines, before there were %d", runtime.NumGoroutine(), before)
	}
}

// TestHands holds the mutex: meanwhile as many goroutines wait for it as there are hands, and nothing is taken or written.
func TestHands(t *testing.T) {
	for hands := 1; hands <= 8; hands++ {
		for _, n := range []int{0, 1, 5, 30} {
			scripts, want := several(n)
			r := newRound(1, scripts)
			r.mutex.Lock()
			var ended atomic.Bool
			var sharing sync.WaitGroup
			sharing.Go(func() {
				r.share(hands)
				ended.Store(true)
			})
			// The one that calls share waits, too.
			if !soon(func() bool { return others() == hands+1 }) {
				t.Errorf("%d hands, %d scripts: %d goroutines", hands, n, others()-1)
			}
			time.Sleep(time.Millisecond)
			if count := others(); count != hands+1 || r.next != 0 || slices.ContainsFunc(r.accepted, func(ids []uint64) bool { return ids != nil }) {
				t.Errorf("%d hands, %d scripts: %d goroutines, next %d, accepted %d", hands, n, count-1, r.next, r.accepted)
			}
			if ended.Load() {
				t.Error("share did not wait")
			}
			r.mutex.Unlock()
			sharing.Wait()
			if r.next != n || !slices.EqualFunc(r.accepted, want, slices.Equal) {
				t.Errorf("%d hands, %d scripts: next %d, accepted %d", hands, n, r.next, r.accepted)
			}
		}
	}
}

// TestTake takes by many goroutines at once, from so many scripts that they get in each other's way: each is taken once.
func TestTake(t *testing.T) {
	for _, n := range []int{0, 1, 30, 200000} {
		r := newRound(1, make([][]api.Act, n))
		taken := make([][]int, 8)
		var all sync.WaitGroup
		for hand := range taken {
			all.Go(func() {
				for i, ok := r.take(); ok && i < n; i, ok = r.take() {
					taken[hand] = append(taken[hand], i)
				}
			})
		}
		all.Wait()
		got := slices.Concat(taken...)
		slices.Sort(got)
		var want []int
		for i := range n {
			want = append(want, i)
		}
		if !slices.Equal(got, want) {
			t.Errorf("of %d scripts, %d were taken", n, len(got))
		}
		if i, ok := r.take(); i != 0 || ok {
			t.Errorf("then %d, %v", i, ok)
		}
	}
}

// TestAllAtOnce calls All from several goroutines, for the same scripts.
func TestAllAtOnce(t *testing.T) {
	scripts, ids := several(30)
	var all sync.WaitGroup
	for hands := 1; hands <= 8; hands++ {
		all.Go(func() {
			for range 20 {
				checkAll(t, hands, scripts, ids, make([]api.Errno, 30))
			}
		})
	}
	all.Wait()
}

// TestAllArgumentsAreKept checks that All changes no script, nor the capacity behind the scripts and behind each.
func TestAllArgumentsAreKept(t *testing.T) {
	long, _ := bringMany(63)
	for _, n := range []int{0, 1, 7, 28, 30, 31} {
		scripts, _ := several(n + 3)
		for i := range scripts {
			scripts[i] = append(slices.Grow(scripts[i], 3), api.Act{Kind: 9, Bytes: "spare"})[:len(scripts[i])]
		}
		scripts[n/2] = long[:61]
		copies := deepCopy(scripts)
		for hands := range 10 {
			All(hands, 1, scripts[:n])
			for i := range scripts {
				if len(scripts[i]) != len(copies[i]) || !slices.Equal(whole(scripts[i]), whole(copies[i])) {
					t.Fatalf("%d hands, %d scripts: script %d changed to %#v", hands, n, i, scripts[i])
				}
			}
		}
		// What is behind them is not read either.
		before, errs, _ := All(2, 1, scripts[:n])
		for i := range scripts {
			scribble(scripts[i][len(scripts[i]):], api.Act{Kind: 1, Peer: 5})
		}
		scribble(scripts[n:], nil)
		after, errsAfter, _ := All(2, 1, scripts[:n])
		if !slices.EqualFunc(before, after, slices.Equal) || !slices.Equal(errs, errsAfter) {
			t.Errorf("%d scripts: %d, %d, then %d, %d", n, before, errs, after, errsAfter)
		}
	}
}

// whole returns a slice up to its capacity.
func whole[T any](s []T) []T {
	return s[:cap(s)]
}

// deepCopy returns a copy of scripts, each with the same capacity.
func deepCopy(scripts [][]api.Act) [][]api.Act {
	var copies [][]api.Act
	for _, script := range scripts {
		c := make([]api.Act, cap(script))
		copy(c, whole(script))
		copies = append(copies, c[:len(script)])
	}
	return copies
}

// TestAllResultsAreOwn changes results up to their capacity, one after the other: nothing else changes, also where the scripts are one.
func TestAllResultsAreOwn(t *testing.T) {
	script, ids := bringMany(6)
	scripts := slices.Repeat([][]api.Act{script}, 12)
	for hands := 1; hands <= 8; hands++ {
		got, errs, _ := All(hands, 1, scripts)
		again, errsAgain, _ := All(hands, 1, scripts)
		scribble(errs, 99)
		for i := range got {
			if !slices.Equal(got[i], ids) {
				t.Errorf("%d hands: script %d accepted %d, want %d", hands, i, got[i], ids)
			}
			scribble(got[i], 99)
		}
		scribble(got, []uint64{99})
		if !slices.EqualFunc(again, slices.Repeat([][]uint64{ids}, 12), slices.Equal) || !slices.Equal(errsAgain, make([]api.Errno, 12)) {
			t.Errorf("%d hands: results share memory: %d, %d", hands, again, errsAgain)
		}
		if fresh, _ := bringMany(6); !slices.Equal(script, fresh) {
			t.Errorf("%d hands: results share memory with arguments: %#v", hands, script)
		}
	}
}
