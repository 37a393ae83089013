package track

import (
	"math"
	"math/rand"
	"reflect"
	"slices"
	"sync"
	"testing"

	"charterhouse/api"
	"charterhouse/sum"
)

// maxTime is the latest time, written out and not taken from api.
const maxTime = 1 << 40

// wrongPeers and wrongTimes lie outside of their ranges, next to the ends and far away.
var (
	wrongPeers = []int{-1, 8, -2, 9, -8, 16, 255, 256, 257, -256, 1 << 32, 1<<32 + 1, -1 << 32, math.MinInt, math.MinInt + 1, math.MaxInt - 1, math.MaxInt}
	wrongTimes = []int{-1, maxTime + 1, -2, maxTime + 2, -maxTime, 2 * maxTime, 1 << 62, math.MinInt, math.MinInt + 1, math.MaxInt - 1, math.MaxInt}
)

// expect checks the error of a call.
func expect(t *testing.T, got, want api.Errno) {
	t.Helper()
	if got != want {
		t.Errorf("error %d, want %d", got, want)
	}
}

// expectNext checks Next of a peer.
func expectNext(t *testing.T, x *Tracker, peer int, want ...uint64) {
	t.Helper()
	if got, e := x.Next(peer); !slices.Equal(got, want) || e != api.OK {
		t.Errorf("Next(%d) = %d, %d, want %d", peer, got, e, want)
	}
}

// expectChosen checks that an ID is to be requested from one peer and from no other, or from none if it is -1.
func expectChosen(t *testing.T, x *Tracker, id uint64, want int) {
	t.Helper()
	for peer := range 8 {
		got, e := x.Next(peer)
		if slices.Contains(got, id) != (peer == want) || e != api.OK {
			t.Errorf("Next(%d) = %d, %d, want %d to be requested from %d", peer, got, e, id, want)
		}
	}
}

// expectCounts checks Counts of a peer.
func expectCounts(t *testing.T, x *Tracker, peer, all, flights int) {
	t.Helper()
	if a, f, e := x.Counts(peer); a != all || f != flights || e != api.OK {
		t.Errorf("Counts(%d) = %d, %d, %d, want %d, %d", peer, a, f, e, all, flights)
	}
}

// expectHolders checks Holders of an ID.
func expectHolders(t *testing.T, x *Tracker, id uint64, want ...int) {
	t.Helper()
	if got := x.Holders(id); !slices.Equal(got, want) {
		t.Errorf("Holders(%d) = %d, want %d", id, got, want)
	}
}

// announce adds an entry that is not preferred and waits until a time.
func announce(t *testing.T, x *Tracker, peer int, id uint64, at int) {
	t.Helper()
	expect(t, x.Announce(peer, id, at, false), api.OK)
}

// add adds an entry that is not preferred and brings it to a state: waiting and requested entries stay that way up to Due(99).
// The entries of the ID that are not done come first, because the last of them to be done would take all of them away.
func add(t *testing.T, x *Tracker, peer int, id uint64, s state) {
	t.Helper()
	if s == waiting {
		announce(t, x, peer, id, 100)
		return
	}
	announce(t, x, peer, id, 0)
	x.Due(0)
	switch s {
	case requested:
		expect(t, x.Ask(peer, id, 100), api.OK)
	case done:
		expect(t, x.Answer(peer, id), api.OK)
	}
}

// oneIf returns how many requested entries there are of one that is requested, or not.
func oneIf(is bool) int {
	if is {
		return 1
	}
	return 0
}

// look returns all that can be seen of a tracker's entries of some IDs.
func look(x *Tracker, ids []uint64) []any {
	var seen []any
	for peer := range 8 {
		next, e := x.Next(peer)
		all, flights, f := x.Counts(peer)
		seen = append(seen, append([]uint64{}, next...), e, all, flights, f)
	}
	for _, id := range ids {
		seen = append(seen, append([]int{}, x.Holders(id)...))
	}
	return seen
}

func TestNew(t *testing.T) {
	for _, salt := range []uint64{0, 1, 1 << 63, math.MaxUint64} {
		x := New(salt)
		for peer := range 8 {
			expectNext(t, x, peer)
			expectCounts(t, x, peer, 0, 0)
		}
		for _, id := range []uint64{0, 1, math.MaxUint64} {
			expectHolders(t, x, id)
		}
	}
}

// TestExample has the example of the chapter.
func TestExample(t *testing.T) {
	x := New(1)
	announce(t, x, 3, 7, 5)
	expectNext(t, x, 3)
	x.Due(4)
	expectNext(t, x, 3)
	x.Due(5)
	expectNext(t, x, 3, 7)
}

func TestPeersOutOfRange(t *testing.T) {
	x := New(1)
	for peer := range 8 {
		announce(t, x, peer, 9, 0)
		announce(t, x, peer, uint64(peer), 0)
	}
	x.Due(0)
	before := look(x, []uint64{0, 1, 2, 3, 4, 5, 6, 7, 9})
	for _, peer := range wrongPeers {
		for _, id := range []uint64{0, 1, 7, 9, 10} {
			expect(t, x.Announce(peer, id, 0, true), api.ErrArg)
			expect(t, x.Ask(peer, id, 5), api.ErrArg)
			expect(t, x.Answer(peer, id), api.ErrArg)
		}
		expect(t, x.Drop(peer), api.ErrArg)
		if ids, e := x.Next(peer); len(ids) != 0 || e != api.ErrArg {
			t.Errorf("Next(%d) = %d, %d", peer, ids, e)
		}
		if all, flights, e := x.Counts(peer); all != 0 || flights != 0 || e != api.ErrArg {
			t.Errorf("Counts(%d) = %d, %d, %d", peer, all, flights, e)
		}
	}
	if after := look(x, []uint64{0, 1, 2, 3, 4, 5, 6, 7, 9}); !reflect.DeepEqual(before, after) {
		t.Errorf("changed from %v to %v", before, after)
	}
	expectHolders(t, x, 10)
}

func TestPeersInRange(t *testing.T) {
	for peer := range 8 {
		x := New(1)
		announce(t, x, peer, 4, 0)
		expectHolders(t, x, 4, peer)
		x.Due(0)
		for other := range 8 {
			if other != peer {
				expectNext(t, x, other)
				expectCounts(t, x, other, 0, 0)
				expect(t, x.Ask(other, 4, 1), api.ErrNone)
				expect(t, x.Answer(other, 4), api.ErrNone)
				expect(t, x.Drop(other), api.OK)
			}
		}
		expectNext(t, x, peer, 4)
		expectCounts(t, x, peer, 1, 0)
		expect(t, x.Ask(peer, 4, 1), api.OK)
		expectCounts(t, x, peer, 1, 1)
		expect(t, x.Drop(peer), api.OK)
		expectCounts(t, x, peer, 0, 0)
		expectHolders(t, x, 4)
	}
}

func TestTimesOutOfRange(t *testing.T) {
	x := New(1)
	announce(t, x, 0, 1, 0)
	x.Due(0)
	for _, at := range wrongTimes {
		expect(t, x.Announce(0, 2, at, false), api.ErrArg)
		expect(t, x.Announce(1, 1, at, true), api.ErrArg)
		expect(t, x.Ask(0, 1, at), api.ErrArg)
	}
	expectHolders(t, x, 1, 0)
	expectHolders(t, x, 2)
	expectCounts(t, x, 0, 1, 0)
	expectCounts(t, x, 1, 0, 0)
	expectNext(t, x, 0, 1)
}

// TestWaitingUntil has entries that wait until each of these times, and the times next to it.
func TestWaitingUntil(t *testing.T) {
	for _, at := range []int{0, 1, 5, 255, 256, 1 << 31, 1 << 32, 1<<32 + 5, maxTime - 1, maxTime} {
		x := New(1)
		announce(t, x, 2, 9, at)
		for _, early := range []int{math.MinInt, -1, at - 1} {
			x.Due(early)
			expectNext(t, x, 2)
			expect(t, x.Ask(2, 9, at), api.ErrState)
		}
		x.Due(at)
		expectNext(t, x, 2, 9)
		// A time that is earlier does not bring it back.
		for _, early := range []int{math.MinInt, -1, 0, at - 1} {
			x.Due(early)
			expectNext(t, x, 2, 9)
		}
		for _, late := range []int{at + 1, maxTime, maxTime + 1, math.MaxInt} {
			y := New(1)
			announce(t, y, 2, 9, at)
			y.Due(late)
			expectNext(t, y, 2, 9)
			y.Due(late)
			expectNext(t, y, 2, 9)
			expectCounts(t, y, 2, 1, 0)
		}
	}
}

// TestRequestedUntil has entries that are requested until each of these times, with a ready entry of another peer beside them.
func TestRequestedUntil(t *testing.T) {
	for _, until := range []int{0, 1, 5, 255, 256, 1 << 31, 1 << 32, 1<<32 + 5, maxTime - 1, maxTime} {
		for _, late := range []int{until, until + 1, maxTime, maxTime + 1, math.MaxInt} {
			x := New(1)
			announce(t, x, 2, 9, 0)
			announce(t, x, 3, 9, 0)
			x.Due(0)
			expect(t, x.Ask(2, 9, until), api.OK)
			for _, early := range []int{math.MinInt, -1, until - 1} {
				x.Due(early)
				expectChosen(t, x, 9, -1)
				expectCounts(t, x, 2, 1, 1)
			}
			x.Due(late)
			expectChosen(t, x, 9, 3)
			expectCounts(t, x, 2, 1, 0)
			expectCounts(t, x, 3, 1, 0)
			expectHolders(t, x, 9, 2, 3)
			x.Due(until - 1)
			expectChosen(t, x, 9, 3)
			expect(t, x.Ask(2, 9, maxTime), api.ErrState)
		}
	}
}

// TestDueEarlier has times that do not increase: Due keeps no time, and Announce and Ask take earlier ones too.
func TestDueEarlier(t *testing.T) {
	x := New(1)
	x.Due(50)
	announce(t, x, 0, 1, 10)
	expectNext(t, x, 0)
	x.Due(9)
	expectNext(t, x, 0)
	x.Due(10)
	expectNext(t, x, 0, 1)
	announce(t, x, 0, 2, 20)
	expect(t, x.Ask(0, 1, 5), api.OK)
	expectCounts(t, x, 0, 2, 1)
	x.Due(4)
	expectCounts(t, x, 0, 2, 1)
	x.Due(5)
	expectCounts(t, x, 0, 1, 0)
	expectNext(t, x, 0)
	x.Due(math.MaxInt)
	expectNext(t, x, 0, 2)
}

// TestDueOneStep has entries for which a single time would be late enough for two steps, if they were asked between them.
func TestDueOneStep(t *testing.T) {
	x := New(1)
	announce(t, x, 0, 1, 3)
	x.Due(1000)
	x.Due(1000)
	expectNext(t, x, 0, 1)
	expect(t, x.Ask(0, 1, 3), api.OK)
	expectCounts(t, x, 0, 1, 1)
	expectNext(t, x, 0)
	x.Due(2)
	expectCounts(t, x, 0, 1, 1)
	x.Due(1000)
	expectCounts(t, x, 0, 0, 0)
}

// TestDueSeveral has entries of several IDs and peers, some of which are due.
func TestDueSeveral(t *testing.T) {
	x := New(1)
	for id := range uint64(10) {
		announce(t, x, int(id)%3, id, int(id))
	}
	x.Due(4)
	expectNext(t, x, 0, 0, 3)
	expectNext(t, x, 1, 1, 4)
	expectNext(t, x, 2, 2)
	for id := range uint64(5) {
		expect(t, x.Ask(int(id)%3, id, 20+int(id)), api.OK)
	}
	x.Due(9)
	expectNext(t, x, 0, 6, 9)
	expectNext(t, x, 1, 7)
	expectNext(t, x, 2, 5, 8)
	expectCounts(t, x, 0, 4, 2)
	x.Due(22)
	expectCounts(t, x, 0, 3, 1)
	expectCounts(t, x, 1, 2, 1)
	expectCounts(t, x, 2, 2, 0)
	expectHolders(t, x, 2)
	expectHolders(t, x, 3, 0)
}

func TestAnnounceTwice(t *testing.T) {
	for _, s := range []state{waiting, ready, requested, done} {
		x := New(1)
		add(t, x, 5, 9, waiting)
		add(t, x, 4, 9, s)
		add(t, x, 4, 8, waiting)
		for _, at := range []int{0, 100, maxTime} {
			expect(t, x.Announce(4, 9, at, false), api.ErrTwice)
			expect(t, x.Announce(4, 9, at, true), api.ErrTwice)
		}
		expect(t, x.Announce(4, 9, -1, true), api.ErrArg)
		expect(t, x.Announce(4, 9, maxTime+1, true), api.ErrArg)
		expectHolders(t, x, 9, 4, 5)
		expectCounts(t, x, 4, 2, oneIf(s == requested))
		x.Due(99)
		switch s {
		case ready:
			expectNext(t, x, 4, 9)
		default:
			expectNext(t, x, 4)
		}
	}
}

// TestAnnounceTwiceKeeps tells that a second Announce changes neither the time nor the preference of the entry.
func TestAnnounceTwiceKeeps(t *testing.T) {
	x := New(5)
	announce(t, x, 0, 9, 10)
	announce(t, x, 4, 9, 10)
	expect(t, x.Announce(4, 9, 3, true), api.ErrTwice)
	x.Due(9)
	expectChosen(t, x, 9, -1)
	x.Due(10)
	// Mix(5, 0, 9) is the greatest of the peers', Mix(5, 4, 9) the least.
	expectChosen(t, x, 9, 0)
}

func TestAnnounceLarge(t *testing.T) {
	x := New(1)
	announce(t, x, 7, 3, 0)
	for i := range uint64(20) {
		expectCounts(t, x, 6, int(i), 0)
		expect(t, x.Announce(6, i, 100, i%2 == 0), api.OK)
	}
	for _, id := range []uint64{20, 21, 1000, math.MaxUint64} {
		expect(t, x.Announce(6, id, 0, true), api.ErrLarge)
		expectHolders(t, x, id)
	}
	expectCounts(t, x, 6, 20, 0)
	// The order of the errors.
	expect(t, x.Announce(6, 0, 0, true), api.ErrTwice)
	expect(t, x.Announce(6, 19, 0, true), api.ErrTwice)
	expect(t, x.Announce(6, 19, -1, true), api.ErrArg)
	expect(t, x.Announce(6, 20, -1, true), api.ErrArg)
	expect(t, x.Announce(8, 20, 0, true), api.ErrArg)
	// Others have places of their own.
	for i := range uint64(19) {
		announce(t, x, 7, i+100, 0)
	}
	expect(t, x.Announce(7, 20, 0, true), api.ErrLarge)
	announce(t, x, 5, 20, 0)
}

// TestAnnounceLargeStates fills a peer with entries of all states: they count alike, and one that is removed leaves its place.
func TestAnnounceLargeStates(t *testing.T) {
	fill := func() *Tracker {
		x := New(1)
		for i := range uint64(20) {
			add(t, x, 0, i, waiting)
			add(t, x, 1, i, state(i%4))
		}
		expect(t, x.Announce(1, 50, 0, false), api.ErrLarge)
		expectCounts(t, x, 1, 20, 5)
		return x
	}
	tests := []struct {
		name string
		id   uint64
		call func(x *Tracker)
	}{
		{"Forget of a waiting entry", 4, func(x *Tracker) { x.Forget(4) }},
		{"Forget of a done entry", 3, func(x *Tracker) { x.Forget(3) }},
		{"Answer of the last", 7, func(x *Tracker) { x.Answer(0, 7) }},
		{"Due of the last", 11, func(x *Tracker) {
			x.Due(100)
			for _, id := range []uint64{2, 6, 10, 14, 18, 7, 3, 15, 19} {
				expect(t, x.Announce(0, id+100, 0, false), api.ErrLarge)
			}
			expect(t, x.Ask(0, 11, 150), api.OK)
			x.Due(150)
		}},
	}
	for _, test := range tests {
		t.Run(test.name, func(t *testing.T) {
			x := fill()
			test.call(x)
			expectHolders(t, x, test.id)
			announce(t, x, 1, 50, 0)
			expect(t, x.Announce(1, 51, 0, false), api.ErrLarge)
			announce(t, x, 0, 52, 0)
			expect(t, x.Announce(0, 53, 0, false), api.ErrLarge)
		})
	}
	x := fill()
	expect(t, x.Drop(1), api.OK)
	for i := range uint64(20) {
		announce(t, x, 1, i+60, 0)
	}
	expect(t, x.Announce(1, 1, 0, false), api.ErrLarge)
}

// ranks has peers in the decreasing order of Mix of a salt, the peer and an ID, as it was computed apart from package sum.
var ranks = []struct {
	salt, id uint64
	peers    []int
}{
	{0, 0, []int{2, 6, 4, 5, 1, 3, 7, 0}},
	{0, 1, []int{5, 1, 0, 7, 4, 2, 6, 3}},
	{1, 9, []int{1, 2, 0, 5, 6, 4, 3, 7}},
	{1, 7, []int{2, 0, 5, 4, 1, 6, 7, 3}},
	{5, 7, []int{4, 6, 0, 3, 7, 1, 2, 5}},
	{5, 9, []int{0, 6, 5, 7, 2, 3, 1, 4}},
	{5, math.MaxUint64, []int{7, 1, 5, 2, 3, 0, 6, 4}},
	{1 << 63, 2, []int{1, 7, 2, 3, 6, 0, 4, 5}},
	{1 << 63, 1 << 63, []int{0, 3, 4, 2, 5, 1, 6, 7}},
	{math.MaxUint64, 0, []int{1, 5, 4, 7, 6, 2, 0, 3}},
	{math.MaxUint64, math.MaxUint64, []int{6, 2, 0, 4, 3, 7, 1, 5}},
}

// TestNextRanks asks one peer after the other, each until it does not answer, with entries that were added in several orders.
func TestNextRanks(t *testing.T) {
	orders := [][]int{{0, 1, 2, 3, 4, 5, 6, 7}, {7, 6, 5, 4, 3, 2, 1, 0}, {3, 7, 0, 5, 1, 6, 2, 4}}
	for _, r := range ranks {
		for _, order := range orders {
			x := New(r.salt)
			for _, peer := range order {
				announce(t, x, peer, r.id, 1)
			}
			x.Due(1)
			for i, peer := range r.peers {
				expectChosen(t, x, r.id, peer)
				expect(t, x.Ask(peer, r.id, 10+i), api.OK)
				expectChosen(t, x, r.id, -1)
				x.Due(10 + i)
			}
			expectHolders(t, x, r.id)
		}
	}
}

// TestNextPreferred prefers each set of peers: the preferred ones come first, by their ranks, and then the others.
func TestNextPreferred(t *testing.T) {
	for _, r := range ranks {
		for set := range 256 {
			x := New(r.salt)
			for peer := range 8 {
				expect(t, x.Announce(peer, r.id, 0, set>>peer&1 == 1), api.OK)
			}
			x.Due(0)
			var order, rest []int
			for _, peer := range r.peers {
				if set>>peer&1 == 1 {
					order = append(order, peer)
				} else {
					rest = append(rest, peer)
				}
			}
			for _, peer := range append(order, rest...) {
				expectChosen(t, x, r.id, peer)
				expect(t, x.Answer(peer, r.id), api.OK)
			}
			expectHolders(t, x, r.id)
		}
	}
}

// TestNextTwoPeers has two peers whose ranks are in either order.
func TestNextTwoPeers(t *testing.T) {
	lower, higher := 0, 0
	for id := range uint64(40) {
		x := New(77)
		announce(t, x, 3, id, 0)
		announce(t, x, 2, id, 0)
		x.Due(0)
		if sum.Mix(77, 2, id) > sum.Mix(77, 3, id) {
			expectChosen(t, x, id, 2)
			lower++
		} else {
			expectChosen(t, x, id, 3)
			higher++
		}
	}
	if lower == 0 || higher == 0 {
		t.Error("one order alone", lower, higher)
	}
}

// TestCompareTie has entries with the same Mix: those of one ID never have it, so that only compare itself can be given some.
func TestCompareTie(t *testing.T) {
	x := New(0)
	low, high := entry{peer: 0, id: 13787848793156543929 + 7}, entry{peer: 1, id: 7}
	if sum.Mix(0, 0, low.id) != sum.Mix(0, 1, high.id) {
		t.Fatal("no tie")
	}
	if x.compare(low, high) >= 0 || x.compare(high, low) <= 0 {
		t.Errorf("compare = %d, %d, want the lowest peer first", x.compare(low, high), x.compare(high, low))
	}
	high.preferred = true
	if x.compare(low, high) <= 0 || x.compare(high, low) >= 0 {
		t.Errorf("compare = %d, %d, want the preferred peer first", x.compare(low, high), x.compare(high, low))
	}
}

// TestNextBeside has a ready entry of the worst rank, and one of the best rank in each state and preference beside it.
func TestNextBeside(t *testing.T) {
	for _, preferred := range []bool{false, true} {
		for s, want := range map[state]int{waiting: 4, ready: 0, requested: -1, done: 4} {
			x := New(5)
			announce(t, x, 4, 9, 0)
			at := 0
			if s == waiting {
				at = 100
			}
			expect(t, x.Announce(0, 9, at, preferred), api.OK)
			x.Due(0)
			switch s {
			case requested:
				expect(t, x.Ask(0, 9, 100), api.OK)
			case done:
				expect(t, x.Answer(0, 9), api.OK)
			}
			expectChosen(t, x, 9, want)
			expectHolders(t, x, 9, 0, 4)
			// The state of another ID does not matter.
			announce(t, x, 4, 8, 0)
			x.Due(0)
			expectChosen(t, x, 8, 4)
		}
	}
}

// TestNextWaitingPreferred has an entry that becomes the best when it is ready, and one that does not.
func TestNextWaitingPreferred(t *testing.T) {
	x := New(5)
	announce(t, x, 0, 9, 1)
	expect(t, x.Announce(4, 9, 2, true), api.OK)
	expect(t, x.Announce(1, 9, 3, true), api.OK)
	announce(t, x, 6, 9, 4)
	x.Due(1)
	expectChosen(t, x, 9, 0)
	x.Due(2)
	expectChosen(t, x, 9, 4)
	x.Due(3)
	expectChosen(t, x, 9, 1)
	x.Due(4)
	expectChosen(t, x, 9, 1)
	expect(t, x.Answer(1, 9), api.OK)
	expectChosen(t, x, 9, 4)
	expect(t, x.Drop(4), api.OK)
	expectChosen(t, x, 9, 0)
}

// TestNextOrder has the IDs of a peer in the order in which they were announced, not that of their sizes or times.
func TestNextOrder(t *testing.T) {
	ids := []uint64{70, 3, math.MaxUint64, 0, 1 << 63, 12, 1, 69, 2, 1 << 32, 11, 71, 5, 4, 90, 80, 6, 85, 10, 9}
	x := New(3)
	for i, id := range ids {
		expect(t, x.Announce(2, id, (i*7)%20, i%3 == 0), api.OK)
	}
	for now := range 20 {
		x.Due(now)
		var want []uint64
		for i, id := range ids {
			if (i*7)%20 <= now {
				want = append(want, id)
			}
		}
		expectNext(t, x, 2, want...)
	}
	// One that is asked is missing, one that is announced anew is the last.
	expect(t, x.Ask(2, 0, 30), api.OK)
	expectNext(t, x, 2, append(slices.Clone(ids[:3]), ids[4:]...)...)
	expect(t, x.Answer(2, 0), api.OK)
	x.Forget(70)
	announce(t, x, 2, 0, 0)
	announce(t, x, 2, 70, 0)
	x.Due(0)
	expectNext(t, x, 2, append(append([]uint64{3, math.MaxUint64}, ids[4:]...), 0, 70)...)
}

// TestNextOrderOfPeers has peers that announced the same IDs in different orders.
func TestNextOrderOfPeers(t *testing.T) {
	x := New(3)
	for _, id := range []uint64{5, 1, 4, 2, 3} {
		announce(t, x, 0, id, 0)
	}
	for _, id := range []uint64{2, 3, 1, 5, 4} {
		expect(t, x.Announce(1, id, 1, true), api.OK)
	}
	x.Due(0)
	expectNext(t, x, 0, 5, 1, 4, 2, 3)
	expectNext(t, x, 1)
	x.Due(1)
	expectNext(t, x, 0)
	expectNext(t, x, 1, 2, 3, 1, 5, 4)
	x.Answer(1, 4)
	x.Answer(1, 2)
	expectNext(t, x, 0, 4, 2)
	expectNext(t, x, 1, 3, 1, 5)
}

func TestAskErrors(t *testing.T) {
	for s, want := range map[state]api.Errno{waiting: api.ErrState, ready: api.OK, requested: api.ErrState, done: api.ErrState} {
		for _, until := range []int{0, 50, maxTime} {
			x := New(1)
			add(t, x, 1, 9, waiting)
			add(t, x, 6, 9, s)
			for _, wrong := range wrongTimes {
				expect(t, x.Ask(6, 9, wrong), api.ErrArg)
			}
			expect(t, x.Ask(6, 9, until), want)
			expect(t, x.Ask(6, 9, until), api.ErrState)
			expect(t, x.Ask(6, 8, until), api.ErrNone)
			expect(t, x.Ask(5, 9, until), api.ErrNone)
			expect(t, x.Ask(6, 8, -1), api.ErrArg)
			expect(t, x.Ask(5, 9, maxTime+1), api.ErrArg)
			expect(t, x.Ask(8, 9, until), api.ErrArg)
			expectCounts(t, x, 6, 1, oneIf(s == ready || s == requested))
		}
	}
}

// TestAskKeepsTime tells that an Ask that fails does not change the time of the entry.
func TestAskKeepsTime(t *testing.T) {
	x := New(1)
	add(t, x, 0, 1, waiting)
	expect(t, x.Ask(0, 1, 5), api.ErrState)
	x.Due(99)
	expectNext(t, x, 0)
	x.Due(100)
	expectNext(t, x, 0, 1)
	expect(t, x.Ask(0, 1, 200), api.OK)
	expect(t, x.Ask(0, 1, 150), api.ErrState)
	x.Due(199)
	expectCounts(t, x, 0, 1, 1)
	x.Due(200)
	expectCounts(t, x, 0, 0, 0)
}

// TestAskOther has an ID that is requested from another peer, until that does not answer, or answers, or leaves.
func TestAskOther(t *testing.T) {
	ends := map[string]func(x *Tracker){
		"Due":    func(x *Tracker) { x.Due(100) },
		"Answer": func(x *Tracker) { x.Answer(0, 9) },
		"Drop":   func(x *Tracker) { x.Drop(0) },
	}
	for name, end := range ends {
		t.Run(name, func(t *testing.T) {
			x := New(1)
			announce(t, x, 0, 9, 0)
			announce(t, x, 1, 9, 0)
			announce(t, x, 1, 8, 0)
			x.Due(0)
			expect(t, x.Ask(0, 9, 100), api.OK)
			expect(t, x.Ask(1, 9, 50), api.ErrState)
			expectNext(t, x, 1, 8)
			expect(t, x.Ask(1, 8, 200), api.OK)
			end(x)
			expectNext(t, x, 1, 9)
			expect(t, x.Ask(1, 9, 200), api.OK)
			expectCounts(t, x, 1, 2, 2)
		})
	}
}

// TestAskNotBest asks a peer for an ID that another peer would be asked for.
func TestAskNotBest(t *testing.T) {
	x := New(5)
	for peer := range 8 {
		expect(t, x.Announce(peer, 9, 0, peer == 3), api.OK)
	}
	x.Due(0)
	expectChosen(t, x, 9, 3)
	expect(t, x.Ask(4, 9, 10), api.OK)
	expectChosen(t, x, 9, -1)
	expectCounts(t, x, 4, 1, 1)
	expectCounts(t, x, 3, 1, 0)
	x.Due(10)
	expectChosen(t, x, 9, 3)
}

// TestAnswerStates answers an entry in each state, beside one of another peer that is not done, or none.
func TestAnswerStates(t *testing.T) {
	for _, s := range []state{waiting, ready, requested, done} {
		x := New(1)
		add(t, x, 2, 9, waiting)
		add(t, x, 6, 9, s)
		for range 3 {
			expect(t, x.Answer(6, 9), api.OK)
			expectHolders(t, x, 9, 2, 6)
			expectCounts(t, x, 6, 1, 0)
		}
		// It is done: no time makes it ready, and it is not requested again.
		x.Due(99)
		expectChosen(t, x, 9, -1)
		x.Due(100)
		expectChosen(t, x, 9, 2)
		expect(t, x.Ask(6, 9, 200), api.ErrState)
		expect(t, x.Ask(2, 9, 200), api.OK)
		expect(t, x.Answer(6, 8), api.ErrNone)
		expect(t, x.Answer(5, 9), api.ErrNone)
		expect(t, x.Answer(-1, 9), api.ErrArg)
		expectHolders(t, x, 9, 2, 6)

		if s == done {
			continue
		}
		y := New(1)
		add(t, y, 6, 9, s)
		add(t, y, 6, 8, waiting)
		expect(t, y.Answer(6, 9), api.OK)
		expectHolders(t, y, 9)
		expectCounts(t, y, 6, 1, 0)
		expect(t, y.Answer(6, 9), api.ErrNone)
	}
}

// TestRemovedWhenDone ends the last entry of an ID that is not done, in each state, while two others are done.
func TestRemovedWhenDone(t *testing.T) {
	tests := []struct {
		name string
		last state
		call func(x *Tracker)
	}{
		{"Answer of a waiting entry", waiting, func(x *Tracker) { x.Answer(2, 9) }},
		{"Answer of a ready entry", ready, func(x *Tracker) { x.Answer(2, 9) }},
		{"Answer of a requested entry", requested, func(x *Tracker) { x.Answer(2, 9) }},
		{"Due of a requested entry", requested, func(x *Tracker) { x.Due(100) }},
		{"Drop of a waiting entry", waiting, func(x *Tracker) { x.Drop(2) }},
		{"Drop of a ready entry", ready, func(x *Tracker) { x.Drop(2) }},
		{"Drop of a requested entry", requested, func(x *Tracker) { x.Drop(2) }},
	}
	for _, test := range tests {
		t.Run(test.name, func(t *testing.T) {
			x := New(1)
			add(t, x, 2, 9, test.last)
			// One entry that is not done keeps the others, which neither become ready nor are announced again.
			for _, peer := range []int{1, 5} {
				announce(t, x, peer, 9, 0)
				expect(t, x.Answer(peer, 9), api.OK)
				x.Due(99)
				expect(t, x.Announce(peer, 9, 0, true), api.ErrTwice)
			}
			expectHolders(t, x, 9, 1, 2, 5)
			add(t, x, 5, 3, waiting)
			for _, peer := range []int{1, 2} {
				expectCounts(t, x, peer, 1, oneIf(peer == 2 && test.last == requested))
			}
			test.call(x)
			expectHolders(t, x, 9)
			expectHolders(t, x, 3, 5)
			expectCounts(t, x, 1, 0, 0)
			expectCounts(t, x, 2, 0, 0)
			expectCounts(t, x, 5, 1, 0)
			for _, peer := range []int{1, 2, 5} {
				expect(t, x.Answer(peer, 9), api.ErrNone)
				expect(t, x.Ask(peer, 9, 0), api.ErrNone)
			}
			// It can be announced again, and is like a new one.
			announce(t, x, 5, 9, 300)
			expectHolders(t, x, 9, 5)
			expect(t, x.Ask(5, 9, 400), api.ErrState)
			x.Due(299)
			expectNext(t, x, 5, 3)
			x.Due(300)
			expectNext(t, x, 5, 3, 9)
			expect(t, x.Ask(5, 9, 400), api.OK)
		})
	}
}

// TestNotRemoved has calls behind which an entry of the ID is left that is not done.
func TestNotRemoved(t *testing.T) {
	for _, s := range []state{waiting, ready, requested} {
		x := New(1)
		add(t, x, 2, 9, s)
		announce(t, x, 1, 9, 0)
		announce(t, x, 5, 9, 0)
		expect(t, x.Answer(1, 9), api.OK)
		expect(t, x.Drop(5), api.OK)
		x.Due(99)
		expectHolders(t, x, 9, 1, 2)
		expect(t, x.Drop(1), api.OK)
		expectHolders(t, x, 9, 2)
		expectCounts(t, x, 2, 1, oneIf(s == requested))
	}
}

// TestDueRemovesSeveral has IDs of which one time makes all entries done, next to others of which it does not.
func TestDueRemovesSeveral(t *testing.T) {
	x := New(1)
	for id := range uint64(10) {
		announce(t, x, 3, id, 0)
		x.Due(0)
		expect(t, x.Ask(3, id, 10), api.OK)
	}
	for id := range uint64(5) {
		announce(t, x, 4, 2*id, 20)
	}
	expectCounts(t, x, 3, 10, 10)
	x.Due(10)
	expectCounts(t, x, 3, 5, 0)
	expectCounts(t, x, 4, 5, 0)
	for id := range uint64(10) {
		if id%2 == 0 {
			expectHolders(t, x, id, 3, 4)
		} else {
			expectHolders(t, x, id)
		}
	}
	x.Due(20)
	expectNext(t, x, 4, 0, 2, 4, 6, 8)
	expectNext(t, x, 3)
}

// TestDropRemovesSeveral drops a peer with an entry that alone is not done, one among others, and one of its own.
func TestDropRemovesSeveral(t *testing.T) {
	x := New(1)
	for id := range uint64(12) {
		add(t, x, 3, id, state(id%3))
	}
	for id := range uint64(12) {
		switch id / 3 {
		case 1:
			announce(t, x, 4, id, 0)
			expect(t, x.Answer(4, id), api.OK)
		case 2:
			add(t, x, 4, id, waiting)
		case 3:
			announce(t, x, 5, id, 0)
			announce(t, x, 4, id, 0)
			expect(t, x.Answer(5, id), api.OK)
			expect(t, x.Answer(4, id), api.OK)
		}
	}
	expectCounts(t, x, 3, 12, 4)
	expectCounts(t, x, 4, 9, 0)
	expectCounts(t, x, 5, 3, 0)
	expect(t, x.Drop(3), api.OK)
	expectCounts(t, x, 3, 0, 0)
	expectCounts(t, x, 4, 3, 0)
	expectCounts(t, x, 5, 0, 0)
	for id := range uint64(12) {
		if id/3 == 2 {
			expectHolders(t, x, id, 4)
		} else {
			expectHolders(t, x, id)
		}
	}
	x.Due(100)
	expectNext(t, x, 4, 6, 7, 8)
}

func TestForget(t *testing.T) {
	x := New(1)
	x.Forget(0)
	for _, s := range []state{waiting, ready, requested} {
		// Of the IDs 10 to 12 there are no, one and several entries; of 20 all peers have one.
		for peer := range 8 {
			add(t, x, peer, 20, waiting)
		}
		add(t, x, 0, 12, s)
		add(t, x, 7, 12, done)
		add(t, x, 3, 12, waiting)
		add(t, x, 3, 11, s)
		add(t, x, 3, 13, ready)
		flights := oneIf(s == requested)
		expectCounts(t, x, 3, 4, flights)
		x.Forget(10)
		expectCounts(t, x, 3, 4, flights)
		x.Forget(11)
		expectHolders(t, x, 11)
		expectCounts(t, x, 3, 3, 0)
		expectCounts(t, x, 0, 2, flights)
		x.Forget(12)
		expectHolders(t, x, 12)
		expectCounts(t, x, 0, 1, 0)
		expectCounts(t, x, 3, 2, 0)
		expectCounts(t, x, 7, 1, 0)
		expectHolders(t, x, 20, 0, 1, 2, 3, 4, 5, 6, 7)
		x.Forget(20)
		expectHolders(t, x, 20)
		x.Forget(20)
		for peer := range 8 {
			expectCounts(t, x, peer, oneIf(peer == 3), 0)
		}
		expect(t, x.Ask(0, 12, 5), api.ErrNone)
		expect(t, x.Answer(7, 12), api.ErrNone)
		expectNext(t, x, 3, 13)
		x.Forget(13)
		expectNext(t, x, 3)
	}
}

// TestForgetNear forgets an ID next to others that differ from it a little.
func TestForgetNear(t *testing.T) {
	ids := []uint64{5, 4, 6, 0, 5 + 1<<8, 5 + 1<<32, 5 + 1<<63, math.MaxUint64}
	x := New(1)
	for _, id := range ids {
		announce(t, x, 1, id, 0)
	}
	x.Due(0)
	x.Forget(5)
	expectNext(t, x, 1, ids[1:]...)
	for i, id := range ids[1:] {
		expectHolders(t, x, id, 1)
		x.Forget(id)
		expectNext(t, x, 1, ids[i+2:]...)
	}
}

func TestDrop(t *testing.T) {
	x := New(1)
	expect(t, x.Drop(0), api.OK)
	for peer := range 8 {
		for id := range uint64(peer) {
			announce(t, x, peer, id, 0)
		}
	}
	x.Due(0)
	// Peer 0 has no entry, 1 has one, the others have several.
	for peer := range 8 {
		expect(t, x.Drop(peer), api.OK)
		for other := range 8 {
			if other <= peer {
				expectCounts(t, x, other, 0, 0)
				expectNext(t, x, other)
			} else {
				expectCounts(t, x, other, other, 0)
			}
		}
		for id := range uint64(8) {
			var holders []int
			for other := max(int(id), peer) + 1; other < 8; other++ {
				holders = append(holders, other)
			}
			expectHolders(t, x, id, holders...)
		}
		expect(t, x.Drop(peer), api.OK)
	}
	announce(t, x, 7, 3, 0)
	x.Due(0)
	expectNext(t, x, 7, 3)
}

func TestHolders(t *testing.T) {
	for _, order := range [][]int{{0, 1, 2, 3, 4, 5, 6, 7}, {7, 6, 5, 4, 3, 2, 1, 0}, {3, 7, 0, 5, 1, 6, 2, 4}} {
		x := New(1)
		expectHolders(t, x, 9)
		for i, peer := range order {
			announce(t, x, peer, 9, 0)
			announce(t, x, peer, 8, 0)
			expectHolders(t, x, 9, slices.Sorted(slices.Values(order[:i+1]))...)
		}
		// A done entry counts, and a dropped one does not.
		expect(t, x.Answer(order[2], 9), api.OK)
		expectHolders(t, x, 9, 0, 1, 2, 3, 4, 5, 6, 7)
		for i, peer := range order {
			expect(t, x.Drop(peer), api.OK)
			expectHolders(t, x, 9, slices.Sorted(slices.Values(order[i+1:]))...)
		}
		for _, id := range []uint64{0, 8, 10, 9 + 1<<32, 9 + 1<<63, math.MaxUint64} {
			expectHolders(t, x, id)
		}
	}
}

// TestCounts follows one peer through all calls.
func TestCounts(t *testing.T) {
	x := New(1)
	announce(t, x, 1, 4, 2)
	expectCounts(t, x, 1, 1, 0)
	announce(t, x, 1, 5, 2)
	announce(t, x, 1, 6, 2)
	announce(t, x, 0, 6, 2)
	expectCounts(t, x, 1, 3, 0)
	x.Due(2)
	expectCounts(t, x, 1, 3, 0)
	expect(t, x.Ask(1, 4, 5), api.OK)
	expectCounts(t, x, 1, 3, 1)
	expect(t, x.Ask(1, 6, 5), api.OK)
	expectCounts(t, x, 1, 3, 2)
	expectCounts(t, x, 0, 1, 0)
	expect(t, x.Answer(1, 4), api.OK)
	expectCounts(t, x, 1, 2, 1)
	x.Due(5)
	expectCounts(t, x, 1, 2, 0)
	expect(t, x.Ask(0, 6, 9), api.OK)
	expectCounts(t, x, 0, 1, 1)
	expectCounts(t, x, 1, 2, 0)
	x.Due(9)
	expectCounts(t, x, 0, 0, 0)
	expectCounts(t, x, 1, 1, 0)
	x.Forget(5)
	expectCounts(t, x, 1, 0, 0)
}

// TestCountsFull asks all twenty entries of all peers.
func TestCountsFull(t *testing.T) {
	x := New(1)
	for peer := range 8 {
		for i := range 20 {
			announce(t, x, peer, uint64(20*peer+i), 0)
		}
	}
	x.Due(0)
	for peer := range 8 {
		for i := range 20 {
			expectCounts(t, x, peer, 20, i)
			expect(t, x.Ask(peer, uint64(20*peer+i), 1), api.OK)
		}
		expectCounts(t, x, peer, 20, 20)
	}
	x.Due(1)
	for peer := range 8 {
		expectCounts(t, x, peer, 0, 0)
	}
}

// modelEntry is an entry of a model.
type modelEntry struct {
	peer      int
	id        uint64
	preferred bool
	is        string
	until     int
}

// model is a tracker that keeps all entries in one list, by the words of P9 to P11.
type model struct {
	salt uint64
	list []*modelEntry
}

func (m *model) entry(peer int, id uint64) *modelEntry {
	for _, e := range m.list {
		if e.peer == peer && e.id == id {
			return e
		}
	}
	return nil
}

// remove removes some entries, and then those of each ID all of whose entries are done.
func (m *model) remove(some func(e *modelEntry) bool) {
	m.list = slices.DeleteFunc(m.list, some)
	alive := map[uint64]bool{}
	for _, e := range m.list {
		if e.is != "done" {
			alive[e.id] = true
		}
	}
	m.list = slices.DeleteFunc(m.list, func(e *modelEntry) bool { return !alive[e.id] })
}

func (m *model) tidy() {
	m.remove(func(*modelEntry) bool { return false })
}

func (m *model) announce(peer int, id uint64, at int, preferred bool) api.Errno {
	if peer < 0 || peer > 7 || at < 0 || at > maxTime {
		return api.ErrArg
	}
	if m.entry(peer, id) != nil {
		return api.ErrTwice
	}
	if all, _ := m.counts(peer); all == 20 {
		return api.ErrLarge
	}
	m.list = append(m.list, &modelEntry{peer, id, preferred, "waiting", at})
	return api.OK
}

func (m *model) due(now int) {
	for _, e := range m.list {
		if e.is == "waiting" && e.until <= now {
			e.is = "ready"
		} else if e.is == "requested" && e.until <= now {
			e.is = "done"
		}
	}
	m.tidy()
}

// precedes reports whether e is asked rather than f.
func (m *model) precedes(e, f *modelEntry) bool {
	if e.preferred != f.preferred {
		return e.preferred
	}
	a, b := sum.Mix(m.salt, uint64(e.peer), e.id), sum.Mix(m.salt, uint64(f.peer), f.id)
	return a > b || a == b && e.peer < f.peer
}

func (m *model) next(peer int) []uint64 {
	var ids []uint64
	for _, e := range m.list {
		if e.peer != peer || e.is != "ready" {
			continue
		}
		beaten := false
		for _, f := range m.list {
			if f.id == e.id && (f.is == "requested" || f != e && f.is == "ready" && m.precedes(f, e)) {
				beaten = true
			}
		}
		if !beaten {
			ids = append(ids, e.id)
		}
	}
	return ids
}

func (m *model) ask(peer int, id uint64, until int) api.Errno {
	if peer < 0 || peer > 7 || until < 0 || until > maxTime {
		return api.ErrArg
	}
	e := m.entry(peer, id)
	if e == nil {
		return api.ErrNone
	}
	for _, f := range m.list {
		if f.id == id && f.is == "requested" {
			return api.ErrState
		}
	}
	if e.is != "ready" {
		return api.ErrState
	}
	e.is, e.until = "requested", until
	return api.OK
}

func (m *model) answer(peer int, id uint64) api.Errno {
	if peer < 0 || peer > 7 {
		return api.ErrArg
	}
	e := m.entry(peer, id)
	if e == nil {
		return api.ErrNone
	}
	e.is = "done"
	m.tidy()
	return api.OK
}

func (m *model) drop(peer int) api.Errno {
	if peer < 0 || peer > 7 {
		return api.ErrArg
	}
	m.remove(func(e *modelEntry) bool { return e.peer == peer })
	return api.OK
}

func (m *model) counts(peer int) (all, flights int) {
	for _, e := range m.list {
		if e.peer == peer {
			all++
			if e.is == "requested" {
				flights++
			}
		}
	}
	return all, flights
}

func (m *model) holders(id uint64) []int {
	var peers []int
	for peer := range 8 {
		if m.entry(peer, id) != nil {
			peers = append(peers, peer)
		}
	}
	return peers
}

// compare checks all that can be seen of a tracker, of the IDs from 0 to before top.
func (m *model) compare(t *testing.T, x *Tracker, top uint64) {
	t.Helper()
	for peer := range 8 {
		expectNext(t, x, peer, m.next(peer)...)
		all, flights := m.counts(peer)
		expectCounts(t, x, peer, all, flights)
	}
	for id := range top {
		expectHolders(t, x, id, m.holders(id)...)
	}
}

// act does the same thing to a tracker and to its model; number draws a number below another one.
func (m *model) act(t *testing.T, x *Tracker, top uint64, number func(n int) int) {
	t.Helper()
	peer, id := number(9), uint64(number(int(top)))
	when := number(14) - 1
	if when == 12 {
		when = maxTime + number(3) - 1
	}
	switch number(12) {
	case 0, 1, 2, 3:
		preferred := number(2) == 1
		expect(t, x.Announce(peer, id, when, preferred), m.announce(peer, id, when, preferred))
	case 4, 5:
		now := number(12)
		x.Due(now)
		m.due(now)
	case 6, 7:
		expect(t, x.Ask(peer, id, when), m.ask(peer, id, when))
	case 8, 9:
		expect(t, x.Answer(peer, id), m.answer(peer, id))
	case 10:
		if number(3) == 0 {
			x.Forget(id)
			m.remove(func(e *modelEntry) bool { return e.id == id })
		}
	case 11:
		if number(4) == 0 {
			expect(t, x.Drop(peer), m.drop(peer))
		}
	}
}

// TestAgainstModel has few IDs, which have several entries each, and more IDs than a peer may have entries.
func TestAgainstModel(t *testing.T) {
	random := rand.New(rand.NewSource(5))
	for _, top := range []uint64{1, 2, 3, 5, 10, 30} {
		for range 40 {
			salt := random.Uint64()
			x, m := New(salt), &model{salt: salt}
			for range 150 {
				m.act(t, x, top, random.Intn)
				m.compare(t, x, top+1)
				if t.Failed() {
					t.Fatalf("salt %d, IDs below %d", salt, top)
				}
			}
		}
	}
}

// TestAgainstModelFull has entries that stay, so that the peers have as many as they may.
func TestAgainstModelFull(t *testing.T) {
	random := rand.New(rand.NewSource(6))
	for salt := range uint64(20) {
		x, m := New(salt), &model{salt: salt}
		large := 0
		for i := range 400 {
			peer, id, at := random.Intn(8), uint64(random.Intn(25)), random.Intn(10)
			preferred := random.Intn(2) == 0
			want := m.announce(peer, id, at, preferred)
			expect(t, x.Announce(peer, id, at, preferred), want)
			if want == api.ErrLarge {
				large++
			}
			if i%20 == 0 {
				m.act(t, x, 25, random.Intn)
			}
		}
		m.compare(t, x, 26)
		if large == 0 {
			t.Errorf("salt %d: no peer was full", salt)
		}
	}
}

// FuzzTracker takes the bytes as numbers that choose what is done.
func FuzzTracker(f *testing.F) {
	f.Add(uint64(0), []byte{})
	f.Add(uint64(5), []byte{0, 1, 0, 0, 1, 1, 1, 0, 0, 0, 0, 0, 0, 4, 0, 0, 1, 5, 6})
	f.Add(uint64(math.MaxUint64), []byte{2, 3, 13, 2, 0, 1, 2, 3, 4, 11, 2, 3, 1, 8})
	f.Fuzz(func(t *testing.T, salt uint64, b []byte) {
		number := func(n int) int {
			if len(b) == 0 {
				return 0
			}
			c := int(b[0]) % n
			b = b[1:]
			return c
		}
		x, m := New(salt), &model{salt: salt}
		for len(b) > 0 {
			m.act(t, x, 4, number)
			m.compare(t, x, 5)
		}
	})
}

// TestTwoTrackers uses trackers in turn, with the same salt or different ones.
func TestTwoTrackers(t *testing.T) {
	random := rand.New(rand.NewSource(7))
	for _, salts := range [][2]uint64{{3, 3}, {3, 4}, {0, math.MaxUint64}} {
		a, b := New(salts[0]), New(salts[1])
		if a == b {
			t.Fatal("New returned a tracker twice")
		}
		modelA, modelB := &model{salt: salts[0]}, &model{salt: salts[1]}
		for range 300 {
			modelA.act(t, a, 4, random.Intn)
			modelB.act(t, b, 4, random.Intn)
			modelA.compare(t, a, 5)
			modelB.compare(t, b, 5)
		}
	}
}

// TestSalts has trackers that differ in their salts alone, and choose different peers.
func TestSalts(t *testing.T) {
	chosen := map[int]bool{}
	for salt := range uint64(60) {
		x := New(salt)
		want := 0
		for peer := range 8 {
			announce(t, x, peer, 9, 0)
			if sum.Mix(salt, uint64(peer), 9) > sum.Mix(salt, uint64(want), 9) {
				want = peer
			}
		}
		x.Due(0)
		expectChosen(t, x, 9, want)
		chosen[want] = true
	}
	if len(chosen) != 8 {
		t.Errorf("peers %v of 8 were chosen", chosen)
	}
}

// TestResultsAreOwn changes what a tracker returned, up to the capacity, which changes nothing in it.
func TestResultsAreOwn(t *testing.T) {
	x := New(1)
	for id := range uint64(9) {
		for peer := range 3 {
			expect(t, x.Announce(peer, id, 0, peer == 0), api.OK)
		}
	}
	x.Due(0)
	ids := []uint64{0, 1, 2, 3, 4, 5, 6, 7, 8}
	before := look(x, ids)
	for range 3 {
		next, _ := x.Next(0)
		again, _ := x.Next(0)
		holders, others := x.Holders(4), x.Holders(4)
		for i := range cap(next) {
			next[:cap(next)][i] = 99
		}
		for i := range cap(holders) {
			holders[:cap(holders)][i] = 99
		}
		if !slices.Equal(again, ids) || !slices.Equal(others, []int{0, 1, 2}) {
			t.Errorf("results share memory: %d, %d", again, others)
		}
		if after := look(x, ids); !reflect.DeepEqual(before, after) {
			t.Errorf("changed from %v to %v", before, after)
		}
	}
	// A result stays as it is while the tracker changes.
	next, _ := x.Next(0)
	holders := x.Holders(4)
	x.Forget(4)
	x.Drop(0)
	announce(t, x, 0, 70, 0)
	if !slices.Equal(next, ids) || !slices.Equal(holders, []int{0, 1, 2}) {
		t.Errorf("results changed: %d, %d", next, holders)
	}
}

// TestLookingChangesNothing looks often at one of two trackers to which the same is done.
func TestLookingChangesNothing(t *testing.T) {
	random := rand.New(rand.NewSource(8))
	x, m := New(2), &model{salt: 2}
	for range 500 {
		for range 3 {
			look(x, []uint64{0, 1, 2, 3, 4})
		}
		m.act(t, x, 4, random.Intn)
		m.compare(t, x, 5)
	}
}

// TestZeroTracker has a tracker that New did not make: P1 says that no call panics, and it is like one of salt 0.
func TestZeroTracker(t *testing.T) {
	calls := []func(x *Tracker){
		func(x *Tracker) { x.Announce(0, 1, 0, true) },
		func(x *Tracker) { x.Due(5) },
		func(x *Tracker) { x.Next(0) },
		func(x *Tracker) { x.Ask(0, 1, 5) },
		func(x *Tracker) { x.Answer(0, 1) },
		func(x *Tracker) { x.Forget(1) },
		func(x *Tracker) { x.Drop(0) },
		func(x *Tracker) { x.Counts(0) },
		func(x *Tracker) { x.Holders(1) },
	}
	random := rand.New(rand.NewSource(9))
	for _, call := range calls {
		var x Tracker
		call(&x)
		x.Forget(1)
		m := &model{}
		for range 100 {
			m.act(t, &x, 4, random.Intn)
			m.compare(t, &x, 5)
		}
	}
}

// TestStateIsBounded looks into a tracker: it keeps its entries and nothing of those that were removed.
func TestStateIsBounded(t *testing.T) {
	x := New(1)
	for i := range 3000 {
		id := uint64(i)
		peer := i % 8
		announce(t, x, peer, id, i)
		announce(t, x, (peer+1)%8, id, i)
		x.Due(i)
		switch i % 4 {
		case 0:
			x.Forget(id)
		case 1:
			x.Answer(peer, id)
			x.Answer((peer+1)%8, id)
		case 2:
			x.Drop(peer)
			x.Drop((peer + 1) % 8)
		case 3:
			expect(t, x.Ask(peer, id, i), api.OK)
			x.Answer((peer+1)%8, id)
			x.Due(i)
		}
		if len(x.entries) != 0 {
			t.Fatalf("%d IDs are left after %d", len(x.entries), i)
		}
		for peer, ids := range x.ids {
			if len(ids) != 0 || cap(ids) > 64 {
				t.Fatalf("%d IDs of peer %d are left after %d, capacity %d", len(ids), peer, i, cap(ids))
			}
		}
	}
}

// TestSeparateGoroutines uses one tracker per goroutine, all at once, for the race detector.
func TestSeparateGoroutines(t *testing.T) {
	var all sync.WaitGroup
	for salt := range uint64(8) {
		x, m := New(salt), &model{salt: salt}
		random := rand.New(rand.NewSource(int64(salt)))
		all.Go(func() {
			for range 150 {
				m.act(t, x, 4, random.Intn)
				m.compare(t, x, 5)
			}
		})
	}
	all.Wait()
}
