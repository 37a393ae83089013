package node

import (
	"math"
	"testing"

	"charterhouse/api"
)

// TestBringGood brings a Good transaction: requested or not, again, and by another peer.
func TestBringGood(t *testing.T) {
	good := free(2, 10, 1)
	for _, preferred := range []bool{false, true} {
		n := start(t, preferred, false, true)
		for peer := range 3 {
			announce(t, n, peer, 5, idOf(good), 6)
		}
		bring(t, n, 1, good)
		expectAccepted(t, n, good)
		expectOrphans(t, n)
		// No peer is asked for it any more, and the other entries stay.
		for peer := range 3 {
			expectCounts(t, n, peer, 2, 0)
		}
		unchanged(t, n, func() {
			bring(t, n, 1, good)
			bring(t, n, 2, good, good)
			announce(t, n, 0, idOf(good))
		})
	}
}

// TestBringRequested has a transaction that was requested, from the peer that brings it, or from another one.
func TestBringRequested(t *testing.T) {
	good := free(2, 10, 1)
	for bringer := range 3 {
		n := start(t, true, false, false)
		announce(t, n, 0, idOf(good), 5)
		announce(t, n, 1, idOf(good))
		wait(t, n, 3, asks(0, idOf(good), 5))
		bring(t, n, bringer, good)
		expectAccepted(t, n, good)
		expectCounts(t, n, 0, 1, 1)
		expectCounts(t, n, 1, 0, 0)
		wait(t, n, 9)
		wait(t, n, 1)
		expectCounts(t, n, 0, 0, 0)
	}
}

// TestBringAnswers has entries of known IDs, which messages cannot bring about, so they are put in directly: Bring answers them.
func TestBringAnswers(t *testing.T) {
	for _, d := range []api.Deed{busyGood, busyChild, busyWicked} {
		n := busy(t)
		for peer := range 2 {
			expect(t, n.tracker.Announce(peer, idOf(d), 0, true), api.OK)
		}
		bring(t, n, 0, d)
		expectCounts(t, n, 0, 4, 1)
		expectCounts(t, n, 1, 4, 2)
		bring(t, n, 1, d)
		expectCounts(t, n, 0, 3, 1)
		expectCounts(t, n, 1, 3, 2)
	}
}

// TestBringPoor brings a Poor transaction: it is known then, but neither accepted nor an orphan.
func TestBringPoor(t *testing.T) {
	poor := free(2, 11, 1)
	n := start(t, false, true, false)
	for peer := range 3 {
		announce(t, n, peer, 5, idOf(poor), 6)
	}
	wait(t, n, 0, asks(1, 5, idOf(poor), 6))
	bring(t, n, 1, poor)
	expectAccepted(t, n)
	expectOrphans(t, n)
	expectCounts(t, n, 0, 2, 0)
	expectCounts(t, n, 1, 2, 2)
	expectCounts(t, n, 2, 2, 0)
	unchanged(t, n, func() {
		bring(t, n, 1, poor)
		bring(t, n, 2, poor)
		announce(t, n, 0, idOf(poor))
		announce(t, n, 1, idOf(poor))
		expectSend(t, n, 0, listing(api.Fetch, idOf(poor)), api.Out{Peer: 0, Bytes: listing(api.Missing, idOf(poor))})
	})
}

// TestBringWicked brings Wicked transactions: with outputs that do not exist, and that are spent.
func TestBringWicked(t *testing.T) {
	base := free(2, 10, 1)
	child := spending(out(base, 0))
	for _, wicked := range []api.Deed{
		spending(out(base, 2)), spending(out(base, 1), out(base, 15)), paying(spending(out(base, 0)), 20, 2),
		paying(spending(out(base, 0)), 1000, 0), spending(out(child, 3), out(base, 0)),
	} {
		n := start(t, false, true, false)
		bring(t, n, 0, base, child)
		for peer := range 3 {
			announce(t, n, peer, 5, idOf(wicked), 6)
		}
		wait(t, n, 0, asks(1, 5, idOf(wicked), 6))
		bring(t, n, 2, wicked)
		expectAccepted(t, n, base, child)
		expectOrphans(t, n)
		expectCounts(t, n, 0, 2, 0)
		expectCounts(t, n, 1, 2, 2)
		expectCounts(t, n, 2, 2, 0)
		unchanged(t, n, func() {
			bring(t, n, 2, wicked)
			bring(t, n, 1, wicked)
			announce(t, n, 0, idOf(wicked))
			expectSend(t, n, 0, listing(api.Fetch, idOf(wicked)), api.Out{Peer: 0, Bytes: listing(api.Missing, idOf(wicked))})
		})
	}
}

// TestBringLost brings an orphan: its peer is asked for what is missing, at once, also if it is not preferred.
func TestBringLost(t *testing.T) {
	for _, preferred := range []bool{false, true} {
		n := start(t, preferred, true, false)
		base := free(9, 10, 1)
		bring(t, n, 2, base)
		lost := spending(api.In{ID: 9}, api.In{ID: 3, At: 5}, out(base, 3), api.In{ID: 9, At: 1}, api.In{ID: 6}, api.In{ID: 3})
		for peer := range 3 {
			announce(t, n, peer, idOf(lost), 20)
		}
		bring(t, n, 0, lost)
		expectAccepted(t, n, base)
		expectOrphans(t, n, lost)
		expectCounts(t, n, 0, 4, 0)
		expectCounts(t, n, 1, 1, 0)
		expectCounts(t, n, 2, 1, 0)
		unchanged(t, n, func() { announce(t, n, 1, idOf(lost)) })
		lack(t, n, 0, 20)
		wait(t, n, 0, asks(0, 9, 3, 6), asks(1, 20))
	}
}

// TestBringLostAgain brings an orphan again: by the same peer, which is asked again if it answered, and by another one.
func TestBringLostAgain(t *testing.T) {
	n := start(t, true, false)
	lost := spending(api.In{ID: 5}, api.In{ID: 6})
	bring(t, n, 0, lost)
	wait(t, n, 0, asks(0, 5, 6))
	unchanged(t, n, func() { bring(t, n, 0, lost) })
	lack(t, n, 0, 5)
	expectCounts(t, n, 0, 1, 1)
	bring(t, n, 0, lost)
	expectCounts(t, n, 0, 2, 1)
	wait(t, n, 1, asks(0, 5))
	bring(t, n, 1, lost)
	expectOrphans(t, n, lost)
	expectCounts(t, n, 1, 2, 0)
	lack(t, n, 0, 6)
	wait(t, n, 0, asks(1, 6))
	// It has two links, so it stays when one of its peers leaves, whichever it is.
	expect(t, n.Leave(0), api.OK)
	expectOrphans(t, n, lost)
	wait(t, n, 0, asks(1, 5))
	expect(t, n.Leave(1), api.OK)
	expectOrphans(t, n)
}

// TestLostAfterPoor brings an orphan whose parent is Poor: the filter of Poor transactions does not keep it from being asked for.
func TestLostAfterPoor(t *testing.T) {
	n := start(t, false)
	poor := free(2, 100, 0)
	child := paying(spending(out(poor, 0)), 10, 11)
	bring(t, n, 0, poor)
	announce(t, n, 0, idOf(poor))
	expectCounts(t, n, 0, 0, 0)
	bring(t, n, 0, child)
	expectCounts(t, n, 0, 1, 0)
	wait(t, n, 0, asks(0, idOf(poor)))
	bring(t, n, 0, poor)
	expectAccepted(t, n, poor, child)
	expectOrphans(t, n)
	expectCounts(t, n, 0, 0, 0)
}

// TestLostAfterWicked brings an orphan whose parents are Wicked, in the pool or neither: only the last one is asked for.
func TestLostAfterWicked(t *testing.T) {
	n := start(t, true, true)
	base := free(1, 10, 1)
	wicked := spending(out(base, 1))
	pooled := spending(api.In{ID: 8})
	bring(t, n, 1, base, wicked, pooled)
	expectCounts(t, n, 1, 1, 0)
	lost := spending(out(wicked, 0), api.In{ID: 5}, out(pooled, 0), out(base, 0))
	bring(t, n, 0, lost)
	expectOrphans(t, n, pooled, lost)
	expectCounts(t, n, 0, 1, 0)
	expectCounts(t, n, 1, 1, 0)
	wait(t, n, 0, asks(0, 5), asks(1, 8))
	// One that spends only of them is kept, and nobody is asked.
	other := spending(out(pooled, 1), out(wicked, 1))
	bring(t, n, 0, other)
	expectOrphans(t, n, pooled, lost, other)
	expectCounts(t, n, 0, 1, 1)
}

// TestLostInTracker brings orphans of which the tracker has an entry for a missing ID, of this peer and of others.
func TestLostInTracker(t *testing.T) {
	n := start(t, false, false)
	announce(t, n, 0, 5)
	wait(t, n, 1)
	announce(t, n, 1, 6)
	bring(t, n, 0, spending(api.In{ID: 5}, api.In{ID: 6}))
	expectCounts(t, n, 0, 2, 0)
	// The entry of 5 still waits until 3, that of 6 waits for nothing.
	wait(t, n, 0, asks(0, 6))
	wait(t, n, 1)
	wait(t, n, 1, asks(0, 5))
	unchanged(t, n, func() { bring(t, n, 0, spending(api.In{ID: 5}, api.In{ID: 6})) })
	wait(t, n, 8, asks(1, 6))
}

// TestLostTooManyEntries brings an orphan by a peer without room in the tracker: it is kept, and what has room is asked for.
func TestLostTooManyEntries(t *testing.T) {
	n := start(t, true)
	for i := range 18 {
		announce(t, n, 0, uint64(100+i))
	}
	lost := spending(api.In{ID: 1}, api.In{ID: 2}, api.In{ID: 3}, api.In{ID: 4})
	bring(t, n, 0, lost)
	expectOrphans(t, n, lost)
	expectCounts(t, n, 0, 20, 0)
	for i := range 18 {
		lack(t, n, 0, uint64(100+i))
	}
	wait(t, n, 0, asks(0, 1, 2))
}

// TestLostForgets brings an orphan that has taken the last place of its peer in the tracker: that is free first.
func TestLostForgets(t *testing.T) {
	n := start(t, true)
	lost := spending(api.In{ID: 1}, api.In{ID: 2})
	announce(t, n, 0, idOf(lost))
	for i := range 19 {
		announce(t, n, 0, uint64(100+i))
	}
	bring(t, n, 0, lost)
	expectCounts(t, n, 0, 20, 0)
	for i := range 19 {
		lack(t, n, 0, uint64(100+i))
	}
	wait(t, n, 0, asks(0, 1))
}

// TestLostPreference has a missing ID that another peer announced before, so that it is ready for both now.
func TestLostPreference(t *testing.T) {
	for salt := range uint64(20) {
		for _, preferred := range []bool{false, true} {
			n := New(salt)
			expect(t, n.Join(0, preferred), api.OK)
			expect(t, n.Join(1, false), api.OK)
			announce(t, n, 1, 5)
			wait(t, n, 2)
			bring(t, n, 0, spending(api.In{ID: 5}))
			first := winner(salt, 5, 0, 1)
			if preferred {
				first = 0
			}
			wait(t, n, 1, asks(first, 5))
			wait(t, n, 10, asks(1-first, 5))
		}
	}
}

// TestLostPreferredOther has an orphan that two peers bring: the preferred one is asked for what is missing, whichever was first.
func TestLostPreferredOther(t *testing.T) {
	for salt := range uint64(20) {
		for _, first := range []int{0, 1} {
			n := New(salt)
			expect(t, n.Join(0, first == 0), api.OK)
			expect(t, n.Join(1, first == 1), api.OK)
			bring(t, n, 0, spending(api.In{ID: 5}))
			bring(t, n, 1, spending(api.In{ID: 5}))
			wait(t, n, 0, asks(first, 5))
			wait(t, n, 10, asks(1-first, 5))
		}
	}
}

// fillPool brings 24 light orphans, as many as a pool may have links, by the peers 0 to 6, and returns them.
func fillPool(t *testing.T, n *Node) []api.Deed {
	t.Helper()
	var orphans []api.Deed
	for i := range 24 {
		d := paying(spending(api.In{ID: uint64(100 + i)}), 1, i)
		bring(t, n, i%7, d)
		orphans = append(orphans, d)
	}
	expectOrphans(t, n, orphans...)
	return orphans
}

// TestLostWithoutRoom brings an orphan that is heavier than all that the pool contains: it goes at once, and nobody is asked.
func TestLostWithoutRoom(t *testing.T) {
	n := start(t, true, true, true, true, true, true, true, true)
	orphans := fillPool(t, n)
	heavy := paying(spending(api.In{ID: 5}), 1000, 100)
	announce(t, n, 7, idOf(heavy), 6)
	announce(t, n, 3, idOf(heavy))
	before, _, _ := n.Counts(3)
	bring(t, n, 7, heavy)
	expectOrphans(t, n, orphans...)
	// The tracker has forgotten it all the same.
	expectCounts(t, n, 7, 1, 0)
	expectCounts(t, n, 3, before-1, 0)
	expectKnown(t, n, 7, idOf(heavy), false)
	// A light one finds room, in place of the oldest one of peer 0, which has most links.
	light := paying(spending(api.In{ID: 5}), 1, 100)
	bring(t, n, 7, light)
	expectOrphans(t, n, append(orphans[1:24:24], light)...)
	expectCounts(t, n, 7, 2, 0)
	expectKnown(t, n, 7, idOf(orphans[0]), false)
	expectKnown(t, n, 7, idOf(light), true)
}

// TestLostLinkWithoutRoom brings a contained orphan by another peer, whose link goes at once: it is asked all the same.
func TestLostLinkWithoutRoom(t *testing.T) {
	n := New(1)
	for peer := range 8 {
		expect(t, n.Join(peer, true), api.OK)
	}
	heavy := paying(spending(api.In{ID: 5}), 1000, 100)
	bring(t, n, 7, heavy)
	orphans := []api.Deed{heavy}
	for i := range 23 {
		d := paying(spending(api.In{ID: uint64(100 + i)}), 1, i)
		bring(t, n, i%6, d)
		orphans = append(orphans, d)
	}
	expectOrphans(t, n, orphans...)
	expectCounts(t, n, 6, 0, 0)
	bring(t, n, 6, heavy)
	expectOrphans(t, n, orphans...)
	if weight, links, _ := n.pool.Usage(6); weight != 0 || links != 0 {
		t.Errorf("usage of peer 6: %d, %d", weight, links)
	}
	expectCounts(t, n, 6, 1, 0)
}

// TestChildren has children of an accepted transaction, which are accepted in the order of the pool.
func TestChildren(t *testing.T) {
	n := start(t, true, false)
	base := free(4, 10, 1)
	a, b, c := spending(out(base, 2)), spending(out(base, 0)), spending(out(base, 3), out(base, 1))
	other := spending(api.In{ID: 5})
	bring(t, n, 1, b)
	bring(t, n, 0, other, c)
	bring(t, n, 1, a)
	bring(t, n, 0, b)
	expectOrphans(t, n, b, other, c, a)
	expectCounts(t, n, 0, 2, 0)
	expectCounts(t, n, 1, 1, 0)
	bring(t, n, 0, base)
	expectAccepted(t, n, base, b, c, a)
	expectOrphans(t, n, other)
	expectCounts(t, n, 0, 1, 0)
	expectCounts(t, n, 1, 0, 0)
	unchanged(t, n, func() { bring(t, n, 1, a, b, c, base) })
}

// TestLevels has several levels of children: all of one level come before the next one.
func TestLevels(t *testing.T) {
	base := free(4, 10, 1)
	a, b := spending(out(base, 0)), spending(out(base, 1))
	aa, ab, ba := spending(out(a, 0)), spending(out(a, 1)), spending(out(b, 3))
	aaa, both := spending(out(aa, 0)), spending(out(ab, 2), out(ba, 1))
	last := spending(out(both, 0), out(aaa, 0), out(base, 2))
	n := start(t, true)
	bring(t, n, 0, last, both, aaa, ba, ab, aa, b, a)
	expectAccepted(t, n)
	expectOrphans(t, n, last, both, aaa, ba, ab, aa, b, a)
	bring(t, n, 0, base)
	expectAccepted(t, n, base, b, a, ba, ab, aa, both, aaa, last)
	expectOrphans(t, n)
	expectCounts(t, n, 0, 0, 0)

	// In another order of the pool, it is this one.
	n = start(t, true)
	bring(t, n, 0, a, aa, aaa, b, ba, ab, last, both)
	bring(t, n, 0, base)
	expectAccepted(t, n, base, a, b, aa, ab, ba, aaa, both, last)
	expectOrphans(t, n)
}

// TestChain has a chain of orphans that arrive in the wrong order, by several peers.
func TestChain(t *testing.T) {
	chain := []api.Deed{free(1, 10, 1)}
	for len(chain) < 25 {
		chain = append(chain, api.Deed{Ins: []api.In{out(chain[len(chain)-1], 0)}, Outs: 1, Weight: 10, Fee: 1})
	}
	n := start(t, true, true, true)
	for i := len(chain) - 1; i > 0; i-- {
		bring(t, n, i%3, chain[i])
		if len(n.Orphans()) != len(chain)-i {
			t.Fatalf("%d orphans after %d", len(n.Orphans()), i)
		}
	}
	bring(t, n, 1, chain[0])
	expectAccepted(t, n, chain...)
	expectOrphans(t, n)
	for peer := range 3 {
		expectCounts(t, n, peer, 0, 0)
	}
}

// TestChildrenInConflict has children that spend the same output: the first one of the pool is accepted, the others are Wicked.
func TestChildrenInConflict(t *testing.T) {
	base := free(2, 10, 1)
	a, b, c := spending(out(base, 0)), paying(spending(out(base, 0)), 10, 100), spending(out(base, 1), out(base, 0))
	beyond, grandchild := spending(out(base, 2)), spending(out(b, 0))
	n := start(t, true)
	bring(t, n, 0, c, beyond, a, b, grandchild)
	expectOrphans(t, n, c, beyond, a, b, grandchild)
	bring(t, n, 0, base)
	expectAccepted(t, n, base, c)
	expectOrphans(t, n, grandchild)
	for _, d := range []api.Deed{a, b, beyond} {
		expectKnown(t, n, 0, idOf(d), true)
		unchanged(t, n, func() { bring(t, n, 0, d) })
	}
	// Nobody is asked for a Wicked parent.
	unchanged(t, n, func() { bring(t, n, 0, grandchild) })
}

// TestChildStaysLost has a child that spends something else besides: nothing happens to it, and nobody is asked again.
func TestChildStaysLost(t *testing.T) {
	base := free(4, 10, 1)
	lost, other := spending(out(base, 0), api.In{ID: 5}), spending(out(base, 1))
	n := start(t, true, true)
	bring(t, n, 0, lost, other)
	lack(t, n, 0, 5, idOf(base))
	expectCounts(t, n, 0, 0, 0)
	bring(t, n, 1, base)
	expectAccepted(t, n, base, other)
	expectOrphans(t, n, lost)
	expectCounts(t, n, 0, 0, 0)
	expectCounts(t, n, 1, 0, 0)
	if weight, links, _ := n.pool.Usage(1); weight != 0 || links != 0 {
		t.Errorf("usage of peer 1: %d, %d", weight, links)
	}
	expect(t, n.Leave(1), api.OK)
	expectOrphans(t, n, lost)
	bring(t, n, 0, lost)
	expectCounts(t, n, 0, 1, 0)
}

// TestPoorChild has a child that is Poor: it leaves the pool, and its own children stay Lost.
func TestPoorChild(t *testing.T) {
	base := free(4, 10, 1)
	poor := paying(spending(out(base, 0)), 100, 0)
	weak, good := paying(spending(out(poor, 0)), 10, 10), spending(out(base, 1))
	n := start(t, true)
	bring(t, n, 0, poor, weak, good)
	bring(t, n, 0, base)
	expectAccepted(t, n, base, good)
	expectOrphans(t, n, weak)
	expectKnown(t, n, 0, idOf(poor), true)
	expectCounts(t, n, 0, 0, 0)
	// It may come again, also with a child that pays for it.
	bring(t, n, 0, poor)
	expectAccepted(t, n, base, good)
	payer := paying(spending(out(poor, 1)), 10, 11)
	bring(t, n, 0, payer)
	expectOrphans(t, n, weak, payer)
	bring(t, n, 0, poor)
	expectAccepted(t, n, base, good, poor, payer, weak)
	expectOrphans(t, n)
}

// TestPoorChildWithPayer has a Poor child in the queue, whose own child pays for both.
func TestPoorChildWithPayer(t *testing.T) {
	base := free(4, 10, 1)
	poor, good := paying(spending(out(base, 0)), 100, 0), spending(out(base, 1))
	payer := paying(spending(out(poor, 0)), 10, 11)
	last := spending(out(payer, 0), out(good, 0))
	n := start(t, true)
	bring(t, n, 0, last, payer, poor, good)
	bring(t, n, 0, base)
	expectAccepted(t, n, base, poor, payer, good, last)
	expectOrphans(t, n)
	expectCounts(t, n, 0, 0, 0)
}

// TestPayer has Poor transactions with one child: it pays too little, just enough or more for both.
func TestPayer(t *testing.T) {
	tests := []struct {
		parent api.Deed
		weight int
		fee    int
		want   bool
	}{
		{free(2, 100, 0), 10, 10, false},
		{free(2, 100, 0), 10, 11, true},
		{free(2, 100, 0), 10, 1000, true},
		{free(2, 100, 9), 10, 1, false},
		{free(2, 100, 9), 10, 2, true},
		{free(2, 100, 9), 1, 1, false},
		{free(2, 99, 9), 1, 1, true},
		{free(2, 1000, 0), 1000, 199, false},
		{free(2, 1000, 0), 1000, 200, true},
		{free(2, 1000, 99), 1000, 100, false},
		{free(2, 1000, 99), 1000, 101, true},
	}
	for _, test := range tests {
		n := start(t, false, true)
		child := paying(spending(out(test.parent, 1)), test.weight, test.fee)
		bring(t, n, 0, child)
		announce(t, n, 1, idOf(test.parent))
		bring(t, n, 1, test.parent)
		expectCounts(t, n, 0, 0, 0)
		expectCounts(t, n, 1, 0, 0)
		expectKnown(t, n, 1, idOf(test.parent), true)
		expectKnown(t, n, 1, idOf(child), true)
		if test.want {
			expectAccepted(t, n, test.parent, child)
			expectOrphans(t, n)
			continue
		}
		expectAccepted(t, n)
		expectOrphans(t, n, child)
	}
}

// TestPoorInFilter checks that a Poor transaction stays in its filter when it is accepted, like others.
func TestPoorInFilter(t *testing.T) {
	n := start(t, true)
	poor := free(2, 100, 0)
	payer := paying(spending(out(poor, 0)), 10, 11)
	bring(t, n, 0, payer, poor)
	expectAccepted(t, n, poor, payer)
	if !n.poor.Has(idOf(poor)) || n.poor.Has(idOf(payer)) || n.poor.Count() != 1 || n.wicked.Count() != 0 {
		t.Errorf("filters: %v, %v", n.poor, n.wicked)
	}
}

// TestLaterPayer has children of which only a later one pays, and others that are not Good with the parent.
func TestLaterPayer(t *testing.T) {
	base, poor := free(4, 10, 1), free(9, 100, 0)
	weak := paying(spending(out(poor, 0)), 10, 5)
	lost := paying(spending(out(poor, 1), api.In{ID: 5}), 10, 1000)
	wicked := paying(spending(out(poor, 9)), 10, 1000)
	poorer := paying(spending(out(poor, 8)), 100, 0)
	payer := paying(spending(out(poor, 2), out(base, 0)), 10, 11)
	late := paying(spending(out(poor, 3)), 10, 1000)
	n := start(t, true)
	bring(t, n, 0, base)
	bring(t, n, 0, weak, lost, wicked, poorer, payer, late)
	expectOrphans(t, n, weak, lost, wicked, poorer, payer, late)
	bring(t, n, 0, poor)
	// The others are examined then, each for itself.
	expectAccepted(t, n, base, poor, payer, weak, late)
	expectOrphans(t, n, lost)
	if !n.wicked.Has(idOf(wicked)) || n.wicked.Count() != 1 || !n.poor.Has(idOf(poorer)) || n.poor.Count() != 2 {
		t.Errorf("filters: %v, %v", n.wicked, n.poor)
	}
}

// TestNoPayer has children of which none pays for a Poor parent: all stay, and none is examined.
func TestNoPayer(t *testing.T) {
	poor := free(9, 100, 0)
	children := []api.Deed{
		paying(spending(out(poor, 0)), 10, 10), paying(spending(out(poor, 9)), 10, 1000),
		paying(spending(out(poor, 1), api.In{ID: 5}), 10, 1000), paying(spending(out(poor, 2)), 100, 0),
	}
	n := start(t, true)
	bring(t, n, 0, children...)
	bring(t, n, 0, poor)
	expectAccepted(t, n)
	expectOrphans(t, n, children...)
	if n.wicked.Count() != 0 || n.poor.Count() != 1 {
		t.Errorf("filters: %v, %v", n.wicked, n.poor)
	}
	// Both children together would pay, but only pairs count.
	n = start(t, true)
	a, b := paying(spending(out(poor, 0)), 10, 9), paying(spending(out(poor, 1)), 10, 9)
	bring(t, n, 0, a, b, poor)
	expectAccepted(t, n)
	expectOrphans(t, n, a, b)
}

// TestPayerIsFirst has two children that pay: only the first one of the pool is taken with the parent.
func TestPayerIsFirst(t *testing.T) {
	poor := free(9, 100, 0)
	a, b := paying(spending(out(poor, 0)), 10, 11), paying(spending(out(poor, 0)), 10, 1000)
	for _, pair := range [][]api.Deed{{a, b}, {b, a}} {
		n := start(t, true)
		bring(t, n, 0, pair...)
		bring(t, n, 0, poor)
		expectAccepted(t, n, poor, pair[0])
		expectOrphans(t, n)
		expectKnown(t, n, 0, idOf(pair[1]), true)
		if !n.wicked.Has(idOf(pair[1])) {
			t.Errorf("filter: %v", n.wicked)
		}
	}
}

// TestChildrenOfBoth has children of a Poor parent and of its payer: first those of the parent, then those of the payer.
func TestChildrenOfBoth(t *testing.T) {
	poor := free(9, 100, 0)
	payer := paying(spending(out(poor, 0)), 10, 11)
	ofParent, ofPayer := spending(out(poor, 1)), spending(out(payer, 0))
	parentInConflict, payerInConflict := spending(out(poor, 2)), spending(out(payer, 1), out(poor, 2))
	deeper := spending(out(ofParent, 0))
	n := start(t, true)
	bring(t, n, 0, deeper, ofPayer, payer, ofParent, payerInConflict, parentInConflict)
	bring(t, n, 0, poor)
	// payerInConflict is a child of the parent, too, and older than parentInConflict.
	expectAccepted(t, n, poor, payer, ofParent, payerInConflict, ofPayer, deeper)
	expectOrphans(t, n)
	if !n.wicked.Has(idOf(parentInConflict)) {
		t.Errorf("filter: %v", n.wicked)
	}
}

// TestQueueHasTwice has a transaction that is a child of both, and Lost when it is examined first: its second place counts.
func TestQueueHasTwice(t *testing.T) {
	poor := free(9, 100, 0)
	payer := paying(spending(out(poor, 0)), 10, 11)
	y := spending(out(poor, 2))
	x := spending(out(poor, 1), out(payer, 0), out(y, 0))
	z := paying(spending(out(payer, 0)), 10, 1000)
	n := start(t, true)
	bring(t, n, 0, x, y, z, payer)
	bring(t, n, 0, poor)
	// The queue is x, y, x, z, and y adds x once more: x and z spend the same output.
	expectAccepted(t, n, poor, payer, y, x)
	expectOrphans(t, n)
	if !n.wicked.Has(idOf(z)) || n.wicked.Count() != 1 {
		t.Errorf("filter: %v", n.wicked)
	}
}

// TestFamilyAfterLeave has children whose peer left: they are gone, and not accepted.
func TestFamilyAfterLeave(t *testing.T) {
	base := free(4, 10, 1)
	a, b, c := spending(out(base, 0)), spending(out(base, 1)), spending(out(base, 2))
	n := start(t, true, true)
	bring(t, n, 0, a, b)
	bring(t, n, 1, b, c)
	expect(t, n.Leave(0), api.OK)
	bring(t, n, 1, base)
	expectAccepted(t, n, base, b, c)
	expectKnown(t, n, 1, idOf(a), false)
	bring(t, n, 1, a)
	expectAccepted(t, n, base, b, c, a)
}

// TestWickedFilter has more Wicked transactions than the filter holds: two generations of 50.
func TestWickedFilter(t *testing.T) {
	n := start(t, true)
	base := free(1, 10, 1)
	bring(t, n, 0, base)
	var wicked []api.Deed
	for i := range 102 {
		wicked = append(wicked, paying(spending(out(base, 1)), 1000, i))
	}
	for i, d := range wicked[:100] {
		expectKnown(t, n, 0, idOf(d), false)
		bring(t, n, 0, d)
		for _, known := range wicked[:i+1] {
			expectKnown(t, n, 0, idOf(known), true)
		}
	}
	// It is not examined again, so it is as old as before.
	unchanged(t, n, func() { bring(t, n, 0, wicked[0], wicked[49], wicked[50]) })
	for i, d := range wicked[100:] {
		bring(t, n, 0, d)
		for j, other := range wicked {
			expectKnown(t, n, 0, idOf(other), j >= 50 && j <= 100+i)
		}
	}
	bring(t, n, 0, wicked[0])
	expectKnown(t, n, 0, idOf(wicked[0]), true)
	expectAccepted(t, n, base)
}

// TestPoorFilter has more Poor transactions than the filter holds: two generations of 20.
func TestPoorFilter(t *testing.T) {
	n := start(t, true)
	poor := several(60, false)
	for i, d := range poor[:40] {
		expectKnown(t, n, 0, idOf(d), false)
		bring(t, n, 0, d)
		for _, known := range poor[:i+1] {
			expectKnown(t, n, 0, idOf(known), true)
		}
	}
	bring(t, n, 0, poor[40])
	for j, other := range poor {
		expectKnown(t, n, 0, idOf(other), j >= 20 && j <= 40)
	}
	// One of the previous generation that is brought again is examined again, and so it is recent.
	bring(t, n, 0, poor[20])
	bring(t, n, 0, poor[41:60]...)
	for j, other := range poor {
		expectKnown(t, n, 0, idOf(other), j == 20 || j >= 40)
	}
}

// TestFiltersAreSeparate has a Poor transaction that is brought when the filter of Wicked ones is full, and the reverse.
func TestFiltersAreSeparate(t *testing.T) {
	n := start(t, true)
	base := free(1, 10, 1)
	poor := free(5, 1000, 0)
	wicked := spending(out(base, 1))
	bring(t, n, 0, base, poor, wicked)
	bring(t, n, 0, several(45, false)...)
	expectKnown(t, n, 0, idOf(poor), false)
	expectKnown(t, n, 0, idOf(wicked), true)
	bring(t, n, 0, poor)
	for i := range 110 {
		bring(t, n, 0, paying(spending(out(base, 1)), 1000, i))
	}
	expectKnown(t, n, 0, idOf(poor), true)
	expectKnown(t, n, 0, idOf(wicked), false)
}

// twinID is the ID of all transactions of twins, as computed outside of the program.
const twinID = 303631050775175875

func twins() (first, second, third api.Deed) {
	first = free(2, 10, 0)
	second = api.Deed{Ins: []api.In{{ID: 218720479572395786}, {ID: 435161435048247814}}, Outs: 5, Weight: 621, Fee: 18}
	third = api.Deed{Ins: []api.In{{ID: 145576494814215743}, {ID: 1985726791355916}}, Outs: 1, Weight: 70, Fee: 183}
	return first, second, third
}

// TestSameID has different transactions with the same ID, which count as one.
func TestSameID(t *testing.T) {
	first, second, third := twins()
	payer := paying(spending(api.In{ID: twinID, At: 1}), 10, 100)
	n := start(t, true, true)
	bring(t, n, 0, second)
	expectOrphans(t, n, second)
	expectCounts(t, n, 0, 2, 0)
	unchanged(t, n, func() { announce(t, n, 1, twinID) })
	// The one that was there remains in the pool; what is missing is what the other one spends.
	bring(t, n, 1, third)
	expectOrphans(t, n, second)
	wait(t, n, 0, asks(0, second.Ins[0].ID, second.Ins[1].ID), asks(1, third.Ins[0].ID, third.Ins[1].ID))
	if d, _ := n.pool.Deed(twinID); d.Weight != second.Weight {
		t.Errorf("the pool contains %v", d)
	}
	// The one without Ins is Poor, so the ID leaves the pool.
	bring(t, n, 0, first)
	expectOrphans(t, n)
	expectKnown(t, n, 1, twinID, true)
	bring(t, n, 0, third, payer)
	expectOrphans(t, n, third, payer)
	bring(t, n, 1, first)
	expectAccepted(t, n, first, payer)
	expectOrphans(t, n)
	unchanged(t, n, func() { bring(t, n, 0, second, third, first) })
	expectSend(t, n, 0, listing(api.Fetch, twinID), api.Out{Peer: 0, Bytes: bringing(first)})
}

// TestLostEnds has the greatest and the lowest ID as missing ones.
func TestLostEnds(t *testing.T) {
	n := start(t, true)
	d := spending(api.In{ID: math.MaxUint64}, api.In{ID: 0})
	bring(t, n, 0, d)
	expectOrphans(t, n, d)
	wait(t, n, 0, asks(0, math.MaxUint64, 0))
}

// TestManyAccepted has a ledger so large that a search through all of it for each call would take very long.
func TestManyAccepted(t *testing.T) {
	n := start(t, false)
	last := free(1, 10, 1)
	for i := range 30000 {
		if outs, e := n.Send(0, bringing(last)); len(outs) != 0 || e != api.OK {
			t.Fatalf("transaction %d: %s, %d", i, show(outs), e)
		}
		last = api.Deed{Ins: []api.In{out(last, 0)}, Outs: 1, Weight: 10, Fee: 1}
	}
	if len(n.Accepted()) != 30000 {
		t.Errorf("%d are accepted", len(n.Accepted()))
	}
}
