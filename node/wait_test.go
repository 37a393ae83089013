package node

import (
	"math"
	"testing"

	"charterhouse/api"
	"charterhouse/sum"
)

// winner returns which of several peers with equal preference is asked for an ID.
func winner(salt, id uint64, peers ...int) int {
	best := peers[0]
	for _, peer := range peers[1:] {
		if sum.Mix(salt, uint64(peer), id) > sum.Mix(salt, uint64(best), id) {
			best = peer
		}
	}
	return best
}

// waitFails checks an error of Wait.
func waitFails(t *testing.T, n *Node, k int) {
	t.Helper()
	unchanged(t, n, func() {
		if outs, e := n.Wait(k); len(outs) != 0 || e != api.ErrArg {
			t.Errorf("Wait(%d) = %s, %d at %d", k, show(outs), e, n.Now())
		}
	})
}

// TestWaitErrors has numbers beyond both ends, at several times.
func TestWaitErrors(t *testing.T) {
	for _, begin := range []int{0, 1, 5, 1 << 39, api.MaxTime - 100} {
		n := start(t, true, false)
		wait(t, n, begin)
		announce(t, n, 0, 5)
		announce(t, n, 1, 5, 6)
		left := api.MaxTime - begin
		for _, k := range []int{-1, -begin - 1, -left, math.MinInt, math.MinInt + 1, left + 1, left + 2, api.MaxTime + 1, math.MaxInt, math.MaxInt - begin, math.MaxInt - begin + 1} {
			waitFails(t, n, k)
		}
		wait(t, n, left, asks(0, 5), asks(1, 6))
		waitFails(t, n, 1)
		waitFails(t, n, -1)
		waitFails(t, n, -api.MaxTime)
		waitFails(t, n, math.MaxInt)
	}
}

// TestWaitToTheEnd waits up to the end of time in steps, where requests end at once.
func TestWaitToTheEnd(t *testing.T) {
	n := start(t, true, false)
	wait(t, n, api.MaxTime-12)
	announce(t, n, 0, 5)
	announce(t, n, 1, 5, 6)
	wait(t, n, 5, asks(0, 5), asks(1, 6))
	// Those requests end at MaxTime, not three later.
	wait(t, n, 6)
	expectCounts(t, n, 0, 1, 1)
	expectCounts(t, n, 1, 2, 1)
	waitFails(t, n, 2)
	wait(t, n, 1, asks(1, 5))
	expectCounts(t, n, 0, 1, 0)
	expectCounts(t, n, 1, 1, 1)
	// This one was requested until now.
	wait(t, n, 0)
	expectCounts(t, n, 0, 0, 0)
	expectCounts(t, n, 1, 0, 0)
	announce(t, n, 1, 7)
	wait(t, n, 0, asks(1, 7))
	expectCounts(t, n, 1, 1, 1)
	wait(t, n, 0)
	expectCounts(t, n, 1, 0, 0)
	if n.Now() != 1<<40 {
		t.Errorf("Now() = %d", n.Now())
	}
}

// TestPatienceAtTheEnd has requests with less than their time left.
func TestPatienceAtTheEnd(t *testing.T) {
	for left := range 13 {
		n := start(t, true)
		wait(t, n, api.MaxTime-left)
		announce(t, n, 0, 5)
		wait(t, n, 0, asks(0, 5))
		patience := min(10, left)
		if patience > 0 {
			wait(t, n, patience-1)
			expectCounts(t, n, 0, 1, 1)
			wait(t, n, 1)
		} else {
			wait(t, n, 0)
		}
		expectCounts(t, n, 0, 0, 0)
	}
}

// TestWaitOfNothing waits where there is nothing to ask for.
func TestWaitOfNothing(t *testing.T) {
	for _, n := range []*Node{New(1), start(t, true, false, true)} {
		for _, k := range []int{0, 1, 0, 2, 3, 10, 11, 1000} {
			wait(t, n, k)
		}
		if n.Now() != 1027 {
			t.Errorf("Now() = %d", n.Now())
		}
	}
}

// TestPatience has a peer that does not answer: another one is asked when its time is over, and not before.
func TestPatience(t *testing.T) {
	n := start(t, true, false)
	announce(t, n, 0, 5)
	announce(t, n, 1, 5)
	wait(t, n, 0, asks(0, 5))
	wait(t, n, 3)
	wait(t, n, 6)
	expectCounts(t, n, 0, 1, 1)
	wait(t, n, 1, asks(1, 5))
	expectCounts(t, n, 0, 1, 0)
	expectCounts(t, n, 1, 1, 1)
	wait(t, n, 9)
	wait(t, n, 1)
	// Nobody is left, and all entries are gone.
	expectCounts(t, n, 0, 0, 0)
	expectCounts(t, n, 1, 0, 0)
}

// TestWaitLong waits longer than the delay and the patience: what ended meanwhile is not asked for again.
func TestWaitLong(t *testing.T) {
	n := start(t, true, false, false)
	announce(t, n, 0, 5)
	announce(t, n, 1, 5, 6)
	announce(t, n, 2, 7)
	wait(t, n, 100, asks(0, 5), asks(1, 6), asks(2, 7))
	wait(t, n, 100, asks(1, 5))
	expectCounts(t, n, 1, 1, 1)
	expectCounts(t, n, 2, 0, 0)
	wait(t, n, 100)
	expectCounts(t, n, 0, 0, 0)
	expectCounts(t, n, 1, 0, 0)
}

// TestLateAnswer brings a transaction after another peer was asked, and by a peer that was never asked.
func TestLateAnswer(t *testing.T) {
	n := start(t, true, false, false)
	good := free(2, 10, 1)
	announce(t, n, 0, idOf(good))
	announce(t, n, 1, idOf(good))
	wait(t, n, 3, asks(0, idOf(good)))
	wait(t, n, 10, asks(1, idOf(good)))
	bring(t, n, 2, good)
	expectAccepted(t, n, good)
	for peer := range 3 {
		expectCounts(t, n, peer, 0, 0)
	}
	bring(t, n, 0, good)
	lack(t, n, 1, idOf(good))
	wait(t, n, 100)
	expectAccepted(t, n, good)
}

// TestFlights has more IDs for one peer than may be requested at a time.
func TestFlights(t *testing.T) {
	n := start(t, true)
	announce(t, n, 0, 1, 2, 3)
	wait(t, n, 0, asks(0, 1, 2, 3))
	expectCounts(t, n, 0, 3, 3)
	announce(t, n, 0, 4, 5, 6, 7, 8, 9, 10)
	wait(t, n, 1, asks(0, 4))
	expectCounts(t, n, 0, 10, 4)
	wait(t, n, 1)
	lack(t, n, 0, 2)
	wait(t, n, 0, asks(0, 5))
	wait(t, n, 0)
	lack(t, n, 0, 1, 3, 6)
	expectCounts(t, n, 0, 6, 2)
	wait(t, n, 7, asks(0, 7, 8))
	lack(t, n, 0, 4, 5, 7, 8)
	expectCounts(t, n, 0, 2, 0)
	wait(t, n, 1, asks(0, 9, 10))
	wait(t, n, 9)
	expectCounts(t, n, 0, 2, 2)
	wait(t, n, 1)
	expectCounts(t, n, 0, 0, 0)
}

// TestFlightsEnd has requests whose time is over: their places are free at once.
func TestFlightsEnd(t *testing.T) {
	n := start(t, true)
	announce(t, n, 0, 1, 2, 3, 4, 5, 6, 7, 8, 9)
	wait(t, n, 0, asks(0, 1, 2, 3, 4))
	wait(t, n, 10, asks(0, 5, 6, 7, 8))
	expectCounts(t, n, 0, 5, 4)
	wait(t, n, 100, asks(0, 9))
	expectCounts(t, n, 0, 1, 1)
}

// TestFlightsOfOrphan has entries that a brought orphan added: they count like announced ones.
func TestFlightsOfOrphan(t *testing.T) {
	n := start(t, true)
	announce(t, n, 0, 11, 12)
	wait(t, n, 0, asks(0, 11, 12))
	bring(t, n, 0, spending(api.In{ID: 5}, api.In{ID: 4}, api.In{ID: 3}))
	expectCounts(t, n, 0, 5, 2)
	wait(t, n, 0, asks(0, 5, 4))
	lack(t, n, 0, 12)
	wait(t, n, 0, asks(0, 3))
}

// TestBusyPeerKeepsItsTurn has an ID whose best peer has no place left: the other peer is not asked instead.
func TestBusyPeerKeepsItsTurn(t *testing.T) {
	n := start(t, true, false)
	announce(t, n, 0, 1, 2, 3, 4, 5)
	announce(t, n, 1, 5, 6)
	wait(t, n, 3, asks(0, 1, 2, 3, 4), asks(1, 6))
	wait(t, n, 1)
	lack(t, n, 0, 3)
	wait(t, n, 0, asks(0, 5))
	lack(t, n, 0, 5)
	wait(t, n, 0, asks(1, 5))
}

// TestSalt has several peers for one ID: the salt decides who is asked, and who is next.
func TestSalt(t *testing.T) {
	first := map[int]int{}
	for salt := range uint64(40) {
		for _, preferred := range []bool{false, true} {
			n := New(salt << 55)
			left := []int{1, 2, 4, 7}
			for _, peer := range left {
				expect(t, n.Join(peer, preferred), api.OK)
				announce(t, n, peer, 77)
			}
			wait(t, n, 3, asks(winner(salt<<55, 77, left...), 77))
			first[winner(salt<<55, 77, left...)]++
			for len(left) > 1 {
				asked := winner(salt<<55, 77, left...)
				var rest []int
				for _, peer := range left {
					if peer != asked {
						rest = append(rest, peer)
					}
				}
				left = rest
				wait(t, n, 10, asks(winner(salt<<55, 77, left...), 77))
			}
			wait(t, n, 10)
		}
	}
	if len(first) != 4 {
		t.Errorf("only these peers were asked first: %v", first)
	}
}

// TestPreferredFirst has preferred and other peers for one ID: preferred ones are asked first, whatever the salt is.
func TestPreferredFirst(t *testing.T) {
	for salt := range uint64(20) {
		n := New(salt)
		for peer := range 4 {
			expect(t, n.Join(peer, peer >= 2), api.OK)
			announce(t, n, peer, 5)
		}
		a, b := winner(salt, 5, 2, 3), winner(salt, 5, 0, 1)
		wait(t, n, 3, asks(a, 5))
		lack(t, n, a, 5)
		wait(t, n, 0, asks(5-a, 5))
		lack(t, n, 5-a, 5)
		wait(t, n, 0, asks(b, 5))
		lack(t, n, b, 5)
		wait(t, n, 0, asks(1-b, 5))
		lack(t, n, 1-b, 5)
		wait(t, n, 0)
	}
}

// TestOneAtATime has an ID of two peers: while one is asked, the other one is not, within a Wait and later.
func TestOneAtATime(t *testing.T) {
	for salt := range uint64(10) {
		n := New(salt)
		expect(t, n.Join(3, true), api.OK)
		expect(t, n.Join(5, true), api.OK)
		announce(t, n, 3, 9)
		announce(t, n, 5, 9)
		a := winner(salt, 9, 3, 5)
		wait(t, n, 0, asks(a, 9))
		wait(t, n, 0)
		wait(t, n, 9)
		wait(t, n, 1, asks(8-a, 9))
	}
}

// TestOrderOfPeers has the messages of one Wait: in the order of the peers, not in that of their joining or announcing.
func TestOrderOfPeers(t *testing.T) {
	n := New(1)
	for _, peer := range []int{6, 2, 7, 0, 4} {
		expect(t, n.Join(peer, peer%4 != 2), api.OK)
		announce(t, n, peer, uint64(20-peer), uint64(40+peer))
	}
	wait(t, n, 2, asks(0, 20, 40), asks(4, 16, 44), asks(7, 13, 47))
	announce(t, n, 0, 3)
	announce(t, n, 7, 2)
	wait(t, n, 1, asks(0, 3), asks(2, 18, 42), asks(6, 14, 46), asks(7, 2))
}

// TestWaitIsOne compares one Wait with several: the same is asked for, only earlier.
func TestWaitIsOne(t *testing.T) {
	a, b := busy(t), busy(t)
	if _, e := a.Wait(50); e != api.OK {
		t.Errorf("error %d", e)
	}
	for range 50 {
		if _, e := b.Wait(1); e != api.OK {
			t.Errorf("error %d", e)
		}
	}
	if a.Now() != 58 || b.Now() != 58 {
		t.Errorf("times %d and %d", a.Now(), b.Now())
	}
	// In small steps, all requests were made and ended; in one step, the ready ones are made at its end.
	for peer := range 3 {
		expectCounts(t, b, peer, 0, 0)
	}
	expectCounts(t, a, 0, 2, 2)
}

// TestWaitKeepsTheRest checks that Wait changes nothing but the time and the tracker.
func TestWaitKeepsTheRest(t *testing.T) {
	n := busy(t)
	for range 40 {
		if _, e := n.Wait(1); e != api.OK {
			t.Errorf("error %d", e)
		}
		expectAccepted(t, n, busyGood, busyChild)
		expectOrphans(t, n, busyOrphan)
	}
	for _, d := range []api.Deed{busyGood, busyChild, busyWicked, busyPoor, busyOrphan} {
		expectKnown(t, n, 2, idOf(d), true)
	}
}
