package node

import (
	"fmt"
	"math"
	"slices"
	"testing"

	"charterhouse/api"
	"charterhouse/deed"
	"charterhouse/msg"
)

// badPeers are beyond the ends of the range of peers.
var badPeers = []int{-1, 8, -8, 9, 1 << 32, -1 << 32, math.MinInt, math.MinInt + 7, math.MaxInt, math.MaxInt - 7}

// free returns a transaction without Ins.
func free(outs, weight, fee int) api.Deed {
	return api.Deed{Outs: outs, Weight: weight, Fee: fee}
}

// spending returns a transaction that is Good if its Ins allow it.
func spending(ins ...api.In) api.Deed {
	return api.Deed{Ins: ins, Outs: 4, Weight: 10, Fee: 1}
}

// paying returns a transaction with other numbers than d.
func paying(d api.Deed, weight, fee int) api.Deed {
	d.Weight, d.Fee = weight, fee
	return d
}

// idOf returns the ID of a transaction without errors.
func idOf(d api.Deed) uint64 {
	id, e := deed.ID(d)
	if e != api.OK {
		panic("a test has a wrong transaction")
	}
	return id
}

// idsOf returns the IDs of transactions.
func idsOf(deeds ...api.Deed) []uint64 {
	var ids []uint64
	for _, d := range deeds {
		ids = append(ids, idOf(d))
	}
	return ids
}

// out returns the In that spends an output of a transaction.
func out(d api.Deed, at int) api.In {
	return api.In{ID: idOf(d), At: at}
}

// several returns n different transactions without Ins, which are Good if good.
func several(n int, good bool) []api.Deed {
	var deeds []api.Deed
	for i := range n {
		d := free(16, 100+i, 0)
		if good {
			d.Fee = 100
		}
		deeds = append(deeds, d)
	}
	return deeds
}

// encode returns the bytes of a message without errors.
func encode(m api.Msg) string {
	s, e := msg.Encode(m)
	if e != api.OK {
		panic("a test has a wrong message")
	}
	return s
}

// bringing returns the bytes of a message that brings a transaction.
func bringing(d api.Deed) string {
	s, e := deed.Encode(d)
	if e != api.OK {
		panic("a test has a wrong transaction")
	}
	return encode(api.Msg{Kind: api.Bring, Body: s})
}

// listing returns the bytes of a message with IDs.
func listing(kind int, ids ...uint64) string {
	return encode(api.Msg{Kind: kind, IDs: ids})
}

// asks is a request that goes to a peer.
func asks(peer int, ids ...uint64) api.Out {
	return api.Out{Peer: peer, Bytes: listing(api.Fetch, ids...)}
}

// show returns messages as readable text.
func show(outs []api.Out) string {
	var text []string
	for _, o := range outs {
		m, _ := msg.Decode(o.Bytes)
		text = append(text, fmt.Sprintf("to %d: kind %d, %d %q", o.Peer, m.Kind, m.IDs, m.Body))
	}
	return fmt.Sprint(text)
}

// start returns a node with peers from 0 on, which are preferred or not.
func start(t *testing.T, preferred ...bool) *Node {
	t.Helper()
	n := New(1)
	for peer, is := range preferred {
		expect(t, n.Join(peer, is), api.OK)
	}
	return n
}

// expect checks the error of a call.
func expect(t *testing.T, got, want api.Errno) {
	t.Helper()
	if got != want {
		t.Errorf("error %d, want %d", got, want)
	}
}

// expectSend checks what is sent after a message.
func expectSend(t *testing.T, n *Node, peer int, s string, want ...api.Out) {
	t.Helper()
	if got, e := n.Send(peer, s); !slices.Equal(got, want) || e != api.OK {
		t.Errorf("Send(%d, %q) = %s, %d, want %s", peer, s, show(got), e, show(want))
	}
}

// announce sends a message Announce.
func announce(t *testing.T, n *Node, peer int, ids ...uint64) {
	t.Helper()
	expectSend(t, n, peer, listing(api.Announce, ids...))
}

// lack sends a message Missing.
func lack(t *testing.T, n *Node, peer int, ids ...uint64) {
	t.Helper()
	expectSend(t, n, peer, listing(api.Missing, ids...))
}

// bring sends messages that bring transactions.
func bring(t *testing.T, n *Node, peer int, deeds ...api.Deed) {
	t.Helper()
	for _, d := range deeds {
		expectSend(t, n, peer, bringing(d))
	}
}

// wait checks what is sent by Wait, and the time.
func wait(t *testing.T, n *Node, k int, want ...api.Out) {
	t.Helper()
	then := n.Now() + k
	if got, e := n.Wait(k); !slices.Equal(got, want) || e != api.OK || n.Now() != then {
		t.Errorf("Wait(%d) = %s, %d at %d, want %s at %d", k, show(got), e, n.Now(), show(want), then)
	}
}

// expectAccepted checks which transactions are accepted, in order.
func expectAccepted(t *testing.T, n *Node, want ...api.Deed) {
	t.Helper()
	if got := n.Accepted(); !slices.Equal(got, idsOf(want...)) {
		t.Errorf("Accepted() = %d, want %d", got, idsOf(want...))
	}
}

// expectOrphans checks which transactions are in the pool, in order.
func expectOrphans(t *testing.T, n *Node, want ...api.Deed) {
	t.Helper()
	if got := n.Orphans(); !slices.Equal(got, idsOf(want...)) {
		t.Errorf("Orphans() = %d, want %d", got, idsOf(want...))
	}
}

// expectCounts checks how many entries a peer has, and how many of them are requested.
func expectCounts(t *testing.T, n *Node, peer, entries, requested int) {
	t.Helper()
	if a, b, e := n.Counts(peer); a != entries || b != requested || e != api.OK {
		t.Errorf("Counts(%d) = %d, %d, %d, want %d, %d", peer, a, b, e, entries, requested)
	}
}

// expectKnown announces an ID by a peer that has no entry of it: it gets none if and only if the ID is known.
func expectKnown(t *testing.T, n *Node, peer int, id uint64, want bool) {
	t.Helper()
	before, _, _ := n.Counts(peer)
	announce(t, n, peer, id)
	if after, _, _ := n.Counts(peer); (after == before) != want {
		t.Errorf("ID %d known: %v, want %v", id, after == before, want)
	}
	lack(t, n, peer, id)
}

// state returns all that a node keeps, as text.
func state(n *Node) string {
	return fmt.Sprint(n.peers, n.now, n.tracker, n.pool, n.ledger, n.wicked, n.poor)
}

// unchanged checks that a call changes nothing.
func unchanged(t *testing.T, n *Node, call func()) {
	t.Helper()
	before := state(n)
	call()
	if after := state(n); after != before {
		t.Errorf("changed from %s to %s", before, after)
	}
}

// The transactions of a busy node.
var (
	busyGood   = free(4, 100, 10)
	busyPoor   = free(4, 100, 9)
	busyChild  = api.Deed{Ins: []api.In{{ID: idOf(busyGood)}}, Outs: 2, Weight: 10, Fee: 1}
	busyWicked = api.Deed{Ins: []api.In{{ID: idOf(busyGood)}}, Outs: 3, Weight: 10, Fee: 1}
	busyOrphan = api.Deed{Ins: []api.In{{ID: 70}, {ID: idOf(busyGood), At: 1}}, Outs: 2, Weight: 10, Fee: 1}
)

// busy returns a node that has something of everything, and the peers 0 to 2, of which 1 is preferred.
func busy(t *testing.T) *Node {
	t.Helper()
	n := start(t, false, true, false)
	bring(t, n, 0, busyGood, busyPoor, busyChild, busyWicked, busyOrphan)
	announce(t, n, 1, 71, 72, 73)
	wait(t, n, 5, asks(0, 70), asks(1, 71, 72, 73))
	announce(t, n, 2, 71, 74)
	wait(t, n, 3, asks(2, 74))
	announce(t, n, 0, 72, 75)
	lack(t, n, 1, 72)
	expectAccepted(t, n, busyGood, busyChild)
	expectOrphans(t, n, busyOrphan)
	expectCounts(t, n, 0, 3, 1)
	expectCounts(t, n, 1, 3, 2)
	expectCounts(t, n, 2, 2, 1)
	return n
}

func TestNew(t *testing.T) {
	for _, salt := range []uint64{0, 1, 1 << 63, math.MaxUint64} {
		n := New(salt)
		expectAccepted(t, n)
		expectOrphans(t, n)
		for peer := range 8 {
			expectCounts(t, n, peer, 0, 0)
			expect(t, n.Leave(peer), api.ErrNone)
		}
		if n.Now() != 0 {
			t.Errorf("Now() = %d", n.Now())
		}
		wait(t, n, 0)
		wait(t, n, 100)
		if New(salt) == n {
			t.Error("New returned a node twice")
		}
	}
}

// TestExample has the example of the chapter.
func TestExample(t *testing.T) {
	n := New(0)
	expect(t, n.Join(0, false), api.OK)
	good := free(1, 10, 1)
	if outs, e := n.Send(0, "\x03D\x00\x01\x00\x0a\x00\x01"); len(outs) != 0 || e != 0 {
		t.Errorf("%s, %d", show(outs), e)
	}
	expectAccepted(t, n, good)
	expectOrphans(t, n)
}

// TestPeerOutOfRange has each function with a peer: ErrArg comes before all other errors.
func TestPeerOutOfRange(t *testing.T) {
	messages := []string{
		"", "\x09", "\x03", "\x03D", listing(api.Announce, 5), listing(api.Fetch, idOf(busyGood)),
		listing(api.Missing, 71), bringing(busyGood), bringing(free(9, 9, 9)),
	}
	for _, peer := range badPeers {
		for _, n := range []*Node{New(1), busy(t)} {
			unchanged(t, n, func() {
				expect(t, n.Join(peer, false), api.ErrArg)
				expect(t, n.Join(peer, true), api.ErrArg)
				expect(t, n.Leave(peer), api.ErrArg)
				if a, b, e := n.Counts(peer); a != 0 || b != 0 || e != api.ErrArg {
					t.Errorf("Counts(%d) = %d, %d, %d", peer, a, b, e)
				}
			})
			for _, s := range messages {
				sendFails(t, n, peer, s, api.ErrArg)
			}
		}
	}
}

// TestJoin has all peers, in an order that is not theirs, at and between the ends of the range.
func TestJoin(t *testing.T) {
	n := New(1)
	for i, peer := range []int{7, 0, 3, 1, 6, 2, 5, 4} {
		sendFails(t, n, peer, listing(api.Announce, 5), api.ErrNone)
		expect(t, n.Join(peer, i%2 == 0), api.OK)
		announce(t, n, peer, uint64(peer))
		expectCounts(t, n, peer, 1, 0)
		unchanged(t, n, func() {
			expect(t, n.Join(peer, i%2 == 0), api.ErrTwice)
			expect(t, n.Join(peer, i%2 == 1), api.ErrTwice)
		})
	}
	wait(t, n, 0, asks(3, 3), asks(5, 5), asks(6, 6), asks(7, 7))
	wait(t, n, 3, asks(0, 0), asks(1, 1), asks(2, 2), asks(4, 4))
}

// TestJoinTwice joins with another preference: the first one stays.
func TestJoinTwice(t *testing.T) {
	n := start(t, false, true)
	expect(t, n.Join(0, true), api.ErrTwice)
	expect(t, n.Join(1, false), api.ErrTwice)
	announce(t, n, 0, 5)
	announce(t, n, 1, 6)
	wait(t, n, 0, asks(1, 6))
	wait(t, n, 2)
	wait(t, n, 1, asks(0, 5))
}

// TestLeaveErrors leaves by peers that never came, that left, and out of an empty node.
func TestLeaveErrors(t *testing.T) {
	n := busy(t)
	for peer := 3; peer < 8; peer++ {
		unchanged(t, n, func() { expect(t, n.Leave(peer), api.ErrNone) })
	}
	for peer := range 3 {
		expect(t, n.Leave(peer), api.OK)
		unchanged(t, n, func() {
			expect(t, n.Leave(peer), api.ErrNone)
			expectCounts(t, n, peer, 0, 0)
		})
		sendFails(t, n, peer, listing(api.Announce, 5), api.ErrNone)
	}
}

// TestLeave has peers with entries and orphans of their own and in common: those of the others stay.
func TestLeave(t *testing.T) {
	n := start(t, true, true, true)
	own, common, other := spending(api.In{ID: 1}), spending(api.In{ID: 2}), spending(api.In{ID: 3})
	bring(t, n, 0, own, common)
	bring(t, n, 1, common, other)
	announce(t, n, 0, 5, 6)
	announce(t, n, 2, 5, 7)
	expectCounts(t, n, 0, 4, 0)
	expectCounts(t, n, 1, 2, 0)
	expectCounts(t, n, 2, 2, 0)
	expect(t, n.Leave(0), api.OK)
	expectCounts(t, n, 0, 0, 0)
	expectCounts(t, n, 1, 2, 0)
	expectCounts(t, n, 2, 2, 0)
	expectOrphans(t, n, common, other)
	wait(t, n, 0, asks(1, 2, 3), asks(2, 5, 7))
	expect(t, n.Leave(1), api.OK)
	expectOrphans(t, n)
	expect(t, n.Leave(2), api.OK)
	wait(t, n, 100)
	expectAccepted(t, n)
}

// TestLeaveWhileAsked has a peer that leaves while it is asked: another one is asked at once.
func TestLeaveWhileAsked(t *testing.T) {
	n := start(t, true, false)
	announce(t, n, 0, 5)
	announce(t, n, 1, 5)
	wait(t, n, 3, asks(0, 5))
	wait(t, n, 4)
	expect(t, n.Leave(0), api.OK)
	wait(t, n, 0, asks(1, 5))
}

// TestLeaveKeepsTheRest has what a leaving peer does not take with it: what is accepted, the filters and the time.
func TestLeaveKeepsTheRest(t *testing.T) {
	n := busy(t)
	for peer := range 3 {
		expect(t, n.Leave(peer), api.OK)
	}
	expectAccepted(t, n, busyGood, busyChild)
	expectOrphans(t, n)
	if n.Now() != 8 {
		t.Errorf("Now() = %d", n.Now())
	}
	expect(t, n.Join(4, true), api.OK)
	for _, d := range []api.Deed{busyGood, busyChild, busyWicked, busyPoor} {
		expectKnown(t, n, 4, idOf(d), true)
	}
	expectKnown(t, n, 4, idOf(busyOrphan), false)
	expectKnown(t, n, 4, 70, false)
}

// TestJoinAgain has a peer that leaves and joins again, preferred or not: it begins anew.
func TestJoinAgain(t *testing.T) {
	for _, before := range []bool{false, true} {
		for _, after := range []bool{false, true} {
			n := start(t, before, false)
			announce(t, n, 0, 5, 6, 7, 8, 9)
			bring(t, n, 0, spending(api.In{ID: 4}))
			wait(t, n, 3, asks(0, 5, 6, 7, 8))
			expectCounts(t, n, 0, 6, 4)
			expect(t, n.Leave(0), api.OK)
			expect(t, n.Leave(0), api.ErrNone)
			expect(t, n.Join(0, after), api.OK)
			expectCounts(t, n, 0, 0, 0)
			expectOrphans(t, n)
			wait(t, n, 20)
			announce(t, n, 0, 10, 6, 11, 12)
			announce(t, n, 1, 12)
			if !after {
				wait(t, n, 2)
				announce(t, n, 0, 13)
				best := []api.Out{asks(0, 10, 6, 11, 12)}
				if winner(1, 12, 0, 1) == 1 {
					best = []api.Out{asks(0, 10, 6, 11), asks(1, 12)}
				}
				wait(t, n, 1, best...)
				continue
			}
			wait(t, n, 0, asks(0, 10, 6, 11, 12))
		}
	}
}

// TestCountsOfAll has peers with different numbers of entries.
func TestCountsOfAll(t *testing.T) {
	n := start(t, true, true, true, true, true, true, true, true)
	for peer := range 8 {
		for i := range peer {
			announce(t, n, peer, uint64(100*peer+i))
		}
	}
	for peer := range 8 {
		expectCounts(t, n, peer, peer, 0)
	}
	if _, e := n.Wait(0); e != api.OK {
		t.Errorf("error %d", e)
	}
	for peer := range 8 {
		expectCounts(t, n, peer, peer, min(peer, 4))
	}
}

// TestTwoNodes uses nodes in turn: what happens to one of them does not happen to the other one.
func TestTwoNodes(t *testing.T) {
	a, b := start(t, false), start(t, true, true)
	good := free(2, 10, 1)
	bring(t, a, 0, good)
	announce(t, a, 0, 5)
	announce(t, b, 0, idOf(good))
	bring(t, b, 1, spending(out(good, 0)))
	wait(t, a, 3, asks(0, 5))
	expectAccepted(t, a, good)
	expectAccepted(t, b)
	expectOrphans(t, a)
	expectOrphans(t, b, spending(out(good, 0)))
	expectCounts(t, a, 0, 1, 1)
	expectCounts(t, b, 0, 1, 0)
	expect(t, a.Leave(1), api.ErrNone)
	expect(t, b.Leave(1), api.OK)
	expectOrphans(t, b)
	if a.Now() != 3 || b.Now() != 0 {
		t.Errorf("times %d and %d", a.Now(), b.Now())
	}
	wait(t, b, 0, asks(0, idOf(good)))
	expectCounts(t, a, 0, 1, 1)
}

// scribble changes a slice up to its capacity.
func scribble[T any](s []T, value T) {
	s = s[:cap(s)]
	for i := range s {
		s[i] = value
	}
}

// TestResultsAreOwn changes what a node returned, up to the capacity, which changes nothing in it and in other results.
func TestResultsAreOwn(t *testing.T) {
	n := start(t, true, true)
	deeds := several(7, true)
	bring(t, n, 0, deeds...)
	orphans := []api.Deed{spending(api.In{ID: 1}), spending(api.In{ID: 2}), spending(api.In{ID: 3})}
	bring(t, n, 1, orphans...)
	unchanged(t, n, func() {
		accepted, again := n.Accepted(), n.Accepted()
		lost, lostAgain := n.Orphans(), n.Orphans()
		scribble(accepted, 99)
		scribble(lost, 99)
		if !slices.Equal(again, idsOf(deeds...)) || !slices.Equal(lostAgain, idsOf(orphans...)) {
			t.Errorf("results share memory: %d, %d", again, lostAgain)
		}
		_, _ = append(again, 99), append(lostAgain, 99)
		expectAccepted(t, n, deeds...)
		expectOrphans(t, n, orphans...)
		s := listing(api.Fetch, idOf(deeds[2]), 8, idOf(deeds[1]))
		outs, _ := n.Send(0, s)
		scribble(outs, api.Out{Peer: 9, Bytes: "x"})
		missing := api.Out{Peer: 0, Bytes: listing(api.Missing, 8)}
		expectSend(t, n, 0, s, api.Out{Bytes: bringing(deeds[2])}, api.Out{Bytes: bringing(deeds[1])}, missing)
	})
	announce(t, n, 0, 5, 6)
	outs, _ := n.Wait(0)
	before := state(n)
	scribble(outs, api.Out{Peer: 9, Bytes: "x"})
	if state(n) != before {
		t.Error("a result of Wait shares memory with the node")
	}
	wait(t, n, 10)
}

// TestZeroNode has a node that New did not make: P1 says that no call panics, and it is like one with the salt 0.
func TestZeroNode(t *testing.T) {
	calls := []func(n *Node){
		func(n *Node) { n.Leave(0) },
		func(n *Node) { n.Send(0, bringing(busyGood)) },
		func(n *Node) { n.Wait(4) },
		func(n *Node) { n.Wait(-1) },
		func(n *Node) { n.Accepted() },
		func(n *Node) { n.Orphans() },
		func(n *Node) { n.Counts(0) },
		func(n *Node) { n.Now() },
		func(n *Node) { n.Join(0, true); n.Send(0, bringing(busyWicked)) },
		func(n *Node) { n.Join(0, true); n.Send(0, bringing(busyPoor)); n.Leave(0) },
	}
	for i, call := range calls {
		var zero Node
		made := New(0)
		for _, n := range []*Node{&zero, made} {
			call(n)
			n.Join(1, false)
			bring(t, n, 1, busyGood, busyPoor, busyChild, busyWicked, busyOrphan)
			announce(t, n, 1, 5, idOf(busyWicked), idOf(busyPoor))
			wait(t, n, 3, asks(1, 70, 5))
			for _, d := range several(40, false) {
				bring(t, n, 1, d)
			}
		}
		if state(&zero) != state(made) {
			t.Errorf("call %d: %s, want %s", i, state(&zero), state(made))
		}
	}
}
