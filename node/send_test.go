package node

import (
	"math"
	"strings"
	"testing"

	"charterhouse/api"
	"charterhouse/sum"
)

// sendFails checks an error of Send, and that it changes nothing and sends nothing.
func sendFails(t *testing.T, n *Node, peer int, s string, want api.Errno) {
	t.Helper()
	unchanged(t, n, func() {
		if outs, e := n.Send(peer, s); len(outs) != 0 || e != want {
			t.Errorf("Send(%d, %q) = %s, %d, want error %d", peer, s, show(outs), e, want)
		}
	})
}

// id8 returns the bytes of a small ID.
func id8(id byte) string {
	return "\x00\x00\x00\x00\x00\x00\x00" + string([]byte{id})
}

// wrongMessages has bytes with each error of msg.Decode.
func wrongMessages() map[api.Errno][]string {
	var twentyOne, twenty strings.Builder
	for i := range 21 {
		twentyOne.WriteString(id8(byte(100 + i)))
	}
	for range 20 {
		twenty.WriteString(id8(71))
	}
	return map[api.Errno][]string{
		api.ErrShort: {
			"", "\x01", "\x02", "\x04", "\x01\x01", "\x04\x01" + id8(71)[:7], "\x02\x02" + id8(71), "\x01\xff" + id8(5),
		},
		api.ErrArg: {"\x00", "\x05", "\x09", "\xff", "\x00D\x00\x01\x00\x0a\x00\x01", "\x05\x01" + id8(5)},
		api.ErrForm: {
			"\x01\x00", "\x02\x00", "\x04\x00", "\x03", "\x01\x01" + id8(5) + "\x00", "\x04\x01" + id8(71) + id8(72), "\x02\x00\x00",
		},
		api.ErrLarge: {
			"\x01\x15" + twentyOne.String(), "\x02\x15" + twentyOne.String(), "\x04\x15" + twentyOne.String(),
			"\x03" + strings.Repeat("D", 101), "\x03" + strings.Repeat("\x00", 101),
		},
		api.ErrTwice: {
			"\x01\x02" + id8(5) + id8(5), "\x04\x03" + id8(71) + id8(73) + id8(71), "\x02\x14" + twenty.String(),
		},
	}
}

// wrongBodies has bytes with each error of deed.Decode.
func wrongBodies() map[api.Errno][]string {
	in := id8(5) + "\x00"
	good := "\x01\x00\x0a\x00\x01"
	return map[api.Errno][]string{
		api.ErrShort: {"D", "D\x00", "D\x00\x01\x00\x0a\x00", "D\x01" + good, "D\x02" + in + good, "D\xff" + good},
		api.ErrForm: {
			"\x00", "d\x00" + good, "\x03D\x00" + good, "D\x00" + good + "\x00", "D\x00" + in + good, strings.Repeat("x", 100),
		},
		api.ErrLarge: {"D\x09" + strings.Repeat(in, 9) + good},
		api.ErrTwice: {"D\x02" + in + in + good, "D\x03" + in + id8(6) + "\x00" + in + "\x00\x00\x00\x00\x00"},
		api.ErrArg: {
			"D\x00\x00\x00\x0a\x00\x01", "D\x00\x11\x00\x0a\x00\x01", "D\x00\x01\x00\x00\x00\x01",
			"D\x00\x01\x03\xe9\x00\x01", "D\x00\x01\x00\x0a\x03\xe9", "D\x01" + id8(5) + "\x10" + good,
			"D\x02" + id8(5) + "\x10" + id8(5) + "\x10" + good, "D\x00\x01\xff\xff\xff\xff",
		},
	}
}

// TestSendErrors has bytes that are not a message: for peers that are there, and ErrNone before them for others.
func TestSendErrors(t *testing.T) {
	n := busy(t)
	for want, messages := range wrongMessages() {
		for _, s := range messages {
			for peer := range 3 {
				sendFails(t, n, peer, s, want)
			}
			for peer := 3; peer < 8; peer++ {
				sendFails(t, n, peer, s, api.ErrNone)
			}
			sendFails(t, New(1), 0, s, api.ErrNone)
			sendFails(t, start(t, true), 0, s, want)
		}
	}
}

// TestSendWrongBody has bodies that are no transaction, or one that fails its check.
func TestSendWrongBody(t *testing.T) {
	for want, bodies := range wrongBodies() {
		for _, body := range bodies {
			n := busy(t)
			// No transaction has these IDs, so not even their requests are answered.
			ids := []uint64{sum.Of(body), sum.Of("\x03" + body)}
			announce(t, n, 1, ids...)
			wait(t, n, 0, asks(1, ids...))
			expectCounts(t, n, 1, 5, 4)
			for peer := range 3 {
				sendFails(t, n, peer, "\x03"+body, want)
			}
			sendFails(t, n, 3, "\x03"+body, api.ErrNone)
			sendFails(t, n, 8, "\x03"+body, api.ErrArg)
		}
	}
}

// TestSendByStranger has right messages of peers that are not there.
func TestSendByStranger(t *testing.T) {
	for _, s := range []string{
		listing(api.Announce, 5), listing(api.Fetch, idOf(busyGood)), listing(api.Missing, 71),
		bringing(busyGood), bringing(free(9, 9, 9)), bringing(busyOrphan), bringing(spending(api.In{ID: 6})),
	} {
		n := busy(t)
		for peer := 3; peer < 8; peer++ {
			sendFails(t, n, peer, s, api.ErrNone)
		}
		expect(t, n.Leave(1), api.OK)
		sendFails(t, n, 1, s, api.ErrNone)
	}
}

// TestAnnounce has the times at which peers are asked, at different times.
func TestAnnounce(t *testing.T) {
	for _, begin := range []int{0, 1, 1000, 1 << 39} {
		n := start(t, true, false)
		wait(t, n, begin)
		announce(t, n, 0, 5)
		announce(t, n, 1, 6)
		expectCounts(t, n, 0, 1, 0)
		expectCounts(t, n, 1, 1, 0)
		wait(t, n, 0, asks(0, 5))
		wait(t, n, 1)
		announce(t, n, 0, 7)
		wait(t, n, 1, asks(0, 7))
		wait(t, n, 1, asks(1, 6))
		expectCounts(t, n, 0, 2, 2)
		expectCounts(t, n, 1, 1, 1)
	}
}

// TestAnnounceOrder has IDs in orders that are not those of their numbers.
func TestAnnounceOrder(t *testing.T) {
	for _, preferred := range []bool{false, true} {
		n := start(t, preferred)
		announce(t, n, 0, 9, 3, math.MaxUint64)
		announce(t, n, 0, 0, 1<<63, 4)
		expectCounts(t, n, 0, 6, 0)
		wait(t, n, 3, asks(0, 9, 3, math.MaxUint64, 0))
		lack(t, n, 0, 9, 3)
		wait(t, n, 0, asks(0, 1<<63, 4))
	}
}

// TestAnnounceKnown has IDs that the ledger, the pool and the filters contain, alone and among others.
func TestAnnounceKnown(t *testing.T) {
	poorParent := free(3, 100, 0)
	payer := paying(spending(out(poorParent, 0)), 10, 100)
	for _, preferred := range []bool{false, true} {
		n := start(t, false, preferred)
		bring(t, n, 0, busyGood, busyPoor, busyChild, busyWicked, busyOrphan, payer, poorParent)
		known := []api.Deed{busyGood, busyPoor, busyChild, busyWicked, busyOrphan, payer, poorParent}
		for _, d := range known {
			announce(t, n, 1, idOf(d))
			expectCounts(t, n, 1, 0, 0)
		}
		announce(t, n, 1, append(idsOf(known...), 5)...)
		expectCounts(t, n, 1, 1, 0)
		announce(t, n, 1, 6, idOf(busyGood), 7, idOf(busyWicked), idOf(busyPoor), 8, idOf(busyOrphan), 9)
		expectCounts(t, n, 1, 5, 0)
		wait(t, n, 3, asks(0, 70), asks(1, 5, 6, 7, 8))
		expectCounts(t, n, 0, 1, 1)
	}
}

// TestAnnounceAgain has IDs of which the tracker contains an entry of the peer, in each of its states: it stays as it is.
func TestAnnounceAgain(t *testing.T) {
	n := start(t, false, true)
	again := func(peer int, ids ...uint64) {
		t.Helper()
		unchanged(t, n, func() { announce(t, n, peer, ids...) })
	}
	announce(t, n, 0, 5)
	wait(t, n, 2)
	again(0, 5)
	wait(t, n, 1, asks(0, 5))
	again(0, 5)
	announce(t, n, 1, 5, 6)
	again(1, 6, 5)
	lack(t, n, 0, 5)
	// It is done for peer 0, but not for peer 1.
	again(0, 5)
	wait(t, n, 0, asks(1, 5, 6))
	again(1, 5, 6)
	wait(t, n, 9)
	// Requested entries become done in time, and the last one is removed.
	wait(t, n, 1)
	expectCounts(t, n, 0, 0, 0)
	expectCounts(t, n, 1, 0, 0)
	announce(t, n, 0, 5)
	expectCounts(t, n, 0, 1, 0)
}

// TestAnnounceTooMany has more IDs than a peer may have entries: the last ones are ignored, until there is room.
func TestAnnounceTooMany(t *testing.T) {
	n := start(t, true, true)
	var ids []uint64
	for i := range 20 {
		ids = append(ids, uint64(1000-i))
	}
	announce(t, n, 0, 1)
	announce(t, n, 0, ids...)
	expectCounts(t, n, 0, 20, 0)
	unchanged(t, n, func() { announce(t, n, 0, 2, ids[19], 3) })
	announce(t, n, 1, ids[19])
	expectCounts(t, n, 1, 1, 0)
	lack(t, n, 0, ids[0], ids[1])
	expectCounts(t, n, 0, 18, 0)
	// An ID that has an entry takes no room, nor does one that is known.
	bring(t, n, 1, busyGood)
	announce(t, n, 0, ids[2], 2, idOf(busyGood), 3, ids[19])
	expectCounts(t, n, 0, 20, 0)
	wait(t, n, 0, asks(0, 1, ids[2], ids[3], ids[4]), asks(1, ids[19]))
	unchanged(t, n, func() { announce(t, n, 0, ids[19]) })
	lack(t, n, 0, ids[5:18]...)
	wait(t, n, 10, asks(0, ids[18], 2, 3))
	expectCounts(t, n, 0, 3, 3)
}

// TestAnnounceAtTheEnd has times close to the end: no peer waits beyond it.
func TestAnnounceAtTheEnd(t *testing.T) {
	for left := range 6 {
		n := start(t, false, true)
		bring(t, n, 0, busyGood, busyPoor, busyChild, busyWicked)
		wait(t, n, api.MaxTime-left)
		for peer := range 2 {
			unchanged(t, n, func() { announce(t, n, peer, idsOf(busyGood, busyPoor, busyChild, busyWicked)...) })
		}
		announce(t, n, 0, 5)
		announce(t, n, 1, 6)
		unchanged(t, n, func() {
			announce(t, n, 0, 5)
			announce(t, n, 1, 6)
		})
		expectCounts(t, n, 0, 1, 0)
		expectCounts(t, n, 1, 1, 0)
		delay := min(3, left)
		if delay == 0 {
			wait(t, n, 0, asks(0, 5), asks(1, 6))
			continue
		}
		wait(t, n, 0, asks(1, 6))
		wait(t, n, delay-1)
		wait(t, n, 1, asks(0, 5))
	}
}

// TestMissing has IDs that were requested, announced and never announced, in one message and in several.
func TestMissing(t *testing.T) {
	n := start(t, true, false, false)
	announce(t, n, 0, 5, 6)
	announce(t, n, 1, 5, 6, 7)
	wait(t, n, 3, asks(0, 5, 6), asks(1, 7))
	announce(t, n, 0, 8)
	for _, id := range []uint64{0, 9, math.MaxUint64} {
		unchanged(t, n, func() { lack(t, n, 0, id) })
	}
	unchanged(t, n, func() {
		lack(t, n, 0, 7)
		lack(t, n, 2, 5, 6, 7, 8)
	})
	lack(t, n, 0, 9, 8, 5, 7)
	// The entry of 5 is done, that of 8, which was alone, is gone.
	expectCounts(t, n, 0, 2, 1)
	expectCounts(t, n, 1, 3, 1)
	wait(t, n, 0, asks(1, 5))
	lack(t, n, 1, 5)
	expectCounts(t, n, 0, 1, 1)
	expectCounts(t, n, 1, 2, 1)
	// A peer that is not asked may have lost it, too.
	lack(t, n, 1, 6)
	expectCounts(t, n, 1, 2, 1)
	lack(t, n, 0, 6)
	expectCounts(t, n, 0, 0, 0)
	expectCounts(t, n, 1, 1, 1)
	wait(t, n, 0)
}

// TestMissingBeforeAsked has peers that take back what they announced, so that they are not asked.
func TestMissingBeforeAsked(t *testing.T) {
	n := start(t, false, true)
	announce(t, n, 0, 5, 6)
	announce(t, n, 1, 7, 6)
	lack(t, n, 0, 6)
	lack(t, n, 1, 7)
	wait(t, n, 3, asks(0, 5), asks(1, 6))
	lack(t, n, 0, 5, 6)
	lack(t, n, 1, 6)
	expectCounts(t, n, 0, 0, 0)
	expectCounts(t, n, 1, 0, 0)
}

// TestMissingOfKnown has IDs of accepted transactions and of orphans, which stay.
func TestMissingOfKnown(t *testing.T) {
	n := busy(t)
	unchanged(t, n, func() {
		lack(t, n, 0, idsOf(busyGood, busyPoor, busyChild, busyWicked, busyOrphan)...)
	})
}

// eightIns returns transactions that can be accepted in this order; the last one has eight Ins.
func eightIns() []api.Deed {
	deeds := several(3, true)
	last := free(16, 1000, 1000)
	for i := range 8 {
		last.Ins = append(last.Ins, out(deeds[i%3], 15-i))
	}
	return append(deeds, last)
}

// TestFetch has contained and other IDs, mixed, and only one sort of them.
func TestFetch(t *testing.T) {
	n := start(t, false, false, true)
	deeds := eightIns()
	bring(t, n, 1, deeds...)
	bring(t, n, 1, busyPoor, spending(out(deeds[0], 15)), spending(api.In{ID: 5}))
	expectAccepted(t, n, deeds...)
	notAccepted := idsOf(busyPoor, spending(out(deeds[0], 15)), spending(api.In{ID: 5}))
	a, b, c, d := idOf(deeds[0]), idOf(deeds[1]), idOf(deeds[2]), idOf(deeds[3])
	bodies := map[uint64]string{a: bringing(deeds[0]), b: bringing(deeds[1]), c: bringing(deeds[2]), d: bringing(deeds[3])}
	tests := []struct{ ids, brought, missing []uint64 }{
		{[]uint64{a}, []uint64{a}, nil},
		{[]uint64{d}, []uint64{d}, nil},
		{[]uint64{5}, nil, []uint64{5}},
		{[]uint64{d, b, a, c}, []uint64{d, b, a, c}, nil},
		{[]uint64{0, 9, 8, math.MaxUint64}, nil, []uint64{0, 9, 8, math.MaxUint64}},
		{[]uint64{a, 5}, []uint64{a}, []uint64{5}},
		{[]uint64{5, a}, []uint64{a}, []uint64{5}},
		{[]uint64{9, c, 8, a, b, 7, 6, d}, []uint64{c, a, b, d}, []uint64{9, 8, 7, 6}},
		{[]uint64{a + 1, a, a - 1}, []uint64{a}, []uint64{a + 1, a - 1}},
		{notAccepted, nil, notAccepted},
		{
			[]uint64{19, 18, d, 17, 16, 15, 14, b, 13, 12, 11, 10, 9, 8, 7, 6, 5, 4, a, 3},
			[]uint64{d, b, a},
			[]uint64{19, 18, 17, 16, 15, 14, 13, 12, 11, 10, 9, 8, 7, 6, 5, 4, 3},
		},
	}
	for _, test := range tests {
		for peer := range 3 {
			var want []api.Out
			for _, id := range test.brought {
				want = append(want, api.Out{Peer: peer, Bytes: bodies[id]})
			}
			if len(test.missing) > 0 {
				want = append(want, api.Out{Peer: peer, Bytes: listing(api.Missing, test.missing...)})
			}
			unchanged(t, n, func() { expectSend(t, n, peer, listing(api.Fetch, test.ids...), want...) })
		}
	}
}

// TestFetchBytes has the bytes of the messages, written out.
func TestFetchBytes(t *testing.T) {
	n := start(t, true)
	parent := free(2, 10, 1)
	child := api.Deed{Ins: []api.In{out(parent, 1)}, Outs: 16, Weight: 1000, Fee: 258}
	bring(t, n, 0, parent, child)
	id := idOf(parent)
	var parentID []byte
	for shift := 56; shift >= 0; shift -= 8 {
		parentID = append(parentID, byte(id>>shift))
	}
	want := []api.Out{
		{Peer: 0, Bytes: "\x03D\x01" + string(parentID) + "\x01\x10\x03\xe8\x01\x02"},
		{Peer: 0, Bytes: "\x03D\x00\x02\x00\x0a\x00\x01"},
		{Peer: 0, Bytes: "\x04\x02\x00\x00\x00\x00\x00\x00\x00\x07\xff\xff\xff\xff\xff\xff\xff\xff"},
	}
	expectSend(t, n, 0, listing(api.Fetch, 7, idOf(child), math.MaxUint64, id), want...)
	announce(t, n, 0, 258, 1<<56)
	wait(t, n, 0, api.Out{Peer: 0, Bytes: "\x02\x02\x00\x00\x00\x00\x00\x00\x01\x02\x01\x00\x00\x00\x00\x00\x00\x00"})
}

// TestFetchOfEmpty asks a node that contains nothing.
func TestFetchOfEmpty(t *testing.T) {
	n := start(t, false)
	var ids []uint64
	for i := range 20 {
		ids = append(ids, uint64(20-i))
	}
	unchanged(t, n, func() {
		expectSend(t, n, 0, listing(api.Fetch, ids...), api.Out{Peer: 0, Bytes: listing(api.Missing, ids...)})
	})
}

// TestFetchOfMany asks for as many accepted transactions as a message may name.
func TestFetchOfMany(t *testing.T) {
	n := start(t, false)
	deeds := several(20, true)
	var want []api.Out
	for _, d := range deeds {
		bring(t, n, 0, d)
		want = append(want, api.Out{Peer: 0, Bytes: bringing(d)})
	}
	expectSend(t, n, 0, listing(api.Fetch, idsOf(deeds...)...), want...)
}

// TestFetchOfAnnounced asks for what is only announced or requested: it is missing, and stays so.
func TestFetchOfAnnounced(t *testing.T) {
	n := busy(t)
	unchanged(t, n, func() {
		expectSend(t, n, 2, listing(api.Fetch, 70, 71, 75), api.Out{Peer: 2, Bytes: listing(api.Missing, 70, 71, 75)})
	})
}
