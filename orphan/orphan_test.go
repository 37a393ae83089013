package orphan

import (
	"math"
	"math/rand"

	"reflect"
	"slices"
	"sync"

	"testing"

	"charterhouse/api"
)

// wrongPeers lie outside of their range, next to the ends and far away.
var wrongPeers = []int{-1, 8, -2, 9, -8, 16, 255, 256, 257, -256, 1 << 32, 1<<32 + 1, -1 << 32, math.MinInt, math.MinInt + 1, math.MaxInt - 1, math.MaxInt}

// of returns a transaction of a weight that spends the output 0 of some IDs.
func of(weight int, ids ...uint64) api.Deed {
	d := api.Deed{Outs: 1, Weight: weight}
	for _, id := range ids {
		d.Ins = append(d.Ins, api.In{ID: id})
	}
	return d
}

// same reports whether two transactions are equal; no Ins are equal to an empty slice of them.
func same(a, b api.Deed) bool {
	return slices.Equal(a.Ins, b.Ins) && a.Outs == b.Outs && a.Weight == b.Weight && a.Fee == b.Fee
}

// pair is a peer and an ID, for tests that write links out.
type pair struct {
	peer int
	id   uint64
}

// expect checks the error of a call.
func expect(t *testing.T, got, want api.Errno) {
	t.Helper()
	if got != want {
		t.Errorf("error %d, want %d", got, want)
	}
}

// add adds a transaction that remains.
func add(t *testing.T, h *Home, peer int, id uint64, d api.Deed) {
	t.Helper()
	if is, e := h.Add(peer, id, d); !is || e != api.OK {
		t.Errorf("Add(%d, %d, %v) = %v, %d, want true", peer, id, d, is, e)
	}
}

// addAll adds transactions of one weight that remain.
func addAll(t *testing.T, h *Home, weight int, links ...pair) {
	t.Helper()
	for _, l := range links {
		add(t, h, l.peer, l.id, of(weight))
	}
}

// addFails adds a transaction that is refused.
func addFails(t *testing.T, h *Home, peer int, id uint64, d api.Deed, want api.Errno) {
	t.Helper()
	if is, e := h.Add(peer, id, d); is || e != want {
		t.Errorf("Add(%d, %d, %v) = %v, %d, want error %d", peer, id, d, is, e, want)
	}
}

// expectAll checks All, and Has and Deed of the IDs in it.
func expectAll(t *testing.T, h *Home, want ...uint64) {
	t.Helper()
	if got := h.All(); !slices.Equal(got, want) {
		t.Errorf("All() = %d, want %d", got, want)
	}
	for _, id := range want {
		if _, e := h.Deed(id); !h.Has(id) || e != api.OK {
			t.Errorf("Has(%d) = %v, Deed: error %d", id, h.Has(id), e)
		}
	}
}

// expectGone checks that some IDs are not contained.
func expectGone(t *testing.T, h *Home, ids ...uint64) {
	t.Helper()
	for _, id := range ids {
		d, e := h.Deed(id)
		if h.Has(id) || slices.Contains(h.All(), id) || !same(d, api.Deed{}) || e != api.ErrNone {
			t.Errorf("Has(%d) = %v, Deed(%d) = %v, %d, All() = %d, want it gone", id, h.Has(id), id, d, e, h.All())
		}
	}
}

// expectDeed checks the transaction with an ID.
func expectDeed(t *testing.T, h *Home, id uint64, want api.Deed) {
	t.Helper()
	if got, e := h.Deed(id); !same(got, want) || e != api.OK || !h.Has(id) {
		t.Errorf("Deed(%d) = %v, %d, want %v", id, got, e, want)
	}
}

// expectChildren checks Children of an ID.
func expectChildren(t *testing.T, h *Home, id uint64, want ...uint64) {
	t.Helper()
	if got := h.Children(id); !slices.Equal(got, want) {
		t.Errorf("Children(%d) = %d, want %d", id, got, want)
	}
}

// expectUsage checks Usage of a peer.
func expectUsage(t *testing.T, h *Home, peer, weight, links int) {
	t.Helper()
	if w, n, e := h.Usage(peer); w != weight || n != links || e != api.OK {
		t.Errorf("Usage(%d) = %d, %d, %d, want %d, %d", peer, w, n, e, weight, links)
	}
}

// expectUsages checks Usage of all peers: their weights and links in turn, those of the peers that are not given being 0.
func expectUsages(t *testing.T, h *Home, want ...[2]int) {
	t.Helper()
	for peer := range 8 {
		if peer < len(want) {
			expectUsage(t, h, peer, want[peer][0], want[peer][1])
		} else {
			expectUsage(t, h, peer, 0, 0)
		}
	}
}

// look returns all that can be seen of a pool's transactions of some IDs.
func look(h *Home, ids ...uint64) []any {
	seen := []any{append([]uint64{}, h.All()...)}
	for peer := range 8 {
		weight, links, e := h.Usage(peer)
		seen = append(seen, weight, links, e)
	}
	for _, id := range ids {
		d, e := h.Deed(id)
		d.Ins = append([]api.In{}, d.Ins...)
		seen = append(seen, h.Has(id), d, e, append([]uint64{}, h.Children(id)...))
	}
	return seen
}

// expectSame checks that nothing changed between two looks.
func expectSame(t *testing.T, before, after []any) {
	t.Helper()
	if !reflect.DeepEqual(before, after) {
		t.Errorf("changed from %v to %v", before, after)
	}
}

func TestNew(t *testing.T) {
	h := New()
	expectAll(t, h)
	expectUsages(t, h)
	for _, id := range []uint64{0, 1, 1 << 63, math.MaxUint64} {
		expectGone(t, h, id)
		expectChildren(t, h, id)
		if h.Remove(id) {
			t.Errorf("Remove(%d) of nothing", id)
		}
	}
	for peer := range 8 {
		expect(t, h.Drop(peer), api.OK)
	}
	expectAll(t, h)
}

// TestExample has the example of the chapter: one link of any weight stays, for each peer.
func TestExample(t *testing.T) {
	for _, weight := range []int{1, 125, 126, 999, 1000} {
		h := New()
		for peer := range 8 {
			add(t, h, 7-peer, uint64(peer), of(weight))
			expectUsage(t, h, 7-peer, weight, 1)
		}
		expectAll(t, h, 0, 1, 2, 3, 4, 5, 6, 7)
	}
}

// TestAdd has transactions with the ends of all ranges, and IDs that are not those of the transactions.
func TestAdd(t *testing.T) {
	eight := api.Deed{Outs: 16, Weight: 1000, Fee: 1000}
	for i := range uint64(8) {
		eight.Ins = append(eight.Ins, api.In{ID: math.MaxUint64 - i, At: 15 - int(i)})
	}
	deeds := []api.Deed{
		{Outs: 1, Weight: 1},
		{Ins: []api.In{}, Outs: 16, Weight: 1000, Fee: 1000},
		{Ins: []api.In{{ID: 0, At: 0}}, Outs: 2, Weight: 3, Fee: 4},
		{Ins: []api.In{{ID: 7, At: 15}, {ID: 7, At: 0}, {ID: 6, At: 15}}, Outs: 5, Weight: 500, Fee: 1},
		eight,
	}
	for _, id := range []uint64{0, 1, 1 << 32, 1 << 63, math.MaxUint64} {
		for peer := range 8 {
			for _, d := range deeds {
				h := New()
				add(t, h, peer, id, d)
				expectDeed(t, h, id, d)
				expectAll(t, h, id)
				expectGone(t, h, id+1, id-1)
				for other := range 8 {
					if other == peer {
						expectUsage(t, h, other, d.Weight, 1)
					} else {
						expectUsage(t, h, other, 0, 0)
					}
				}
			}
		}
	}
}

// wrongDeeds has transactions with each error of deed.Check.
func wrongDeeds() map[api.Errno][]api.Deed {
	nine := api.Deed{Outs: 1, Weight: 1}
	for i := range 9 {
		nine.Ins = append(nine.Ins, api.In{ID: 1, At: i})
	}
	return map[api.Errno][]api.Deed{
		api.ErrLarge: {nine, {Ins: make([]api.In, 9)}, {Ins: make([]api.In, 1000), Outs: 1, Weight: 1}},
		api.ErrTwice: {
			{Ins: []api.In{{ID: 4, At: 2}, {ID: 4, At: 2}}, Outs: 1, Weight: 1},
			{Ins: []api.In{{ID: 4, At: 2}, {ID: 5}, {ID: 4, At: 2}}},
		},
		api.ErrArg: {
			{},
			{Ins: []api.In{{At: 16}, {At: 16}}, Outs: 1, Weight: 1},
			{Ins: []api.In{{At: -1}}, Outs: 1, Weight: 1},
			{Outs: 0, Weight: 1},
			{Outs: 17, Weight: 1},
			{Outs: math.MinInt, Weight: 1},
			{Outs: 1, Weight: 0},
			{Outs: 1, Weight: -1},
			{Outs: 1, Weight: 1001},
			{Outs: 1, Weight: math.MaxInt},
			{Outs: 1, Weight: math.MinInt},
			{Outs: 1, Weight: 1, Fee: -1},
			{Outs: 1, Weight: 1, Fee: 1001},
		},
	}
}

// TestAddWrongDeeds adds to an empty pool and to one where the ID has a link of this peer, of another one, or none.
func TestAddWrongDeeds(t *testing.T) {
	h := New()
	add(t, h, 3, 50, of(20, 4))
	before := look(h, 4, 50, 51)
	for want, deeds := range wrongDeeds() {
		for _, d := range deeds {
			empty := New()
			addFails(t, empty, 0, 1, d, want)
			expectAll(t, empty)
			expectUsages(t, empty)
			// The error of the transaction comes before ErrTwice, and applies also where the transaction would not be kept.
			addFails(t, h, 3, 50, d, want)
			addFails(t, h, 2, 50, d, want)
			addFails(t, h, 3, 51, d, want)
			// The peer comes first.
			addFails(t, h, 8, 50, d, api.ErrArg)
			addFails(t, h, -1, 51, d, api.ErrArg)
		}
	}
	expectSame(t, before, look(h, 4, 50, 51))
}

func TestPeersOutOfRange(t *testing.T) {
	h := New()
	ids := []uint64{0, 1, 2, 3, 4, 5, 6, 7, 9}
	for peer := range 8 {
		add(t, h, peer, uint64(peer), of(10+peer, 9))
		add(t, h, peer, 9, of(5))
	}
	before := look(h, ids...)
	for _, peer := range wrongPeers {
		addFails(t, h, peer, 10, of(1), api.ErrArg)
		addFails(t, h, peer, 9, of(5), api.ErrArg)
		addFails(t, h, peer, 0, of(10, 9), api.ErrArg)
		for _, deeds := range wrongDeeds() {
			addFails(t, h, peer, 10, deeds[0], api.ErrArg)
		}
		expect(t, h.Drop(peer), api.ErrArg)
		if weight, links, e := h.Usage(peer); weight != 0 || links != 0 || e != api.ErrArg {
			t.Errorf("Usage(%d) = %d, %d, %d", peer, weight, links, e)
		}
	}
	expectSame(t, before, look(h, ids...))
	expectGone(t, h, 10)
}

// TestPeersInRange uses one peer alone, and looks at the others.
func TestPeersInRange(t *testing.T) {
	for peer := range 8 {
		h := New()
		add(t, h, peer, 4, of(30))
		add(t, h, peer, 5, of(12))
		for other := range 8 {
			if other != peer {
				expectUsage(t, h, other, 0, 0)
				expect(t, h.Drop(other), api.OK)
			}
		}
		expectUsage(t, h, peer, 42, 2)
		expectAll(t, h, 4, 5)
		expect(t, h.Drop(peer), api.OK)
		expectUsage(t, h, peer, 0, 0)
		expectAll(t, h)
		expectGone(t, h, 4, 5)
	}
}

// TestAddTwice adds an ID again by the same peer, with the same transaction and with another one.
func TestAddTwice(t *testing.T) {
	h := New()
	first, second := of(20, 7), of(900, 8, 9)
	add(t, h, 2, 1, first)
	add(t, h, 2, 2, of(5))
	before := look(h, 1, 2, 7, 8, 9)
	for range 3 {
		addFails(t, h, 2, 1, first, api.ErrTwice)
		addFails(t, h, 2, 1, second, api.ErrTwice)
		addFails(t, h, 2, 2, second, api.ErrTwice)
		expectSame(t, before, look(h, 1, 2, 7, 8, 9))
	}
	// A link that is gone may be added again, with another transaction.
	h.Remove(1)
	add(t, h, 2, 1, second)
	expectDeed(t, h, 1, second)
	expectAll(t, h, 2, 1)
	addFails(t, h, 2, 1, first, api.ErrTwice)
	h.Drop(2)
	add(t, h, 2, 1, first)
	expectDeed(t, h, 1, first)
	expectUsages(t, h, [2]int{}, [2]int{}, [2]int{20, 1})
}

// TestAddTwiceMakesNoRoom has a pool that became too heavy by a Drop: an Add that fails changes nothing in it.
func TestAddTwiceMakesNoRoom(t *testing.T) {
	h := New()
	add(t, h, 0, 1, of(1))
	addAll(t, h, 1000, pair{1, 10}, pair{1, 11}, pair{1, 12}, pair{1, 13}, pair{1, 14})
	expect(t, h.Drop(0), api.OK)
	before := look(h, 10, 11, 12, 13, 14)
	addFails(t, h, 1, 14, of(1), api.ErrTwice)
	addFails(t, h, 1, 15, api.Deed{}, api.ErrArg)
	addFails(t, h, 8, 15, of(1), api.ErrArg)
	expectSame(t, before, look(h, 10, 11, 12, 13, 14))
	expectUsages(t, h, [2]int{}, [2]int{5000, 5})
	expectAll(t, h, 10, 11, 12, 13, 14)
}

// TestAddByAnother adds an ID again by other peers with other transactions: the first one remains, also in their usages.
func TestAddByAnother(t *testing.T) {
	h := New()
	first := api.Deed{Ins: []api.In{{ID: 7, At: 3}}, Outs: 2, Weight: 20, Fee: 4}
	add(t, h, 2, 1, first)
	for _, peer := range []int{5, 0, 7} {
		add(t, h, peer, 1, of(900+peer, 8, uint64(peer)))
		addFails(t, h, peer, 1, first, api.ErrTwice)
		expectDeed(t, h, 1, first)
		expectUsage(t, h, peer, 20, 1)
	}
	expectAll(t, h, 1)
	expectChildren(t, h, 7, 1)
	expectChildren(t, h, 8)
	// It remains when the peer that brought it is gone.
	h.Drop(2)
	expectDeed(t, h, 1, first)
	expectUsages(t, h, [2]int{20, 1}, [2]int{}, [2]int{}, [2]int{}, [2]int{}, [2]int{20, 1}, [2]int{}, [2]int{20, 1})
	// Its usage is its weight, not that of the transaction which was not kept.
	add(t, h, 7, 2, of(1000))
	add(t, h, 7, 3, of(1000))
	add(t, h, 7, 4, of(980))
	expectUsage(t, h, 7, 3000, 4)
	h.Drop(0)
	h.Drop(5)
	h.Drop(7)
	expectGone(t, h, 1, 2, 3, 4)
	add(t, h, 0, 1, of(900, 8))
	expectDeed(t, h, 1, of(900, 8))
}

// TestWeightOfOnePeer has weights at the limit and just above it.
func TestWeightOfOnePeer(t *testing.T) {
	tests := []struct {
		name    string
		weights []int
		left    []uint64
	}{
		{"below", []int{1000, 1000, 999}, []uint64{0, 1, 2}},
		{"at the limit", []int{1000, 1000, 1000}, []uint64{0, 1, 2}},
		{"at the limit with more", []int{1000, 1000, 999, 1}, []uint64{0, 1, 2, 3}},
		{"just above", []int{1000, 1000, 1000, 1}, []uint64{1, 2, 3}},
		{"just above with a light one first", []int{1, 1000, 1000, 1000}, []uint64{1, 2, 3}},
		{"above with two light ones first", []int{1, 1, 1000, 1000, 999}, []uint64{1, 2, 3, 4}},
		{"several at once", []int{1, 2, 3, 4, 1000, 1000, 999}, []uint64{4, 5, 6}},
		{"several at once, one of them heavy", []int{1, 999, 500, 1000, 500, 1000}, []uint64{2, 3, 4, 5}},
		{"again and again", []int{1000, 1000, 1000, 1000, 1000, 1000, 1000}, []uint64{4, 5, 6}},
	}
	for _, test := range tests {
		t.Run(test.name, func(t *testing.T) {
			for peer := range 8 {
				h := New()
				for i, weight := range test.weights {
					add(t, h, peer, uint64(i), of(weight))
				}
				expectAll(t, h, test.left...)
				total := 0
				for _, id := range test.left {
					total += test.weights[id]
				}
				expectUsage(t, h, peer, total, len(test.left))
			}
		})
	}
}

// TestWeightOfTwoPeers has one that uses what the other one leaves.
func TestWeightOfTwoPeers(t *testing.T) {
	for _, weight := range []int{1, 2} {
		h := New()
		add(t, h, 6, 1, of(1))
		addAll(t, h, 1000, pair{4, 10}, pair{4, 11}, pair{4, 12}, pair{4, 13}, pair{4, 14})
		add(t, h, 4, 15, of(998))
		expectAll(t, h, 1, 10, 11, 12, 13, 14, 15)
		add(t, h, 4, 16, of(weight))
		if weight == 1 {
			expectAll(t, h, 1, 10, 11, 12, 13, 14, 15, 16)
			expectUsages(t, h, [2]int{}, [2]int{}, [2]int{}, [2]int{}, [2]int{5999, 7}, [2]int{}, [2]int{1, 1})
		} else {
			expectAll(t, h, 1, 11, 12, 13, 14, 15, 16)
			expectUsages(t, h, [2]int{}, [2]int{}, [2]int{}, [2]int{}, [2]int{5000, 6}, [2]int{}, [2]int{1, 1})
		}
	}
	// The link that is added counts for the number of peers: the second one does not take from the first one.
	h := New()
	addAll(t, h, 1000, pair{0, 1}, pair{0, 2}, pair{0, 3}, pair{1, 4})
	expectAll(t, h, 1, 2, 3, 4)
	// The light peer makes the pool too heavy, the heavy one loses its oldest.
	addAll(t, h, 1000, pair{0, 5}, pair{0, 6}, pair{1, 7})
	expectAll(t, h, 2, 3, 4, 5, 6, 7)
	expectUsages(t, h, [2]int{4000, 4}, [2]int{2000, 2})
}

// TestWeightOfAllPeers has 24 transactions of weight 1000, three of each peer, which is the most of both for eight of them.
func TestWeightOfAllPeers(t *testing.T) {
	for peers := 1; peers <= 8; peers++ {
		h := New()
		var want []uint64
		for i := range 3 * peers {
			add(t, h, i%peers, uint64(i), of(1000))
			want = append(want, uint64(i))
		}
		expectAll(t, h, want...)
		for peer := range peers {
			expectUsage(t, h, peer, 3000, 3)
		}
		// One more of the last peer takes its oldest one away, since it is the worst by then.
		add(t, h, peers-1, 100, of(1))
		want = append(slices.Delete(want, peers-1, peers), 100)
		expectAll(t, h, want...)
		expectUsage(t, h, peers-1, 2001, 3)
	}
}

// TestWeightOfShared tells that the weight of a transaction counts once in the sum, and in the usage of each of its peers.
func TestWeightOfShared(t *testing.T) {
	h := New()
	for peer := range 8 {
		addAll(t, h, 1000, pair{peer, 1}, pair{peer, 2}, pair{peer, 3})
		expectUsage(t, h, peer, 3000, 3)
		expectAll(t, h, 1, 2, 3)
	}
	h = New()
	addAll(t, h, 1000, pair{0, 1}, pair{1, 1}, pair{0, 2}, pair{0, 3}, pair{0, 4}, pair{0, 5})
	expectUsages(t, h, [2]int{5000, 5}, [2]int{1000, 1})
	// 6000 for two, of which 1000 are shared.
	add(t, h, 1, 6, of(1000))
	expectAll(t, h, 1, 2, 3, 4, 5, 6)
	expectUsages(t, h, [2]int{5000, 5}, [2]int{2000, 2})
	// 6001: first the shared one loses a link, which is not enough.
	add(t, h, 1, 7, of(1))
	expectAll(t, h, 1, 3, 4, 5, 6, 7)
	expectUsages(t, h, [2]int{3000, 3}, [2]int{2001, 3})
}

// TestManyLinks has the twenty-fourth link and the next ones, of one peer and of several.
func TestManyLinks(t *testing.T) {
	for peers := 1; peers <= 8; peers++ {
		h := New()
		var want []uint64
		for i := range 24 {
			add(t, h, i%peers, uint64(i), of(1))
			want = append(want, uint64(i))
			expectAll(t, h, want...)
		}
		// Peer 0 has as many links as any other, and one more then.
		add(t, h, 0, 24, of(1))
		expectAll(t, h, append(slices.Clone(want[1:]), 24)...)
		expectUsage(t, h, 0, (24+peers-1)/peers, (24+peers-1)/peers)
		total := 0
		for peer := range 8 {
			_, links, _ := h.Usage(peer)
			total += links
		}
		if total != 24 {
			t.Errorf("%d links of %d peers", total, peers)
		}
	}
}

// TestManyLinksOfFew has links that are many although the transactions are few: links count, not transactions.
func TestManyLinksOfFew(t *testing.T) {
	h := New()
	for id := range uint64(3) {
		for peer := range 8 {
			add(t, h, peer, id, of(2))
		}
	}
	for peer := range 8 {
		expectUsage(t, h, peer, 6, 3)
	}
	expectAll(t, h, 0, 1, 2)
	add(t, h, 5, 3, of(2))
	expectAll(t, h, 0, 1, 2, 3)
	for peer := range 8 {
		expectUsage(t, h, peer, 6, 3)
	}
	// The oldest link of 5 is gone, the others are there.
	addFails(t, h, 4, 0, of(2), api.ErrTwice)
	addFails(t, h, 5, 1, of(2), api.ErrTwice)
	add(t, h, 5, 0, of(2))
	expectUsage(t, h, 5, 6, 3)
	addFails(t, h, 5, 0, of(2), api.ErrTwice)
	addFails(t, h, 5, 3, of(2), api.ErrTwice)
	add(t, h, 5, 1, of(2))
	expectUsage(t, h, 5, 6, 3)
	expectAll(t, h, 0, 1, 2, 3)
}

// TestWorstByLinks has a peer with many light links beside others.
func TestWorstByLinks(t *testing.T) {
	h := New()
	for i := range uint64(10) {
		add(t, h, 3, i, of(1))
	}
	for i := range uint64(7) {
		add(t, h, 1, 20+i, of(1))
		add(t, h, 5, 40+i, of(1))
	}
	add(t, h, 5, 50, of(1))
	expectUsages(t, h, [2]int{}, [2]int{7, 7}, [2]int{}, [2]int{9, 9}, [2]int{}, [2]int{8, 8})
	expectGone(t, h, 0)
	add(t, h, 5, 51, of(1))
	// Both have nine: 3 is lower, and stands at eight then.
	expectUsages(t, h, [2]int{}, [2]int{7, 7}, [2]int{}, [2]int{8, 8}, [2]int{}, [2]int{9, 9})
	expectGone(t, h, 1)
	add(t, h, 1, 60, of(1))
	expectUsages(t, h, [2]int{}, [2]int{8, 8}, [2]int{}, [2]int{8, 8}, [2]int{}, [2]int{8, 8})
	expectGone(t, h, 40)
	// All have eight: 5 has nine now.
	add(t, h, 5, 61, of(1))
	expectUsages(t, h, [2]int{}, [2]int{8, 8}, [2]int{}, [2]int{8, 8}, [2]int{}, [2]int{8, 8})
	expectGone(t, h, 41)
	// A new peer makes nine for nobody: the lowest one of three goes.
	add(t, h, 7, 62, of(1))
	expectUsages(t, h, [2]int{}, [2]int{7, 7}, [2]int{}, [2]int{8, 8}, [2]int{}, [2]int{8, 8}, [2]int{}, [2]int{1, 1})
	expectGone(t, h, 20)
}

// TestWorstByOwn has a peer that is worst by weight and has fewer links than another one that is worse by links but not as much.
func TestWorstByOwn(t *testing.T) {
	h := New()
	// Peer 2: 1001 of weight, 24024; peer 4: eight links, 24000; peer 6: fourteen links at first.
	addAll(t, h, 1000, pair{2, 1})
	addAll(t, h, 1, pair{2, 2})
	for i := range uint64(8) {
		add(t, h, 4, 10+i, of(1))
	}
	for i := range uint64(14) {
		add(t, h, 6, 30+i, of(1))
	}
	// 24 links. Each further one of peer 0 removes one, from 6 as long as that has more than eight links.
	for i := range uint64(6) {
		add(t, h, 0, 50+i, of(1))
		expectGone(t, h, 30+i)
	}
	expectUsages(t, h, [2]int{6, 6}, [2]int{}, [2]int{1001, 2}, [2]int{}, [2]int{8, 8}, [2]int{}, [2]int{8, 8})
	// Then 2 is the worst; without its heavy link it is not.
	add(t, h, 0, 56, of(1))
	expectGone(t, h, 1)
	expectUsages(t, h, [2]int{7, 7}, [2]int{}, [2]int{1, 1}, [2]int{}, [2]int{8, 8}, [2]int{}, [2]int{8, 8})
	// Then 0, 4 and 6 are equal, and then 4 and 6 are.
	add(t, h, 0, 57, of(1))
	expectGone(t, h, 50)
	expectUsages(t, h, [2]int{7, 7}, [2]int{}, [2]int{1, 1}, [2]int{}, [2]int{8, 8}, [2]int{}, [2]int{8, 8})
	add(t, h, 2, 58, of(1))
	expectGone(t, h, 10)
	expectUsages(t, h, [2]int{7, 7}, [2]int{}, [2]int{2, 2}, [2]int{}, [2]int{7, 7}, [2]int{}, [2]int{8, 8})
}

// TestWorstLowest has peers that take up the same, among which the lowest one loses a link, whatever the order of the links is.
func TestWorstLowest(t *testing.T) {
	for _, order := range [][]int{{1, 2, 4, 6}, {6, 4, 2, 1}, {4, 6, 1, 2}} {
		h := New()
		next := uint64(0)
		for range 6 {
			for _, peer := range order {
				add(t, h, peer, next, of(10))
				next++
			}
		}
		// 24 links, six of each. Those of 0 and 7 make one of the others less.
		for i, peer := range []int{1, 2, 4, 6} {
			add(t, h, []int{0, 7}[i%2], 100+uint64(i), of(10))
			expectUsage(t, h, peer, 50, 5)
			expectGone(t, h, uint64(slices.Index(order, peer)))
		}
		for i, peer := range []int{1, 2, 4, 6} {
			add(t, h, []int{7, 0}[i%2], 200+uint64(i), of(10))
			expectUsage(t, h, peer, 40, 4)
		}
		expectUsage(t, h, 0, 40, 4)
		expectUsage(t, h, 7, 40, 4)
		// Six peers have four: the lowest one is 0.
		add(t, h, 5, 300, of(10))
		expectUsage(t, h, 0, 30, 3)
		expectGone(t, h, 100)
	}
}

// fill adds transactions with these weights for each peer, so that all of them remain; the IDs of peer p are 100p, 100p + 1 and so on.
// The first ones of all peers come first, because each peer that has links makes room for the others.
func fill(t *testing.T, loads [8][]int) *Home {
	t.Helper()
	h := New()
	for i := range 24 {
		for peer, weights := range loads {
			if i < len(weights) {
				add(t, h, peer, uint64(100*peer+i), of(weights[i]))
			}
		}
	}
	for peer, weights := range loads {
		total := 0
		for _, weight := range weights {
			total += weight
		}
		expectUsage(t, h, peer, total, len(weights))
	}
	return h
}

// times returns n equal weights, after some others.
func times(n, weight int, before ...int) []int {
	return append(before, slices.Repeat([]int{weight}, n)...)
}

// TestWorst has full pools and what a further transaction, of ID 1000, removes from them.
// A link is as much as 125 of weight.
func TestWorst(t *testing.T) {
	tests := []struct {
		name   string
		loads  [8][]int
		peer   int
		weight int
		gone   []uint64
	}{
		{"24 links", [8][]int{0: times(11, 1), 1: times(12, 1)}, 1, 1, nil},
		{"25 links, the higher peer", [8][]int{0: times(12, 1), 1: times(12, 1)}, 1, 1, []uint64{100}},
		{"25 links, the lower peer", [8][]int{0: times(12, 1), 1: times(12, 1)}, 0, 1, []uint64{0}},
		{"25 links, another peer", [8][]int{0: times(12, 1), 1: times(12, 1)}, 2, 1, []uint64{0}},
		{"25 links, a lower peer", [8][]int{3: times(12, 1), 7: times(12, 1)}, 2, 1, []uint64{300}},
		{"25 links, equal in the end", [8][]int{3: times(13, 1), 7: times(11, 1)}, 7, 1, []uint64{300}},
		{"25 links, equal in weight alone", [8][]int{0: times(9, 1, 5), 7: times(14, 1)}, 1, 1, []uint64{700}},
		{"25 links, more weight in fewer", [8][]int{0: times(10, 100), 7: times(14, 1)}, 1, 1, []uint64{700}},
		{"25 links, few of them heavy", [8][]int{2: times(3, 1000), 4: times(21, 1)}, 5, 1, []uint64{200}},
		{"25 links, two of them heavy", [8][]int{2: times(2, 1000), 4: times(22, 1)}, 5, 1, []uint64{400}},
		{"25 links, the weight is less, lower", [8][]int{0: {1000, 1000, 374}, 1: times(19, 1), 5: {1, 1}}, 6, 1, []uint64{100}},
		{"25 links, the weight is less, higher", [8][]int{1: {1000, 1000, 374}, 0: times(19, 1), 5: {1, 1}}, 6, 1, []uint64{0}},
		{"25 links, the weight is as much, lower", [8][]int{0: {1000, 1000, 375}, 1: times(19, 1), 5: {1, 1}}, 6, 1, []uint64{0}},
		{"25 links, the weight is as much, higher", [8][]int{1: {1000, 1000, 375}, 0: times(19, 1), 5: {1, 1}}, 6, 1, []uint64{0}},
		{"25 links, the weight is more, lower", [8][]int{0: {1000, 1000, 376}, 1: times(19, 1), 5: {1, 1}}, 6, 1, []uint64{0}},
		{"25 links, the weight is more, higher", [8][]int{1: {1000, 1000, 376}, 0: times(19, 1), 5: {1, 1}}, 6, 1, []uint64{100}},
		{"25 links, the weight is as much, the ends", [8][]int{0: times(19, 1), 7: {1000, 1000, 375}, 5: {1, 1}}, 6, 1, []uint64{0}},
		{"25 links, the weight is more, the ends", [8][]int{0: times(19, 1), 7: {1000, 1000, 376}, 5: {1, 1}}, 6, 1, []uint64{700}},
		{"25 links, the added weight matters", [8][]int{0: times(19, 1), 7: {1000, 1000}, 5: {1, 1, 1}}, 7, 376, []uint64{700}},
		{"25 links, the added weight is as much", [8][]int{0: times(19, 1), 7: {1000, 1000}, 5: {1, 1, 1}}, 7, 375, []uint64{0}},
		{"25 links, the sum of both is not the measure", [8][]int{0: times(5, 1, 1000, 895), 1: times(16, 1), 5: {1}}, 5, 1, []uint64{100}},
		{"25 links of 1000", [8][]int{times(3, 1000), times(3, 1000), times(3, 1000), times(3, 1000), times(3, 1000), times(3, 1000), times(3, 1000), times(3, 1000)}, 4, 1000, []uint64{400}},
		{"a heavy link in place of a light one", [8][]int{times(3, 1000), times(3, 1000), times(3, 1000), times(3, 1000), times(3, 1000), times(3, 1000), times(3, 1000), {1, 1000, 1000}}, 7, 1000, []uint64{700}},
		{"a heavy peer in place of none", [8][]int{times(3, 1000, 997), times(4, 1000), times(4, 1000), times(3, 1000), times(3, 1000), times(3, 1000), nil, {1, 1, 1}}, 6, 1000, []uint64{100}},

		{"3000 of one", [8][]int{5: {1000, 1000, 999}}, 5, 1, nil},
		{"3001 of one", [8][]int{5: {1000, 1000, 1000}}, 5, 1, []uint64{500}},
		{"3001 of one, and another", [8][]int{5: {1000, 1000, 1000}}, 0, 1, nil},
		{"6000 of two", [8][]int{0: {1000, 1000, 1000}, 1: {1000, 1000, 999}}, 1, 1, nil},
		{"6001 of two, the higher one", [8][]int{0: {1000, 1000, 1000}, 1: {1000, 1000, 1000}}, 1, 1, []uint64{100}},
		{"6001 of two, the lower one", [8][]int{0: {1000, 1000, 1000}, 1: {1000, 1000, 1000}}, 0, 1, []uint64{0}},
		{"6001 of two, one of them light", [8][]int{0: {1}, 1: times(5, 1000, 999)}, 0, 1, []uint64{100}},
		{"9001 of three, two equal", [8][]int{0: times(4, 1000), 1: times(4, 1000), 2: {1000}}, 2, 1, []uint64{0}},
		{"9001 of three, the higher one is heavier", [8][]int{0: times(3, 1000, 999), 1: times(4, 1000), 2: {1000}}, 2, 2, []uint64{100}},
		{"13000 of four, three equal in the end", [8][]int{3: times(4, 1000), 5: times(4, 1000), 6: times(3, 1000), 7: {1000}}, 6, 1000, []uint64{300}},
		{"too heavy, many links of the other", [8][]int{0: times(17, 1), 1: times(5, 1000, 983)}, 1, 1, []uint64{100}},
		{"two light ones for a heavy one", [8][]int{4: {1, 1, 1000, 1000, 998}}, 4, 2, []uint64{400, 401}},
		{"three light ones for a heavy one", [8][]int{4: {1, 1, 1, 1000, 1000, 997}}, 4, 3, []uint64{400, 401, 402}},
		{"a light one and a heavy one of the same peer", [8][]int{4: {1, 1000, 1000, 1000}, 6: {1, 1000, 1000, 998}}, 4, 2, []uint64{400, 401}},
		{"one after the other", [8][]int{2: {1, 1000, 1000, 1000}, 6: {2, 1000, 1000, 997}}, 6, 3, []uint64{200, 600}},
		{"one after the other, then equal", [8][]int{2: {1, 1000, 1000, 1000}, 6: {1, 1000, 1000, 998}}, 6, 3, []uint64{200, 600, 601}},
		{"both a link too many and too heavy", [8][]int{2: times(4, 1000, 1), 3: {1, 1000, 1000, 1000, 1000, 985}, 4: times(13, 1)}, 2, 2, []uint64{300, 301}},
	}
	for _, test := range tests {
		t.Run(test.name, func(t *testing.T) {
			h := fill(t, test.loads)
			want := h.All()
			for _, id := range test.gone {
				want = slices.DeleteFunc(want, func(other uint64) bool { return other == id })
			}
			add(t, h, test.peer, 1000, of(test.weight))
			expectAll(t, h, append(want, 1000)...)
			expectGone(t, h, test.gone...)
			test.loads[test.peer] = append(slices.Clone(test.loads[test.peer]), test.weight)
			for peer, weights := range test.loads {
				total, links := 0, len(weights)
				for i, weight := range weights {
					if slices.Contains(test.gone, uint64(100*peer+i)) {
						links--
					} else {
						total += weight
					}
				}
				expectUsage(t, h, peer, total, links)
			}
		})
	}
}

// TestRemovesSharedLinks has an Add that removes three links of two peers: shared transactions lose a link and weigh as much as before.
func TestRemovesSharedLinks(t *testing.T) {
	h := New()
	for _, id := range []uint64{1, 2, 3, 4, 5, 6} {
		addAll(t, h, 1000, pair{0, id}, pair{1, id})
	}
	expectUsages(t, h, [2]int{6000, 6}, [2]int{6000, 6})
	// 7000: first 0 has most, then both have as much, then 1 has more.
	add(t, h, 0, 7, of(1000))
	expectUsages(t, h, [2]int{5000, 5}, [2]int{5000, 5})
	expectGone(t, h, 1)
	// The oldest links are (1, 2), (0, 3), (1, 3), (0, 4) and so on.
	expectAll(t, h, 2, 3, 4, 5, 6, 7)
	expect(t, h.Drop(1), api.OK)
	expectAll(t, h, 3, 4, 5, 6, 7)
}

// TestRemovesUntilLight has a pool that became too heavy by a Drop, and one by a Remove: the next Add removes what is too much.
func TestRemovesUntilLight(t *testing.T) {
	for name, shrink := range map[string]func(h *Home){
		"Drop":   func(h *Home) { h.Drop(0) },
		"Remove": func(h *Home) { h.Remove(1) },
	} {
		t.Run(name, func(t *testing.T) {
			for peer := range 3 {
				h := New()
				add(t, h, 0, 1, of(1))
				addAll(t, h, 1000, pair{1, 10}, pair{1, 11}, pair{1, 12}, pair{1, 13}, pair{1, 14})
				shrink(h)
				expectAll(t, h, 10, 11, 12, 13, 14)
				expectUsages(t, h, [2]int{}, [2]int{5000, 5})
				add(t, h, peer, 15, of(1))
				if peer == 1 {
					// 5001 for one.
					expectAll(t, h, 13, 14, 15)
					expectUsages(t, h, [2]int{}, [2]int{2001, 3})
				} else {
					// 5001 for two.
					expectAll(t, h, 10, 11, 12, 13, 14, 15)
					expectUsage(t, h, 1, 5000, 5)
					expectUsage(t, h, peer, 1, 1)
				}
			}
		})
	}
}

// TestRemovesPeer has an Add that takes the only link of another peer.
func TestRemovesPeer(t *testing.T) {
	h := New()
	// Peer 0 has one heavy link, the seven others have 23 light ones, no more than four each.
	add(t, h, 0, 1, of(1000))
	for i := range 23 {
		add(t, h, 1+i%7, uint64(10+i), of(1))
	}
	add(t, h, 7, 50, of(1))
	expectGone(t, h, 1)
	expectUsages(t, h, [2]int{}, [2]int{4, 4}, [2]int{4, 4}, [2]int{3, 3}, [2]int{3, 3}, [2]int{3, 3}, [2]int{3, 3}, [2]int{4, 4})
}

// light returns a pool in which all peers but one have 24 light links, four at most each; their IDs begin at 100.
func light(t *testing.T, but int) *Home {
	t.Helper()
	h := New()
	peer := 0
	for i := range uint64(24) {
		for peer%8 == but {
			peer++
		}
		add(t, h, peer%8, 100+i, of(1))
		peer++
	}
	expectUsage(t, h, but, 0, 0)
	return h
}

// TestOwnDoesNotRemain adds a heavy transaction as the only one of a peer to a pool of 24 light links: four links are as much as 500 of weight.
func TestOwnDoesNotRemain(t *testing.T) {
	for peer := range 8 {
		for _, weight := range []int{1, 499, 500, 501, 1000} {
			h := light(t, peer)
			before := look(h, 100, 101, 102, 123, 9, 7)
			is, e := h.Add(peer, 9, of(weight, 7))
			// With 500, the lowest peer is the worst: there are three others with four links, the lowest of which is 0, or 1.
			stays := weight < 500 || weight == 500 && peer != 0
			if is != stays || e != api.OK {
				t.Errorf("Add(%d, 9) of weight %d = %v, %d", peer, weight, is, e)
			}
			if stays {
				expectUsage(t, h, peer, weight, 1)
				expectChildren(t, h, 7, 9)
				expectGone(t, h, 100)
				continue
			}
			expectSame(t, before, look(h, 100, 101, 102, 123, 9, 7))
			expectGone(t, h, 9)
			// There is no link of it, so that it may be added again, and by another one with more success.
			if is, e := h.Add(peer, 9, of(weight, 7)); is || e != api.OK {
				t.Errorf("Add again = %v, %d", is, e)
			}
			expectSame(t, before, look(h, 100, 101, 102, 123, 9, 7))
			add(t, h, peer, 9, of(1, 7))
			expectUsage(t, h, peer, 1, 1)
		}
	}
}

// TestOwnLinkDoesNotRemain adds a transaction that another peer has too: it is contained although the new link is not.
func TestOwnLinkDoesNotRemain(t *testing.T) {
	h := New()
	add(t, h, 7, 9, of(1000))
	for i := range 23 {
		add(t, h, 1+i%6, uint64(100+i), of(1))
	}
	before := look(h, 9, 100, 101, 122)
	for range 3 {
		// Both peers take up the same, and 0 is the lower one.
		add(t, h, 0, 9, of(1))
		expectSame(t, before, look(h, 9, 100, 101, 122))
		expectUsage(t, h, 0, 0, 0)
		expectUsage(t, h, 7, 1000, 1)
	}
	// The other way round the older link goes, and the transaction remains with the younger one.
	h = New()
	add(t, h, 0, 9, of(1000))
	for i := range 23 {
		add(t, h, 1+i%6, uint64(100+i), of(1))
	}
	add(t, h, 7, 9, of(1))
	expectUsage(t, h, 0, 0, 0)
	expectUsage(t, h, 7, 1000, 1)
	want := []uint64{}
	for i := range uint64(23) {
		want = append(want, 100+i)
	}
	expectAll(t, h, append(want, 9)...)
	expectDeed(t, h, 9, of(1000))
}

// TestTwoLinks has a transaction with two links, and others around them, that loses the older one, the younger one or both.
func TestTwoLinks(t *testing.T) {
	tests := []struct {
		name  string
		drops []int
		all   []uint64
	}{
		{"none", nil, []uint64{1, 5, 2, 3}},
		{"the older one", []int{1}, []uint64{1, 2, 5, 3}},
		{"the younger one", []int{3}, []uint64{1, 5, 2, 3}},
		{"both, the older one first", []int{1, 3}, []uint64{1, 2, 3}},
		{"both, the younger one first", []int{3, 1}, []uint64{1, 2, 3}},
		{"the one between", []int{2}, []uint64{1, 5, 3}},
		{"all but the younger one", []int{0, 1, 2, 4}, []uint64{5}},
		{"all but the older one", []int{0, 2, 3, 4}, []uint64{5}},
	}
	for _, test := range tests {
		t.Run(test.name, func(t *testing.T) {
			h := New()
			spender := of(10, 70, 71)
			add(t, h, 0, 1, of(1, 70))
			add(t, h, 1, 5, spender)
			add(t, h, 2, 2, of(2, 70, 71))
			add(t, h, 3, 5, of(99, 72))
			add(t, h, 4, 3, of(3, 71))
			want := [][2]int{{1, 1}, {10, 1}, {2, 1}, {10, 1}, {3, 1}}
			for _, peer := range test.drops {
				expect(t, h.Drop(peer), api.OK)
				want[peer] = [2]int{}
			}
			expectUsages(t, h, want...)
			expectAll(t, h, test.all...)
			expectChildren(t, h, 70, slices.DeleteFunc(slices.Clone(test.all), func(id uint64) bool { return id == 3 })...)
			expectChildren(t, h, 71, slices.DeleteFunc(slices.Clone(test.all), func(id uint64) bool { return id == 1 })...)
			expectChildren(t, h, 72)
			if slices.Contains(test.all, 5) {
				expectDeed(t, h, 5, spender)
			} else {
				expectGone(t, h, 5)
			}
		})
	}
}

// TestTwoLinksByAdd is the same with links that Add removes: peer 3 takes up most and loses its oldest link.
func TestTwoLinksByAdd(t *testing.T) {
	for _, olderIsWorst := range []bool{true, false} {
		h := New()
		peers := []int{3, 6}
		if !olderIsWorst {
			peers = []int{6, 3}
		}
		add(t, h, peers[0], 5, of(10, 70))
		add(t, h, 0, 1, of(10, 70))
		add(t, h, peers[1], 5, of(11, 71))
		for i := range uint64(21) {
			add(t, h, 3, 100+i, of(1, 70))
		}
		expectUsage(t, h, 3, 31, 22)
		expectUsage(t, h, 6, 10, 1)
		add(t, h, 1, 200, of(1))
		expectUsage(t, h, 3, 21, 21)
		expectUsage(t, h, 6, 10, 1)
		expectDeed(t, h, 5, of(10, 70))
		first := []uint64{5, 1}
		if olderIsWorst {
			first = []uint64{1, 5}
		}
		if all := h.All(); !slices.Equal(all[:2], first) {
			t.Errorf("All() = %d, want %d first", all, first)
		}
		if children := h.Children(70); !slices.Equal(children[:2], first) || len(children) != 23 {
			t.Errorf("Children(70) = %d, want %d first", children, first)
		}
		// The other link is the last one.
		expect(t, h.Drop(6), api.OK)
		expectGone(t, h, 5)
		expectUsage(t, h, 3, 21, 21)
	}
}

// TestBothLinksByAdd has a transaction that loses both links in one Add.
func TestBothLinksByAdd(t *testing.T) {
	h := New()
	addAll(t, h, 1, pair{0, 1}, pair{1, 1})
	addAll(t, h, 1000, pair{0, 10}, pair{1, 20}, pair{0, 11}, pair{1, 21}, pair{0, 12}, pair{1, 22})
	// 6001 with the last one, 3001 of each: 0 is lower and loses its link first, which changes no sum, and then 1 loses the other.
	expectGone(t, h, 1)
	expectAll(t, h, 10, 20, 11, 21, 12, 22)
	expectUsages(t, h, [2]int{3000, 3}, [2]int{3000, 3})
	addAll(t, h, 1000, pair{0, 30})
	expectAll(t, h, 20, 11, 21, 12, 22, 30)
}

// TestOrder has IDs that are neither increasing nor decreasing, and that come back at the end.
func TestOrder(t *testing.T) {
	ids := []uint64{70, 3, math.MaxUint64, 0, 1 << 63, 12, 1, 69, 2, 1 << 32, 11, 71, 5, 4, 90, 80, 6, 85, 10, 9}
	h := New()
	var odd []uint64
	for i, id := range ids {
		if i%2 == 0 {
			add(t, h, i*3%8, id, of(1, 500))
		} else {
			add(t, h, i*3%8, id, of(1, 501, 500))
			odd = append(odd, id)
		}
		expectAll(t, h, ids[:i+1]...)
		expectChildren(t, h, 500, ids[:i+1]...)
		expectChildren(t, h, 501, odd...)
	}
	// A second link changes no order.
	add(t, h, 1, 70, of(1))
	add(t, h, 1, 12, of(1))
	expectAll(t, h, ids...)
	// One that comes back is the last.
	h.Remove(3)
	add(t, h, 1, 3, of(1, 500))
	want := append(append([]uint64{70}, ids[2:]...), 3)
	expectAll(t, h, want...)
	expectChildren(t, h, 500, want...)
	expectChildren(t, h, 501, odd[1:]...)
}

// TestOrderOfLinks writes links out and removes the oldest link of one transaction after the other.
func TestOrderOfLinks(t *testing.T) {
	h := New()
	for _, l := range []pair{{0, 1}, {1, 2}, {2, 3}, {2, 2}, {3, 1}, {1, 3}, {3, 4}, {4, 2}, {4, 1}} {
		add(t, h, l.peer, l.id, of(1, 9))
	}
	steps := []struct {
		drop int
		all  []uint64
	}{
		{5, []uint64{1, 2, 3, 4}},
		{0, []uint64{2, 3, 1, 4}}, // left: (1, 2) (2, 3) (2, 2) (3, 1) (1, 3) (3, 4) (4, 2) (4, 1)
		{1, []uint64{3, 2, 1, 4}}, // left: (2, 3) (2, 2) (3, 1) (3, 4) (4, 2) (4, 1)
		{2, []uint64{1, 4, 2}},    // left: (3, 1) (3, 4) (4, 2) (4, 1)
		{3, []uint64{2, 1}},       // left: (4, 2) (4, 1)
		{4, nil},
	}
	for _, step := range steps {
		expect(t, h.Drop(step.drop), api.OK)
		expectAll(t, h, step.all...)
		expectChildren(t, h, 9, step.all...)
	}
}

// TestChildren has transactions that spend several outputs of one ID, several IDs, none, and outputs of themselves.
func TestChildren(t *testing.T) {
	h := New()
	add(t, h, 0, 1, api.Deed{Ins: []api.In{{ID: 50, At: 0}, {ID: 50, At: 1}, {ID: 50, At: 15}}, Outs: 1, Weight: 1})
	add(t, h, 0, 2, of(1))
	add(t, h, 1, 3, api.Deed{Ins: []api.In{{ID: 51, At: 2}, {ID: 50, At: 7}, {ID: 51, At: 3}}, Outs: 1, Weight: 1})
	add(t, h, 1, 4, of(1, 1, 3, 2, 60, 61, 62, 63, 50))
	add(t, h, 2, 5, of(1, 5))
	add(t, h, 2, 6, of(1, 0, math.MaxUint64))
	expectChildren(t, h, 50, 1, 3, 4)
	expectChildren(t, h, 51, 3)
	expectChildren(t, h, 1, 4)
	expectChildren(t, h, 2, 4)
	expectChildren(t, h, 3, 4)
	expectChildren(t, h, 4)
	expectChildren(t, h, 5, 5)
	expectChildren(t, h, 0, 6)
	expectChildren(t, h, math.MaxUint64, 6)
	for id := uint64(60); id < 64; id++ {
		expectChildren(t, h, id, 4)
	}
	// An index is no ID, and an ID of the pool is not spent because it is there.
	expectChildren(t, h, 7)
	expectChildren(t, h, 15)
	expectChildren(t, h, 6)
	expectChildren(t, h, math.MaxUint64-1)
	// A transaction that is not there any more has Children, and is none.
	h.Remove(1)
	expectChildren(t, h, 1, 4)
	expectChildren(t, h, 50, 3, 4)
	h.Drop(1)
	expectChildren(t, h, 1)
	expectChildren(t, h, 50)
	// A second link does not make it a child twice.
	for peer := range 8 {
		add(t, h, peer, 7, of(1, 50))
	}
	expectChildren(t, h, 50, 7)
}

// TestRemove has IDs with no link, with one and with several.
func TestRemove(t *testing.T) {
	h := New()
	add(t, h, 0, 1, of(10, 9))
	add(t, h, 0, 2, of(20, 9))
	add(t, h, 1, 2, of(21))
	add(t, h, 1, 3, of(30, 9))
	for peer := range 8 {
		add(t, h, peer, 4, of(40, 9))
	}
	steps := []struct {
		id     uint64
		was    bool
		all    []uint64
		usages [3][2]int // of the peers 0 and 1, and of the others
	}{
		{5, false, []uint64{1, 2, 3, 4}, [3][2]int{{70, 3}, {90, 3}, {40, 1}}},
		{9, false, []uint64{1, 2, 3, 4}, [3][2]int{{70, 3}, {90, 3}, {40, 1}}},
		{2, true, []uint64{1, 3, 4}, [3][2]int{{50, 2}, {70, 2}, {40, 1}}},
		{2, false, []uint64{1, 3, 4}, [3][2]int{{50, 2}, {70, 2}, {40, 1}}},
		{4, true, []uint64{1, 3}, [3][2]int{{10, 1}, {30, 1}, {0, 0}}},
		{4, false, []uint64{1, 3}, [3][2]int{{10, 1}, {30, 1}, {0, 0}}},
		{1, true, []uint64{3}, [3][2]int{{0, 0}, {30, 1}, {0, 0}}},
		{3, true, nil, [3][2]int{}},
		{3, false, nil, [3][2]int{}},
	}
	for _, step := range steps {
		if was := h.Remove(step.id); was != step.was {
			t.Errorf("Remove(%d) = %v", step.id, was)
		}
		expectGone(t, h, step.id)
		expectAll(t, h, step.all...)
		expectChildren(t, h, 9, step.all...)
		for peer := range 8 {
			u := step.usages[min(peer, 2)]
			expectUsage(t, h, peer, u[0], u[1])
		}
	}
}

// TestRemoveMakesPlace removes links of a pool that has as many as it may.
func TestRemoveMakesPlace(t *testing.T) {
	h := New()
	for i := range uint64(24) {
		add(t, h, int(i%8), i/2, of(1))
	}
	if all := h.All(); len(all) != 12 {
		t.Errorf("All() = %d", all)
	}
	h.Remove(0)
	add(t, h, 0, 100, of(1))
	add(t, h, 0, 101, of(1))
	expectAll(t, h, 1, 2, 3, 4, 5, 6, 7, 8, 9, 10, 11, 100, 101)
	// The next one is too much: the link of 4 goes, which has another one, and then that of 8.
	add(t, h, 0, 102, of(1))
	expectUsage(t, h, 0, 4, 4)
	addFails(t, h, 0, 8, of(1), api.ErrTwice)
	add(t, h, 0, 4, of(1))
	expectUsage(t, h, 0, 4, 4)
}

// TestDrop has peers with no link, with one and with several, some of them shared.
func TestDrop(t *testing.T) {
	h := New()
	for _, l := range []pair{{0, 1}, {1, 2}, {2, 3}, {2, 1}, {2, 4}, {3, 4}, {3, 3}, {4, 5}, {4, 6}, {6, 2}} {
		add(t, h, l.peer, l.id, of(int(l.id), 9))
	}
	steps := []struct {
		peer   int
		all    []uint64
		usages [][2]int
	}{
		{5, []uint64{1, 2, 3, 4, 5, 6}, [][2]int{{1, 1}, {2, 1}, {8, 3}, {7, 2}, {11, 2}, {}, {2, 1}}},
		{7, []uint64{1, 2, 3, 4, 5, 6}, [][2]int{{1, 1}, {2, 1}, {8, 3}, {7, 2}, {11, 2}, {}, {2, 1}}},
		{1, []uint64{1, 3, 4, 5, 6, 2}, [][2]int{{1, 1}, {}, {8, 3}, {7, 2}, {11, 2}, {}, {2, 1}}},
		{4, []uint64{1, 3, 4, 2}, [][2]int{{1, 1}, {}, {8, 3}, {7, 2}, {}, {}, {2, 1}}},
		{2, []uint64{1, 4, 3, 2}, [][2]int{{1, 1}, {}, {}, {7, 2}, {}, {}, {2, 1}}},
		{2, []uint64{1, 4, 3, 2}, [][2]int{{1, 1}, {}, {}, {7, 2}, {}, {}, {2, 1}}},
		{0, []uint64{4, 3, 2}, [][2]int{{}, {}, {}, {7, 2}, {}, {}, {2, 1}}},
		{6, []uint64{4, 3}, [][2]int{{}, {}, {}, {7, 2}}},
		{3, nil, nil},
	}
	for _, step := range steps {
		expect(t, h.Drop(step.peer), api.OK)
		expectUsages(t, h, step.usages...)
		expectAll(t, h, step.all...)
		expectChildren(t, h, 9, step.all...)
		for id := range uint64(8) {
			if !slices.Contains(step.all, id) {
				expectGone(t, h, id)
			}
		}
	}
}

// TestDropMakesNoRoom tells that only Add removes what is too much: a peer that leaves takes its own links alone.
func TestDropMakesNoRoom(t *testing.T) {
	h := fill(t, [8][]int{{1}, {1}, {1}, times(11, 1000)})
	for peer := range 3 {
		expect(t, h.Drop(peer), api.OK)
		expectUsage(t, h, 3, 11000, 11)
	}
	h.Remove(300)
	expectUsages(t, h, [2]int{}, [2]int{}, [2]int{}, [2]int{10000, 10})
}

// TestUsage follows two peers through all calls.
func TestUsage(t *testing.T) {
	h := New()
	add(t, h, 1, 4, of(100))
	expectUsages(t, h, [2]int{}, [2]int{100, 1})
	add(t, h, 1, 5, of(1000))
	expectUsages(t, h, [2]int{}, [2]int{1100, 2})
	add(t, h, 0, 5, of(1))
	expectUsages(t, h, [2]int{1000, 1}, [2]int{1100, 2})
	addFails(t, h, 0, 5, of(1), api.ErrTwice)
	addFails(t, h, 0, 6, of(0), api.ErrArg)
	expectUsages(t, h, [2]int{1000, 1}, [2]int{1100, 2})
	h.Remove(5)
	expectUsages(t, h, [2]int{}, [2]int{100, 1})
	add(t, h, 0, 5, of(1))
	add(t, h, 1, 5, of(1000))
	expectUsages(t, h, [2]int{1, 1}, [2]int{101, 2})
	h.Drop(0)
	expectUsages(t, h, [2]int{}, [2]int{101, 2})
	h.Drop(1)
	expectUsages(t, h)
}

// modelLink is a link of a model, with the transaction of its ID.
type modelLink struct {
	peer int
	id   uint64
	deed api.Deed
}

// model is a pool that keeps one list of links and no transactions beside them, by the words of P12 and P13.
type model struct {
	links []modelLink
	// How many links the last Add removed.
	removed int
}

// find returns the oldest link of an ID.
func (m *model) find(id uint64) (modelLink, bool) {
	for _, l := range m.links {
		if l.id == id {
			return l, true
		}
	}
	return modelLink{}, false
}

// add has only transactions that are right, or have a Weight out of range.
func (m *model) add(peer int, id uint64, d api.Deed) (bool, api.Errno) {
	if peer < 0 || peer > 7 || d.Weight < 1 || d.Weight > 1000 {
		return false, api.ErrArg
	}
	for _, l := range m.links {
		if l.peer == peer && l.id == id {
			return false, api.ErrTwice
		}
	}
	if l, ok := m.find(id); ok {
		d = l.deed
	}
	m.links = append(m.links, modelLink{peer, id, d})
	for m.removed = 0; m.tooMuch(); m.removed++ {
		worst, most := -1, -1
		for peer := range 8 {
			weight, links := m.usage(peer)
			if links > 0 && weight*24 > most {
				worst, most = peer, weight*24
			}
			if links*3000 > most {
				worst, most = peer, links*3000
			}
		}
		for i, l := range m.links {
			if l.peer == worst {
				m.links = append(m.links[:i:i], m.links[i+1:]...)
				break
			}
		}
	}
	_, is := m.find(id)
	return is, api.OK
}

func (m *model) tooMuch() bool {
	weights, peers := map[uint64]int{}, map[int]bool{}
	for _, l := range m.links {
		weights[l.id] = l.deed.Weight
		peers[l.peer] = true
	}
	total := 0
	for _, weight := range weights {
		total += weight
	}
	return total > 3000*len(peers) || len(m.links) > 24
}

func (m *model) usage(peer int) (weight, links int) {
	for _, l := range m.links {
		if l.peer == peer {
			weight += l.deed.Weight
			links++
		}
	}
	return weight, links
}

func (m *model) remove(id uint64) bool {
	_, is := m.find(id)
	m.links = slices.DeleteFunc(m.links, func(l modelLink) bool { return l.id == id })
	return is
}

func (m *model) drop(peer int) api.Errno {
	if peer < 0 || peer > 7 {
		return api.ErrArg
	}
	m.links = slices.DeleteFunc(m.links, func(l modelLink) bool { return l.peer == peer })
	return api.OK
}

// children returns the IDs of the transactions that spend an output of parent, or all IDs if it is not given.
func (m *model) children(parent ...uint64) []uint64 {
	var ids []uint64
	seen := map[uint64]bool{}
	for _, l := range m.links {
		is := len(parent) == 0
		for _, in := range l.deed.Ins {
			is = is || in.ID == parent[0]
			if is {
				break
			}
		}
		if is && !seen[l.id] {
			ids = append(ids, l.id)
		}
		seen[l.id] = true
	}
	return ids
}

// compare checks all that can be seen of a pool, of the IDs from 0 to before top.
func (m *model) compare(t *testing.T, h *Home, top uint64) {
	t.Helper()
	if got, want := h.All(), m.children(); !slices.Equal(got, want) {
		t.Errorf("All() = %d, want %d", got, want)
	}
	for peer := range 8 {
		weight, links := m.usage(peer)
		expectUsage(t, h, peer, weight, links)
	}
	for id := range top {
		if l, ok := m.find(id); ok {
			expectDeed(t, h, id, l.deed)
		} else {
			expectGone(t, h, id)
		}
		expectChildren(t, h, id, m.children(id)...)
	}
}

// draw returns a transaction that spends outputs of IDs below top; few weights make ties and sums at the limits frequent.
func draw(top uint64, number func(n int) int) api.Deed {
	d := api.Deed{Outs: 1 + number(16), Fee: number(1001)}
	switch number(8) {
	case 0:
		d.Weight = number(1002)
	case 1, 2:
		d.Weight = 125 * (1 + number(8))
	case 3:
		d.Weight = 1
	default:
		d.Weight = 1000
	}
	for i := range number(4) {
		// The indices make the Ins different, whatever their IDs are.
		d.Ins = append(d.Ins, api.In{ID: uint64(number(int(top))), At: i * 5})
	}
	return d
}

// act does the same thing to a pool and to its model, with peers below peers (or 8) and IDs below top; number draws a number below another one.
func (m *model) act(t *testing.T, h *Home, peers int, top uint64, number func(n int) int) {
	t.Helper()
	peer, id := number(peers), uint64(number(int(top)))
	if number(20) == 0 {
		peer = 8
	}
	switch number(24) {
	case 0:
		if got, want := h.Remove(id), m.remove(id); got != want {
			t.Errorf("Remove(%d) = %v, want %v", id, got, want)
		}
	case 1:
		expect(t, h.Drop(peer), m.drop(peer))
	default:
		d := draw(top, number)
		is, e := h.Add(peer, id, d)
		if want, err := m.add(peer, id, d); is != want || e != err {
			t.Errorf("Add(%d, %d, %v) = %v, %d, want %v, %d", peer, id, d, is, e, want, err)
		}
	}
}

// TestAgainstModel has few IDs, which have several links each, and more of them than links.
func TestAgainstModel(t *testing.T) {
	random := rand.New(rand.NewSource(5))
	removed := map[int]int{}
	for _, top := range []uint64{1, 3, 5, 8, 12, 20, 40} {
		for round := range 24 {
			h, m := New(), &model{}
			peers := 1 + round%8
			for range 100 {
				m.removed = 0
				m.act(t, h, peers, top, random.Intn)
				m.compare(t, h, top+1)
				removed[m.removed]++
				if t.Failed() {
					t.Fatalf("peers below %d, IDs below %d", peers, top)
				}
			}
		}
	}
	for n := range 4 {
		if removed[n] < 20 {
			t.Errorf("only %d times %d links were removed", removed[n], n)
		}
	}
}

// TestAgainstModelLight has pools with many light links, and one peer with heavy ones, which may not remain.
func TestAgainstModelLight(t *testing.T) {
	random := rand.New(rand.NewSource(6))
	refused := 0
	for round := range 16 {
		h, m := New(), &model{}
		for range 200 {
			peer, id, d := random.Intn(8), uint64(random.Intn(40)), of(1+random.Intn(4), uint64(random.Intn(40)))
			if peer == round%8 {
				d.Weight = 375 + 125*random.Intn(6)
			}
			is, e := h.Add(peer, id, d)
			if want, err := m.add(peer, id, d); is != want || e != err {
				t.Fatalf("Add(%d, %d, %v) = %v, %d, want %v, %d", peer, id, d, is, e, want, err)
			}
			if e == api.OK && !is {
				refused++
			}
			if random.Intn(40) == 0 {
				expect(t, h.Drop(peer), m.drop(peer))
			}
			m.compare(t, h, 41)
		}
	}
	if refused < 20 {
		t.Errorf("only %d transactions did not remain", refused)
	}
}

// FuzzHome takes the bytes as numbers that choose what is done.
func FuzzHome(f *testing.F) {
	f.Add([]byte{})
	f.Add([]byte{0, 1, 2, 3, 4, 7, 1, 1, 0, 1, 2, 3, 4, 7, 0})
	f.Add(slices.Repeat([]byte{3, 1, 9, 4, 1, 7, 1, 2, 5, 8, 2, 250}, 20))
	f.Fuzz(func(t *testing.T, b []byte) {
		number := func(n int) int {
			if len(b) == 0 {
				return 0
			}
			c := int(b[0]) % n
			b = b[1:]
			return c
		}
		h, m := New(), &model{}
		for len(b) > 0 {
			m.act(t, h, 8, 9, number)
			m.compare(t, h, 10)
		}
	})
}

// TestTwoPools uses pools in turn.
func TestTwoPools(t *testing.T) {
	random := rand.New(rand.NewSource(7))
	for range 10 {
		a, b := New(), New()
		if a == b {
			t.Fatal("New returned a pool twice")
		}
		modelA, modelB := &model{}, &model{}
		for range 100 {
			modelA.act(t, a, 3, 9, random.Intn)
			modelB.act(t, b, 3, 9, random.Intn)
			modelA.compare(t, a, 10)
			modelB.compare(t, b, 10)
		}
	}
	// The same is added to both, and removed from one.
	a, b := New(), New()
	add(t, a, 1, 5, of(10, 6))
	add(t, b, 1, 5, of(20, 7))
	expectDeed(t, a, 5, of(10, 6))
	a.Remove(5)
	expectGone(t, a, 5)
	expectDeed(t, b, 5, of(20, 7))
	add(t, a, 2, 5, of(30))
	b.Drop(1)
	expectGone(t, b, 5)
	expectDeed(t, a, 5, of(30))
}

// TestArgumentsAreNotChanged passes Ins with more capacity, of transactions that are kept, that are there already and that are wrong.
func TestArgumentsAreNotChanged(t *testing.T) {
	h := New()
	memory := make([]api.In, 12)
	for i := range memory {
		memory[i] = api.In{ID: uint64(40 - i), At: i}
	}
	for i, n := range []int{3, 3, 0, 8, 9} {
		d := api.Deed{Ins: memory[:n], Outs: 1, Weight: 10}
		h.Add(i%2, 1, d)
		h.Add(i%2, uint64(2+i), d)
		h.Deed(1)
		h.Children(40)
		for j, in := range memory {
			if (in != api.In{ID: uint64(40 - j), At: j}) {
				t.Errorf("with %d Ins: In %d is %v", n, j, in)
			}
		}
		if len(d.Ins) != n || d.Outs != 1 || d.Weight != 10 {
			t.Errorf("changed to %v", d)
		}
	}
}

// TestArgumentsAreNotKept changes transactions, up to the capacity of their Ins, after they were passed.
func TestArgumentsAreNotKept(t *testing.T) {
	for n := range 9 {
		memory := make([]api.In, 12)
		for i := range memory {
			memory[i] = api.In{ID: uint64(40 + i), At: i}
		}
		d := api.Deed{Ins: memory[:n], Outs: 2, Weight: 10, Fee: 3}
		want := api.Deed{Ins: append([]api.In{}, memory[:n]...), Outs: 2, Weight: 10, Fee: 3}
		h := New()
		add(t, h, 0, 1, d)
		add(t, h, 1, 2, d)
		for i := range memory {
			memory[i] = api.In{ID: 90, At: 99}
		}
		d.Outs, d.Weight, d.Fee = 7, 7, 7
		expectDeed(t, h, 1, want)
		expectDeed(t, h, 2, want)
		expectChildren(t, h, 90)
		for i := range n {
			expectChildren(t, h, uint64(40+i), 1, 2)
		}
		expectUsages(t, h, [2]int{10, 1}, [2]int{10, 1})
	}
}

// scribble changes a slice up to its capacity.
func scribble[T any](s []T, value T) {
	s = s[:cap(s)]
	for i := range s {
		s[i] = value
	}
}

// TestResultsAreOwn changes what a pool returned, up to the capacity, which changes nothing in it and in other results.
func TestResultsAreOwn(t *testing.T) {
	h := New()
	ids := []uint64{0, 1, 2, 3, 4, 5, 6, 7, 8}
	for _, id := range ids {
		add(t, h, int(id%3), id, of(10, 50, 51, 52))
		add(t, h, 3, id, of(10))
	}
	before := look(h, append(slices.Clone(ids), 50, 51, 52, 99)...)
	for range 3 {
		all, children := h.All(), h.Children(50)
		d, _ := h.Deed(4)
		allAgain, childrenAgain := h.All(), h.Children(50)
		e, _ := h.Deed(4)
		scribble(all, 99)
		scribble(children, 99)
		scribble(d.Ins, api.In{ID: 99, At: 9})
		if !slices.Equal(allAgain, ids) || !slices.Equal(childrenAgain, ids) || !same(e, of(10, 50, 51, 52)) {
			t.Errorf("results share memory: %d, %d, %v", allAgain, childrenAgain, e)
		}
		expectSame(t, before, look(h, append(slices.Clone(ids), 50, 51, 52, 99)...))
	}
	// A result stays as it is while the pool changes.
	all, children := h.All(), h.Children(50)
	d, _ := h.Deed(0)
	h.Remove(0)
	h.Drop(3)
	h.Drop(1)
	add(t, h, 1, 70, of(1, 71))
	add(t, h, 1, 0, of(2, 72, 73, 74))
	if !slices.Equal(all, ids) || !slices.Equal(children, ids) || !same(d, of(10, 50, 51, 52)) {
		t.Errorf("results changed: %d, %d, %v", all, children, d)
	}
}

// TestDeedPassedOn adds what Deed returned, to the same pool and to another one, and changes it then.
func TestDeedPassedOn(t *testing.T) {
	a, b := New(), New()
	add(t, a, 0, 1, of(10, 50, 51))
	d, _ := a.Deed(1)
	add(t, a, 0, 2, d)
	add(t, b, 0, 1, d)
	scribble(d.Ins, api.In{ID: 99, At: 9})
	for _, h := range []*Home{a, b} {
		expectDeed(t, h, 1, of(10, 50, 51))
		expectChildren(t, h, 99)
	}
	expectDeed(t, a, 2, of(10, 50, 51))
}

// TestLookingChangesNothing looks often at a pool between the things that are done to it.
func TestLookingChangesNothing(t *testing.T) {
	random := rand.New(rand.NewSource(8))
	h, m := New(), &model{}
	for range 500 {
		for range 3 {
			look(h, 0, 1, 2, 3, 4, 5, 6, 7, 8, 9, 10)
		}
		m.act(t, h, 8, 9, random.Intn)
		m.compare(t, h, 10)
	}
}

// TestZeroHome has a pool that New did not make: P1 says that no call panics, and it is an empty one.
func TestZeroHome(t *testing.T) {
	calls := []func(h *Home){
		func(h *Home) { h.Add(0, 1, of(1)) },
		func(h *Home) { h.Add(8, 1, of(1)) },
		func(h *Home) { h.Has(1) },
		func(h *Home) { h.Deed(1) },
		func(h *Home) { h.Children(1) },
		func(h *Home) { h.Remove(1) },
		func(h *Home) { h.Drop(0) },
		func(h *Home) { h.Usage(0) },
		func(h *Home) { h.All() },
	}
	random := rand.New(rand.NewSource(9))
	for _, call := range calls {
		var h Home
		call(&h)
		h.Remove(1)
		m := &model{}
		m.compare(t, &h, 10)
		for range 50 {
			m.act(t, &h, 8, 9, random.Intn)
			m.compare(t, &h, 10)
		}
	}
}

// TestStateIsBounded looks into a pool: it keeps its links and transactions, and nothing of those that were removed.
func TestStateIsBounded(t *testing.T) {
	h := New()
	for i := range 3000 {
		id := uint64(i)
		h.Add(i%8, id, of(1+i%1000, id))
		h.Add(i%5, id, of(1))
		switch i % 16 {
		case 3:
			h.Remove(id)
		case 7:
			h.Drop(i % 8)
		}
		if len(h.links) > 24 || cap(h.links) > 64 || len(h.deeds) != len(h.All()) || len(h.deeds) > 24 {
			t.Fatalf("%d links, capacity %d, %d transactions after %d", len(h.links), cap(h.links), len(h.deeds), i)
		}
	}
	for peer := range 8 {
		h.Drop(peer)
	}
	if len(h.links) != 0 || len(h.deeds) != 0 {
		t.Errorf("%d links and %d transactions are left", len(h.links), len(h.deeds))
	}
}

// TestSeparateGoroutines uses one pool per goroutine, all at once, for the race detector.
func TestSeparateGoroutines(t *testing.T) {
	var all sync.WaitGroup
	for seed := range int64(8) {
		h, m := New(), &model{}
		random := rand.New(rand.NewSource(seed))
		all.Go(func() {
			for range 100 {
				m.act(t, h, 8, 9, random.Intn)
				m.compare(t, h, 10)
			}
		})
	}
	all.Wait()
}
