package play

import (
	"fmt"
	"math"
	"slices"
	"strings"
	"testing"
	"unsafe"

	"charterhouse/api"
	"charterhouse/deed"
	"charterhouse/msg"
	"charterhouse/node"
	"charterhouse/sum"
)

// step is an act of a script, and what the document requires of it.
type step struct {
	act  api.Act
	err  api.Errno
	outs []api.Out
}

// joining, leaving, sending and waiting return acts.
func joining(peer int, preferred bool) api.Act {
	return api.Act{Kind: 1, Peer: peer, Preferred: preferred}
}

func leaving(peer int) api.Act {
	return api.Act{Kind: 2, Peer: peer}
}

func sending(peer int, s string) api.Act {
	return api.Act{Kind: 3, Peer: peer, Bytes: s}
}

func waiting(k int) api.Act {
	return api.Act{Kind: 4, N: k}
}

// free returns a transaction without Ins that is Good; different weights make different ones.
func free(weight int) api.Deed {
	return api.Deed{Outs: 16, Weight: weight, Fee: 100}
}

// spending returns a transaction that spends an output of another one, and is Good if there is such an output.
func spending(d api.Deed, at int) api.Deed {
	return api.Deed{Ins: []api.In{{ID: idOf(d), At: at}}, Outs: 3, Weight: 10, Fee: 1}
}

// idOf returns the ID of a transaction without errors.
func idOf(d api.Deed) uint64 {
	id, e := deed.ID(d)
	if e != api.OK {
		panic("a test has a wrong transaction")
	}
	return id
}

// encode returns the bytes of a message without errors.
func encode(m api.Msg) string {
	s, e := msg.Encode(m)
	if e != api.OK {
		panic("a test has a wrong message")
	}
	return s
}

// bringing returns the bytes of a message that brings a transaction.
func bringing(d api.Deed) string {
	s, e := deed.Encode(d)
	if e != api.OK {
		panic("a test has a wrong transaction")
	}
	return encode(api.Msg{Kind: api.Bring, Body: s})
}

// listing returns the bytes of a message with IDs.
func listing(kind int, ids ...uint64) string {
	return encode(api.Msg{Kind: kind, IDs: ids})
}

// to returns messages that are sent to a peer.
func to(peer int, messages ...string) []api.Out {
	var outs []api.Out
	for _, s := range messages {
		outs = append(outs, api.Out{Peer: peer, Bytes: s})
	}
	return outs
}

// asks returns the request that is sent to a peer.
func asks(peer int, ids ...uint64) []api.Out {
	return to(peer, listing(api.Fetch, ids...))
}

// check runs a script, and checks all results.
func check(t *testing.T, salt uint64, steps []step, accepted ...uint64) {
	t.Helper()
	var acts []api.Act
	var outs []api.Out
	var errs []api.Errno
	for _, s := range steps {
		acts = append(acts, s.act)
		outs = append(outs, s.outs...)
		errs = append(errs, s.err)
	}
	if got, want := result(salt, acts), show(outs, errs, accepted, api.OK); got != want {
		t.Errorf("%s, want %s", got, want)
	}
}

// show returns results of Run as readable text.
func show(outs []api.Out, errs []api.Errno, ids []uint64, e api.Errno) string {
	var sent []string
	for _, o := range outs {
		sent = append(sent, fmt.Sprintf("to %d: %q", o.Peer, o.Bytes))
	}
	return fmt.Sprintf("sent %s, errors %d, accepted %d, error %d", sent, errs, ids, e)
}

// result is all that Run returns, as text.
func result(salt uint64, acts []api.Act) string {
	return show(Run(salt, acts))
}

// TestExample has the example of the chapter: a script without actions sends nothing.
func TestExample(t *testing.T) {
	for _, acts := range [][]api.Act{nil, {}, make([]api.Act, 0, 9), make([]api.Act, 100)[:0]} {
		for _, salt := range []uint64{0, 1, math.MaxUint64} {
			outs, errs, ids, e := Run(salt, acts)
			if len(outs) != 0 || len(errs) != 0 || len(ids) != 0 || e != api.OK {
				t.Error(show(outs, errs, ids, e))
			}
		}
	}
}

// TestBytes has a script whose messages are written out.
func TestBytes(t *testing.T) {
	body := "D\x00\x01\x00\x0a\x00\x01"
	id := sum.Of(body)
	var bytes []byte
	for shift := 56; shift >= 0; shift -= 8 {
		bytes = append(bytes, byte(id>>shift))
	}
	seven := "\x00\x00\x00\x00\x00\x00\x00\x07"
	check(t, 1, []step{
		{act: api.Act{Kind: 1, Peer: 6, Preferred: true}},
		{act: api.Act{Kind: 3, Peer: 6, Bytes: "\x01\x02" + seven + string(bytes)}},
		{act: api.Act{Kind: 4, N: 0}, outs: []api.Out{{Peer: 6, Bytes: "\x02\x02" + seven + string(bytes)}}},
		{act: api.Act{Kind: 3, Peer: 6, Bytes: "\x03" + body}},
		{act: api.Act{Kind: 3, Peer: 6, Bytes: "\x02\x02" + seven + string(bytes)}, outs: []api.Out{
			{Peer: 6, Bytes: "\x03" + body}, {Peer: 6, Bytes: "\x04\x01" + seven},
		}},
		{act: api.Act{Kind: 2, Peer: 6}},
		{act: api.Act{Kind: 3, Peer: 6, Bytes: "\x02\x01" + seven}, err: 5},
	}, id)
}

// TestJoin has peers at both ends of the range and beyond, there already or not, preferred or not.
func TestJoin(t *testing.T) {
	check(t, 1, []step{
		{act: joining(0, false)},
		{act: joining(7, true)},
		{act: joining(-1, true), err: api.ErrArg},
		{act: joining(8, true), err: api.ErrArg},
		{act: joining(math.MinInt, false), err: api.ErrArg},
		{act: joining(math.MaxInt, false), err: api.ErrArg},
		{act: joining(0, true), err: api.ErrTwice},
		{act: joining(7, false), err: api.ErrTwice},
		{act: sending(0, listing(api.Announce, 5))},
		{act: sending(7, listing(api.Announce, 6))},
		{act: waiting(0), outs: asks(7, 6)},
		{act: waiting(2)},
		{act: waiting(1), outs: asks(0, 5)},
	})
}

// TestLeave has peers that are there, that are not, and that cannot be; one that comes again begins anew.
func TestLeave(t *testing.T) {
	check(t, 1, []step{
		{act: leaving(3), err: api.ErrNone},
		{act: joining(3, true)},
		{act: joining(4, true)},
		{act: sending(3, listing(api.Announce, 5))},
		{act: sending(4, listing(api.Announce, 6))},
		{act: leaving(-1), err: api.ErrArg},
		{act: leaving(8), err: api.ErrArg},
		{act: leaving(math.MinInt), err: api.ErrArg},
		{act: leaving(math.MaxInt), err: api.ErrArg},
		{act: leaving(0), err: api.ErrNone},
		{act: leaving(3)},
		{act: leaving(3), err: api.ErrNone},
		{act: sending(3, listing(api.Announce, 7)), err: api.ErrNone},
		{act: waiting(5), outs: asks(4, 6)},
		{act: joining(3, false)},
		{act: sending(3, listing(api.Announce, 7))},
		{act: waiting(0)},
		{act: waiting(3), outs: asks(3, 7)},
	})
}

// TestSend has each kind of message, and messages with each error.
func TestSend(t *testing.T) {
	base := free(10)
	child, lost := spending(base, 2), spending(free(11), 0)
	check(t, 1, []step{
		{act: sending(1, bringing(base)), err: api.ErrNone},
		{act: sending(1, ""), err: api.ErrNone},
		{act: joining(1, true)},
		{act: sending(1, ""), err: api.ErrShort},
		{act: sending(1, "\x01"), err: api.ErrShort},
		{act: sending(1, "\x00"), err: api.ErrArg},
		{act: sending(1, "\x05\x00"), err: api.ErrArg},
		{act: sending(-1, ""), err: api.ErrArg},
		{act: sending(8, bringing(base)), err: api.ErrArg},
		{act: sending(math.MinInt, bringing(base)), err: api.ErrArg},
		{act: sending(math.MaxInt, bringing(base)), err: api.ErrArg},
		{act: sending(0, bringing(base)), err: api.ErrNone},
		{act: sending(1, listing(api.Announce, 5)+"x"), err: api.ErrForm},
		{act: sending(1, "\x01\x02"+strings.Repeat("x", 16)), err: api.ErrTwice},
		{act: sending(1, "\x01\x15"+strings.Repeat("x", 8*21)), err: api.ErrLarge},
		{act: sending(1, "\x03x"), err: api.ErrForm},
		{act: sending(1, "\x03"+strings.Repeat("D", 101)), err: api.ErrLarge},
		{act: waiting(0)},
		{act: sending(1, listing(api.Announce, 9, 5, 7))},
		{act: sending(1, listing(api.Missing, 5, 8))},
		{act: sending(1, bringing(lost))},
		{act: sending(1, bringing(child))},
		{act: sending(1, listing(api.Fetch, idOf(child))), outs: to(1, listing(api.Missing, idOf(child)))},
		{act: waiting(0), outs: asks(1, 9, 7, idOf(free(11)), idOf(base))},
		{act: sending(1, bringing(base))},
		{act: sending(1, listing(api.Fetch, 4, idOf(child), 3, idOf(base), idOf(lost))), outs: to(1,
			bringing(child), bringing(base), listing(api.Missing, 4, 3, idOf(lost)),
		)},
	}, idOf(base), idOf(child))
}

// TestWait has times at both ends of the range and beyond.
func TestWait(t *testing.T) {
	check(t, 1, []step{
		{act: joining(2, false)},
		{act: sending(2, listing(api.Announce, 5))},
		{act: waiting(-1), err: api.ErrArg},
		{act: waiting(math.MinInt), err: api.ErrArg},
		{act: waiting(math.MaxInt), err: api.ErrArg},
		{act: waiting(1<<40 + 1), err: api.ErrArg},
		{act: waiting(0)},
		{act: waiting(3), outs: asks(2, 5)},
		{act: waiting(-3), err: api.ErrArg},
		{act: waiting(1 << 40), err: api.ErrArg},
		{act: waiting(1<<40 - 2), err: api.ErrArg},
		{act: waiting(1<<40 - 3)},
		{act: waiting(1), err: api.ErrArg},
		{act: sending(2, listing(api.Announce, 6))},
		{act: waiting(0), outs: asks(2, 6)},
	})
}

// TestOutsOfOneAct has acts that send several messages, to one peer or to several, in order.
func TestOutsOfOneAct(t *testing.T) {
	var steps []step
	var deeds []api.Deed
	var ids []uint64
	for peer := range 8 {
		deeds = append(deeds, free(20-peer))
		ids = append(ids, idOf(deeds[peer]))
		steps = append(steps,
			step{act: joining(7-peer, true)},
			step{act: sending(7-peer, listing(api.Announce, uint64(107-peer), uint64(207-peer)))},
			step{act: sending(7-peer, bringing(deeds[peer]))},
		)
	}
	var requests, answers []api.Out
	for peer := range uint64(8) {
		requests = append(requests, asks(int(peer), 100+peer, 200+peer)...)
	}
	for i := 7; i >= 0; i-- {
		answers = append(answers, to(4, bringing(deeds[i]))...)
	}
	reversed := slices.Clone(ids)
	slices.Reverse(reversed)
	steps = append(steps,
		step{act: waiting(0), outs: requests},
		step{act: sending(4, listing(api.Fetch, append(reversed, 1)...)), outs: append(answers, to(4, listing(api.Missing, 1))...)},
		step{act: sending(5, listing(api.Fetch, ids[3], ids[2])), outs: to(5, bringing(deeds[3]), bringing(deeds[2]))},
	)
	check(t, 1, steps, ids...)
}

// unknownKinds are next to the kinds, at the ends of int, and equal to kinds in their lowest bits.
var unknownKinds = []int{
	0, 5, 6, 7, 8, 9, 60, -1, -2, -3, -4, -5, 255, 256, 257, 258, 259, 260, 1<<16 + 3, -255, -253,
	1<<32 + 1, 1<<32 + 2, 1<<32 + 3, 1<<32 + 4, 1 << 62, 1<<62 + 1,
	math.MinInt, math.MinInt + 1, math.MinInt + 2, math.MinInt + 3, math.MinInt + 4, math.MaxInt, math.MaxInt - 1, math.MaxInt - 3,
}

// TestUnknownKinds has them between others, with fields that would be right for each kind: they change nothing.
func TestUnknownKinds(t *testing.T) {
	good, other := free(10), free(20)
	for _, kind := range unknownKinds {
		acts := []api.Act{
			{Kind: kind}, {Kind: kind, Peer: 2, Preferred: true, N: 2, Bytes: bringing(other)}, {Kind: kind, Peer: 1, N: 3, Bytes: bringing(other)},
			{Kind: kind, Peer: -1, N: -1, Bytes: "x"}, {Kind: kind, Peer: 1, N: 20, Bytes: listing(api.Fetch, idOf(good))},
		}
		steps := []step{{act: acts[0], err: api.ErrArg}}
		for _, s := range []step{
			{act: joining(1, false)},
			{act: sending(2, bringing(good)), err: api.ErrNone},
			{act: sending(1, listing(api.Announce, 5))},
			{act: sending(1, bringing(good))},
			{act: waiting(2)},
			{act: waiting(1), outs: asks(1, 5)},
			{act: leaving(2), err: api.ErrNone},
			{act: leaving(1)},
		} {
			steps = append(steps, s)
			for _, a := range acts {
				steps = append(steps, step{act: a, err: api.ErrArg})
			}
		}
		check(t, 1, steps, idOf(good))
	}
}

// TestErrorsOnly has scripts of which each action has an error.
func TestErrorsOnly(t *testing.T) {
	check(t, 1, []step{{act: api.Act{}, err: api.ErrArg}})
	check(t, 1, []step{{act: leaving(0), err: api.ErrNone}})
	check(t, 1, []step{
		{act: sending(0, "x"), err: api.ErrNone},
		{act: waiting(-1), err: api.ErrArg},
		{act: leaving(0), err: api.ErrNone},
		{act: joining(8, true), err: api.ErrArg},
		{act: api.Act{Kind: 5}, err: api.ErrArg},
	})
}

// TestOtherFields has acts with fields that are not of their kind: these do not count.
func TestOtherFields(t *testing.T) {
	good := free(10)
	check(t, 1, []step{
		{act: api.Act{Kind: 1, Peer: 1, N: 7, Bytes: "x"}},
		{act: api.Act{Kind: 1, Peer: 2, N: -1, Preferred: true, Bytes: bringing(good)}},
		{act: api.Act{Kind: 3, Peer: 1, N: -1, Preferred: true, Bytes: listing(api.Announce, 5)}},
		{act: api.Act{Kind: 3, Peer: 2, N: 100, Bytes: listing(api.Announce, 6)}},
		{act: api.Act{Kind: 4, Peer: 1, N: 0, Preferred: true, Bytes: bringing(good)}, outs: asks(2, 6)},
		{act: api.Act{Kind: 4, Peer: -1, N: 3, Bytes: "x"}, outs: asks(1, 5)},
		{act: api.Act{Kind: 3, Peer: 2, N: math.MinInt, Bytes: bringing(good)}},
		{act: api.Act{Kind: 2, Peer: 1, N: math.MaxInt, Preferred: true, Bytes: bringing(free(11))}},
		{act: api.Act{Kind: 2, Peer: 2, N: -1, Bytes: "x"}},
		{act: api.Act{Kind: 4, Peer: math.MaxInt, N: 10}},
	}, idOf(good))
}

// bringMany returns a script of n acts, of which all but the first bring a transaction, and the IDs; after 500, they come again.
func bringMany(n int) ([]api.Act, []uint64) {
	acts := []api.Act{joining(3, false)}
	var ids []uint64
	for i := range n - 1 {
		d := free(1 + i%500)
		acts = append(acts, sending(3, bringing(d)))
		ids = append(ids, idOf(d))
	}
	return acts, ids
}

// TestManyActs has as many actions as there may be, and one less.
func TestManyActs(t *testing.T) {
	for _, n := range []int{1, 2, 59, 60} {
		acts, ids := bringMany(n)
		outs, errs, accepted, e := Run(1, acts)
		if len(outs) != 0 || !slices.Equal(errs, make([]api.Errno, n)) || !slices.Equal(accepted, ids) || e != api.OK {
			t.Errorf("%d acts: %s", n, show(outs, errs, accepted, e))
		}
	}
	steps := []step{{act: joining(0, true)}}
	for len(steps) < 60 {
		steps = append(steps, step{act: sending(0, listing(api.Fetch, 5)), outs: to(0, listing(api.Missing, 5))})
	}
	check(t, 1, steps)
}

// TestTooManyActs has one more, and many more, whatever they are.
func TestTooManyActs(t *testing.T) {
	for _, n := range []int{61, 62, 64, 100, 120, 256, 256 + 60, 1<<16 + 1, 1<<16 + 60} {
		right, _ := bringMany(n)
		for _, acts := range [][]api.Act{right, make([]api.Act, n), slices.Repeat([]api.Act{leaving(9)}, n)} {
			outs, errs, ids, e := Run(1, acts)
			if outs != nil || errs != nil || ids != nil || e != api.ErrLarge {
				t.Errorf("%d acts: %s", n, show(outs, errs, ids, e))
			}
		}
	}
}

// TestSpareCapacity has few actions in a slice that has room for many more.
func TestSpareCapacity(t *testing.T) {
	acts, ids := bringMany(200)
	if _, errs, accepted, e := Run(1, acts[:5]); !slices.Equal(errs, make([]api.Errno, 5)) || !slices.Equal(accepted, ids[:4]) || e != api.OK {
		t.Errorf("%d, %d, %d", errs, accepted, e)
	}
}

// TestSalt has an ID that two peers announce: the salt decides which of them is asked.
func TestSalt(t *testing.T) {
	asked := map[int]int{}
	salts := []uint64{1 << 32, 1 << 63, math.MaxUint64}
	for salt := range uint64(30) {
		salts = append(salts, salt)
	}
	for _, salt := range salts {
		first := 0
		if sum.Mix(salt, 1, 5) > sum.Mix(salt, 0, 5) {
			first = 1
		}
		asked[first]++
		check(t, salt, []step{
			{act: joining(0, true)},
			{act: joining(1, true)},
			{act: sending(0, listing(api.Announce, 5))},
			{act: sending(1, listing(api.Announce, 5))},
			{act: waiting(0), outs: asks(first, 5)},
			{act: waiting(10), outs: asks(1-first, 5)},
		})
	}
	if asked[0] < 3 || asked[1] < 3 {
		t.Errorf("asked %v", asked)
	}
}

// busy returns a script that has something of everything.
func busy() []api.Act {
	base := free(10)
	return []api.Act{
		joining(0, true), joining(1, false), waiting(1), sending(0, listing(api.Announce, 5, 6, 7)),
		sending(1, listing(api.Announce, 6, 8)), {Kind: 9}, sending(1, bringing(spending(base, 1))), waiting(2),
		sending(0, bringing(base)), sending(0, bringing(free(20))), sending(1, listing(api.Fetch, 3, idOf(base), idOf(free(20)))),
		waiting(-1), sending(2, ""), sending(0, bringing(spending(base, 1))), waiting(11), leaving(0), leaving(0), waiting(10),
		sending(1, bringing(spending(free(5), 1))), sending(1, listing(api.Fetch, idOf(spending(base, 1)), 9)),
	}
}

// TestTwice runs scripts again, also after others: nothing is left of the first time.
func TestTwice(t *testing.T) {
	many, _ := bringMany(60)
	for _, salt := range []uint64{0, 1, 99} {
		first := result(salt, busy())
		if !strings.Contains(first, "errors [0 0 0 0 0 1 0 0 0 0 0 1 5 0 0 0 5 0 0 0]") {
			t.Errorf("the busy script has other errors: %s", first)
		}
		Run(salt, many)
		Run(salt+1, busy()[:9])
		Run(salt, make([]api.Act, 61))
		if again := result(salt, busy()); again != first {
			t.Errorf("%s, then %s", first, again)
		}
	}
}

// TestParts runs each beginning of a script: what it returns is a beginning of what the whole script returns.
func TestParts(t *testing.T) {
	acts := busy()
	outs, errs, ids, _ := Run(1, acts)
	for n := range len(acts) {
		o, es, is, e := Run(1, acts[:n])
		if len(es) != n || len(o) > len(outs) || len(is) > len(ids) || e != api.OK {
			t.Fatalf("%d acts: %s", n, show(o, es, is, e))
		}
		if !slices.Equal(o, outs[:len(o)]) || !slices.Equal(es, errs[:n]) || !slices.Equal(is, ids[:len(is)]) {
			t.Errorf("%d acts: %s", n, show(o, es, is, e))
		}
	}
}

// scribble changes a slice up to its capacity.
func scribble[T any](s []T, value T) {
	s = s[:cap(s)]
	for i := range s {
		s[i] = value
	}
}

// TestArgumentsAreKept checks that Run changes no act, nor the capacity behind them.
func TestArgumentsAreKept(t *testing.T) {
	spare := []api.Act{{Kind: 3, Peer: 1, N: 4, Preferred: true, Bytes: "spare"}, {Kind: 9}}
	for _, acts := range [][]api.Act{busy(), {}, {{Kind: 0}}, make([]api.Act, 61), slices.Repeat(busy(), 3)} {
		all := append(slices.Clone(acts), spare...)
		before := slices.Clone(all)
		first := result(1, all[:len(acts)])
		if !slices.Equal(all, before) {
			t.Errorf("acts changed from %#v to %#v", before, all)
		}
		// What is behind them is not read either.
		scribble(all[len(acts):], api.Act{Kind: 1, Peer: 5})
		if again := result(1, all[:len(acts)]); again != first {
			t.Errorf("%s, then %s", first, again)
		}
	}
}

// TestResultsAreOwn changes results up to their capacity, and arguments after the call: nothing else changes.
func TestResultsAreOwn(t *testing.T) {
	acts := busy()
	want := result(1, busy())
	outs, errs, ids, _ := Run(1, acts)
	outsAgain, errsAgain, idsAgain, e := Run(1, acts)
	scribble(outs, api.Out{Peer: 99, Bytes: "x"})
	scribble(errs, 99)
	scribble(ids, 99)
	if got := show(outsAgain, errsAgain, idsAgain, e); got != want {
		t.Errorf("results share memory: %s, want %s", got, want)
	}
	if !slices.Equal(acts, busy()) {
		t.Errorf("results share memory with arguments: %#v", acts)
	}
	if got := result(1, acts); got != want {
		t.Errorf("%s, want %s", got, want)
	}
	scribble(acts, api.Act{})
	if got := show(outsAgain, errsAgain, idsAgain, e); got != want {
		t.Errorf("results share memory with arguments: %s, want %s", got, want)
	}
}

// TestTextIsOwn checks that no message that is sent shares the bytes of a message that was passed, or of another one.
func TestTextIsOwn(t *testing.T) {
	acts := append(busy(), sending(1, listing(api.Fetch, idOf(free(10)), idOf(free(20)))))
	var texts []string
	for _, a := range acts {
		texts = append(texts, a.Bytes)
	}
	outs, _, _, _ := Run(1, acts)
	for _, o := range outs {
		for _, s := range texts {
			if overlap(o.Bytes, s) {
				t.Errorf("%q shares memory with %q", o.Bytes, s)
			}
		}
		texts = append(texts, o.Bytes)
	}
}

// overlap reports whether two strings have bytes in common, in memory.
func overlap(a, b string) bool {
	start := func(s string) uintptr { return uintptr(unsafe.Pointer(unsafe.StringData(s))) }
	return len(a) > 0 && len(b) > 0 && start(a) < start(b)+uintptr(len(b)) && start(b) < start(a)+uintptr(len(a))
}

// direct does to a node what Run has to do.
func direct(salt uint64, acts []api.Act) ([]api.Out, []api.Errno, []uint64, api.Errno) {
	n := node.New(salt)
	var outs []api.Out
	var errs []api.Errno
	for _, a := range acts {
		var sent []api.Out
		e := api.ErrArg
		switch a.Kind {
		case 1:
			e = n.Join(a.Peer, a.Preferred)
		case 2:
			e = n.Leave(a.Peer)
		case 3:
			sent, e = n.Send(a.Peer, a.Bytes)
		case 4:
			sent, e = n.Wait(a.N)
		}
		outs = append(outs, sent...)
		errs = append(errs, e)
	}
	return outs, errs, n.Accepted(), api.OK
}

// draw returns a script of up to most acts, which are often right, about few transactions and IDs.
func draw(number func(n int) int, most int) []api.Act {
	deeds := []api.Deed{free(10), {Outs: 2, Weight: 100, Fee: 3}}
	for range 8 {
		d := spending(deeds[number(len(deeds))], number(4))
		d.Fee = []int{0, 1, 1, 20}[number(4)]
		deeds = append(deeds, d)
	}
	var acts []api.Act
	for range number(most + 1) {
		a := api.Act{Kind: []int{1, 1, 2, 3, 3, 3, 3, 3, 3, 4, 4, 4, 9}[number(13)], Peer: number(4)}
		a.Preferred = number(2) == 0
		a.N = []int{0, 1, 3, 10, 11, -1, 1 << 40}[number(7)]
		ids := []uint64{idOf(deeds[number(len(deeds))]), uint64(number(5))}
		switch number(5) {
		case 0:
			a.Bytes = listing([]int{api.Announce, api.Fetch, api.Missing}[number(3)], ids...)
		case 1:
			a.Bytes = "\x01\x01"[:number(3)]
		default:
			a.Bytes = bringing(deeds[number(len(deeds))])
		}
		if number(20) == 0 {
			a.Kind, a.Peer = number(12)-6, number(12)-2
		}
		acts = append(acts, a)
	}
	return acts
}

// checkDirect compares a script with what a node does.
func checkDirect(t *testing.T, salt uint64, acts []api.Act) {
	t.Helper()
	want := show(direct(salt, acts))
	if len(acts) > 60 {
		want = show(nil, nil, nil, api.ErrLarge)
	}
	if got := result(salt, acts); got != want {
		t.Errorf("%#v: %s, want %s", acts, got, want)
	}
}

// FuzzRun takes the bytes as numbers that choose a script.
func FuzzRun(f *testing.F) {
	f.Add(uint64(0), []byte{})
	f.Add(uint64(7), slices.Repeat([]byte{3, 1, 9, 4, 1, 7, 1, 2, 5, 8, 2, 250}, 30))
	f.Add(uint64(1)<<63, slices.Repeat([]byte{60, 255, 6, 5, 2, 77, 1, 4, 31}, 60))
	f.Fuzz(func(t *testing.T, salt uint64, b []byte) {
		number := func(n int) int {
			if len(b) == 0 {
				return 0
			}
			c := int(b[0]) % n
			b = b[1:]
			return c
		}
		checkDirect(t, salt, draw(number, 62))
	})
}
