package node

import (
	"math/rand"
	"slices"
	"sync"
	"testing"

	"charterhouse/api"
	"charterhouse/deed"
	"charterhouse/msg"
	"charterhouse/sum"
)

// The states of the entries of a model.
const (
	modelWaiting = iota
	modelReady
	modelRequested
	modelDone
)

// model is a node that keeps everything in lists, and uses none of the packages with a state.
type model struct {
	salt             uint64
	now              int
	there, preferred [8]bool
	entries          []modelEntry
	links            []modelLink
	ledger           []modelDeed
	wicked, poor     modelFilter
	// How often each thing happened.
	seen map[string]int
}

type modelEntry struct {
	peer      int
	id        uint64
	preferred bool
	state     int
	until     int
}

// modelLink has the transaction itself: all links of an ID have the same one.
type modelLink struct {
	peer int
	modelDeed
}

type modelDeed struct {
	id uint64
	d  api.Deed
}

// modelFilter has all that was put, and how much of that each generation has.
type modelFilter struct {
	size              int
	ids               []uint64
	previous, current int
}

// modelOut is a message to a peer, not encoded.
type modelOut struct {
	peer int
	m    api.Msg
}

func newModel(salt uint64) *model {
	return &model{salt: salt, wicked: modelFilter{size: 50}, poor: modelFilter{size: 20}, seen: map[string]int{}}
}

func (f *modelFilter) put(id uint64) {
	if slices.Contains(f.ids[len(f.ids)-f.current:], id) {
		return
	}
	if f.current == f.size {
		f.previous, f.current = f.current, 0
	}
	f.ids = append(f.ids, id)
	f.current++
}

func (f *modelFilter) has(id uint64) bool {
	return slices.Contains(f.ids[len(f.ids)-f.current-f.previous:], id)
}

func (m *model) join(peer int, preferred bool) api.Errno {
	if peer < 0 || peer > 7 {
		return api.ErrArg
	}
	if m.there[peer] {
		return api.ErrTwice
	}
	m.there[peer], m.preferred[peer] = true, preferred
	return api.OK
}

func (m *model) leave(peer int) api.Errno {
	if peer < 0 || peer > 7 {
		return api.ErrArg
	}
	if !m.there[peer] {
		return api.ErrNone
	}
	m.there[peer] = false
	m.entries = slices.DeleteFunc(m.entries, func(e modelEntry) bool { return e.peer == peer })
	m.clean()
	m.links = slices.DeleteFunc(m.links, func(l modelLink) bool { return l.peer == peer })
	return api.OK
}

// clean removes the entries of IDs that are done for all peers.
func (m *model) clean() {
	open := map[uint64]bool{}
	for _, e := range m.entries {
		open[e.id] = open[e.id] || e.state != modelDone
	}
	m.entries = slices.DeleteFunc(m.entries, func(e modelEntry) bool { return !open[e.id] })
}

func (m *model) forget(id uint64) {
	m.entries = slices.DeleteFunc(m.entries, func(e modelEntry) bool { return e.id == id })
}

func (m *model) counts(peer int) (entries, requested int) {
	for _, e := range m.entries {
		if e.peer == peer {
			entries++
			if e.state == modelRequested {
				requested++
			}
		}
	}
	return entries, requested
}

func (m *model) announce(peer int, id uint64, at int) {
	for _, e := range m.entries {
		if e.peer == peer && e.id == id {
			m.seen["announced again"]++
			return
		}
	}
	if count, _ := m.counts(peer); count == 20 {
		m.seen["too many entries"]++
		return
	}
	m.entries = append(m.entries, modelEntry{peer, id, m.preferred[peer], modelWaiting, at})
}

func (m *model) answer(peer int, id uint64) {
	for i, e := range m.entries {
		if e.peer == peer && e.id == id {
			m.entries[i].state = modelDone
		}
	}
	m.clean()
}

func (m *model) wait(k int) ([]modelOut, api.Errno) {
	if k < 0 || m.now+k > api.MaxTime || m.now+k < m.now {
		return nil, api.ErrArg
	}
	m.now += k
	for i, e := range m.entries {
		if e.until <= m.now && e.state == modelWaiting {
			m.entries[i].state = modelReady
		}
		if e.until <= m.now && e.state == modelRequested {
			m.entries[i].state = modelDone
			m.seen["not answered"]++
		}
	}
	m.clean()
	var outs []modelOut
	for peer := range 8 {
		var ids []uint64
		for i, e := range m.entries {
			if _, requested := m.counts(peer); e.peer == peer && m.isBest(e) && requested < 4 {
				m.entries[i].state, m.entries[i].until = modelRequested, min(m.now+10, api.MaxTime)
				ids = append(ids, e.id)
			}
		}
		if ids != nil {
			outs = append(outs, modelOut{peer, api.Msg{Kind: api.Fetch, IDs: ids}})
		}
	}
	return outs, api.OK
}

// isBest reports whether an entry is ready, and no other one of its ID is requested or better.
func (m *model) isBest(e modelEntry) bool {
	for _, other := range m.entries {
		if other.id != e.id {
			continue
		}
		if other.state == modelRequested || other.state == modelReady && m.isBetter(other, e) {
			return false
		}
	}
	return e.state == modelReady
}

func (m *model) isBetter(a, b modelEntry) bool {
	if a.preferred != b.preferred {
		return a.preferred
	}
	return sum.Mix(m.salt, uint64(a.peer), a.id) > sum.Mix(m.salt, uint64(b.peer), b.id)
}

func (m *model) send(peer int, s string) ([]modelOut, api.Errno) {
	if peer < 0 || peer > 7 {
		return nil, api.ErrArg
	}
	if !m.there[peer] {
		return nil, api.ErrNone
	}
	message, e := msg.Decode(s)
	if e != api.OK {
		return nil, e
	}
	if message.Kind == api.Bring {
		d, e := deed.Decode(message.Body)
		if e == api.OK {
			m.bring(peer, modelDeed{idOf(d), d})
		}
		return nil, e
	}
	var brought, missing []modelOut
	for _, id := range message.IDs {
		has := slices.IndexFunc(m.ledger, func(k modelDeed) bool { return k.id == id })
		switch {
		case message.Kind == api.Missing:
			m.answer(peer, id)
		case message.Kind == api.Announce:
			if has < 0 && !m.wicked.has(id) && !m.poor.has(id) && !slices.Contains(m.orphans(), id) {
				m.announce(peer, id, m.waitUntil(peer))
			}
		case has >= 0:
			body, _ := deed.Encode(m.ledger[has].d)
			brought = append(brought, modelOut{peer, api.Msg{Kind: api.Bring, Body: body}})
		default:
			if missing == nil {
				missing = []modelOut{{peer, api.Msg{Kind: api.Missing}}}
			}
			missing[0].m.IDs = append(missing[0].m.IDs, id)
		}
	}
	return append(brought, missing...), api.OK
}

func (m *model) waitUntil(peer int) int {
	if m.preferred[peer] {
		return m.now
	}
	return min(m.now+3, api.MaxTime)
}

// judge returns the state of a transaction in a ledger, and what is missing.
func (m *model) judge(ledger []modelDeed, d api.Deed) (int, []uint64) {
	var missing []uint64
	wicked := false
	for _, in := range d.Ins {
		i := slices.IndexFunc(ledger, func(k modelDeed) bool { return k.id == in.ID })
		if i < 0 && !slices.Contains(missing, in.ID) {
			missing = append(missing, in.ID)
		}
		wicked = wicked || i >= 0 && in.At >= ledger[i].d.Outs
		wicked = wicked || slices.ContainsFunc(ledger, func(k modelDeed) bool { return slices.Contains(k.d.Ins, in) })
	}
	switch {
	case missing != nil:
		return api.Lost, missing
	case wicked:
		return api.Wicked, nil
	case d.Weight > 10*d.Fee:
		return api.Poor, nil
	}
	return api.Good, nil
}

// orphans returns the IDs of the pool in order.
func (m *model) orphans() []uint64 {
	var ids []uint64
	for _, l := range m.links {
		if !slices.Contains(ids, l.id) {
			ids = append(ids, l.id)
		}
	}
	return ids
}

// children returns the transactions of the pool that spend an output of an ID, in order.
func (m *model) children(id uint64) []modelDeed {
	var found []modelDeed
	var ids []uint64
	for _, l := range m.links {
		spends := slices.ContainsFunc(l.d.Ins, func(in api.In) bool { return in.ID == id })
		if spends && !slices.Contains(ids, l.id) {
			ids = append(ids, l.id)
			found = append(found, l.modelDeed)
		}
	}
	return found
}

func (m *model) bring(peer int, k modelDeed) {
	m.answer(peer, k.id)
	if slices.Contains(m.accepted(), k.id) || m.wicked.has(k.id) {
		m.seen["brought for nothing"]++
		return
	}
	state, missing := m.judge(m.ledger, k.d)
	m.seen["brought "+stateName(state)]++
	if state == api.Lost {
		m.forget(k.id)
		m.link(peer, k)
		if !slices.Contains(m.orphans(), k.id) {
			return
		}
		for _, id := range missing {
			switch {
			case slices.Contains(m.orphans(), id):
				m.seen["missing in pool"]++
			case m.wicked.has(id):
				m.seen["missing is Wicked"]++
			default:
				m.announce(peer, id, m.now)
			}
		}
		return
	}
	queue := m.settle(k)
	for len(queue) > 0 {
		k, queue = queue[0], queue[1:]
		if !slices.Contains(m.orphans(), k.id) {
			m.seen["gone in queue"]++
			continue
		}
		state, _ := m.judge(m.ledger, k.d)
		m.seen["queued "+stateName(state)]++
		if state != api.Lost {
			queue = append(queue, m.settle(k)...)
		}
	}
}

func stateName(state int) string {
	return []string{"Good", "Poor", "Lost", "Wicked"}[state]
}

// settle does what is to be done for a transaction that is not Lost, and returns what is to be examined then.
func (m *model) settle(k modelDeed) []modelDeed {
	state, _ := m.judge(m.ledger, k.d)
	m.remove(k.id)
	switch state {
	case api.Good:
		m.ledger = append(m.ledger, k)
		return m.children(k.id)
	case api.Wicked:
		m.wicked.put(k.id)
		return nil
	}
	m.poor.put(k.id)
	for i, child := range m.children(k.id) {
		with := append(slices.Clone(m.ledger), k)
		if state, _ := m.judge(with, child.d); state >= api.Lost || k.d.Weight+child.d.Weight > 10*(k.d.Fee+child.d.Fee) {
			continue
		}
		m.seen["payer"]++
		if i > 0 {
			m.seen["later payer"]++
		}
		m.ledger = append(with, child)
		m.remove(child.id)
		return slices.Concat(m.children(k.id), m.children(child.id))
	}
	return nil
}

// remove forgets an ID, in the tracker and in the pool.
func (m *model) remove(id uint64) {
	m.forget(id)
	m.links = slices.DeleteFunc(m.links, func(l modelLink) bool { return l.id == id })
}

// link adds a link to the pool, and removes others as long as there are too many or too heavy ones.
func (m *model) link(peer int, k modelDeed) {
	for _, l := range m.links {
		if l.id == k.id {
			k.d = l.d
		}
		if l.id == k.id && l.peer == peer {
			m.seen["linked again"]++
			return
		}
	}
	m.links = append(m.links, modelLink{peer, k})
	for {
		var weights, counts [8]int
		total := 0
		for i, l := range m.links {
			weights[l.peer] += l.d.Weight
			counts[l.peer]++
			if !slices.ContainsFunc(m.links[:i], func(before modelLink) bool { return before.id == l.id }) {
				total += l.d.Weight
			}
		}
		room, worst, most := 0, 0, 0
		for peer := range 8 {
			if counts[peer] > 0 {
				room += 3000
			}
			if burden := max(24*weights[peer], 3000*counts[peer]); burden > most {
				worst, most = peer, burden
			}
		}
		if total <= room && len(m.links) <= 24 {
			return
		}
		m.seen["removed link"]++
		i := slices.IndexFunc(m.links, func(l modelLink) bool { return l.peer == worst })
		m.links = slices.Delete(m.links, i, i+1)
	}
}

func (m *model) accepted() []uint64 {
	var ids []uint64
	for _, k := range m.ledger {
		ids = append(ids, k.id)
	}
	return ids
}

// compare checks all that can be seen of a node.
func (m *model) compare(t *testing.T, n *Node) {
	t.Helper()
	if got := n.Accepted(); !slices.Equal(got, m.accepted()) {
		t.Errorf("Accepted() = %d, want %d", got, m.accepted())
	}
	if got := n.Orphans(); !slices.Equal(got, m.orphans()) {
		t.Errorf("Orphans() = %d, want %d", got, m.orphans())
	}
	if n.Now() != m.now {
		t.Errorf("Now() = %d, want %d", n.Now(), m.now)
	}
	for peer := range 8 {
		entries, requested := m.counts(peer)
		expectCounts(t, n, peer, entries, requested)
	}
}

// compareInside checks the filters and the tracker, for the IDs of a script.
func (m *model) compareInside(t *testing.T, n *Node, ids []uint64) {
	t.Helper()
	for _, id := range ids {
		// A node that New did not make has its filters as soon as it has a peer.
		if n.wicked == nil && m.there == [8]bool{} {
			continue
		}
		if n.wicked.Has(id) != m.wicked.has(id) || n.poor.Has(id) != m.poor.has(id) {
			t.Errorf("filters have ID %d: %v, %v, want %v, %v", id, n.wicked.Has(id), n.poor.Has(id), m.wicked.has(id), m.poor.has(id))
		}
		var holders []int
		for _, e := range m.entries {
			if e.id == id {
				holders = append(holders, e.peer)
			}
		}
		slices.Sort(holders)
		if got := n.tracker.Holders(id); !slices.Equal(got, holders) {
			t.Errorf("holders of ID %d: %d, want %d", id, got, holders)
		}
	}
}

// script draws what is done to a node and to its model.
type script struct {
	t      *testing.T
	n      *Node
	m      *model
	number func(n int) int
	// The transactions that messages are about; later ones spend outputs of earlier ones.
	deeds []api.Deed
	// What the node has requested and nobody has answered.
	asked []modelOut
	// Of 8 transactions, so many are heavy, so that the pool has too little room.
	heavy int
}

func newScript(t *testing.T, n *Node, m *model, number func(n int) int) *script {
	s := &script{t: t, n: n, m: m, number: number, heavy: []int{0, 1, 7}[number(3)]}
	for range 6 + number(60) {
		s.deeds = append(s.deeds, s.drawDeed())
	}
	return s
}

func (s *script) drawWeight() int {
	if s.number(8) < s.heavy {
		return 1000 - s.number(501)
	}
	return 1 + s.number(40)
}

// drawDeed returns a transaction that often spends what others spend, and often pays for others or does not pay.
func (s *script) drawDeed() api.Deed {
	d := api.Deed{Outs: 1 + s.number(5), Weight: s.drawWeight()}
	switch s.number(6) {
	case 0, 1:
		d.Fee = s.number(1 + d.Weight/10)
	case 2:
		d.Fee = min(d.Weight, 1000)
	default:
		d.Fee = (d.Weight + 9) / 10
	}
	if len(s.deeds) == 0 {
		return d
	}
	for range []int{0, 1, 1, 1, 2, 2, 3, 8}[s.number(8)] {
		from := s.deeds[len(s.deeds)-1-s.number(min(len(s.deeds), 12))]
		in := out(from, s.number(from.Outs))
		if s.number(30) == 0 {
			in.At = s.number(16)
		}
		if s.number(60) == 0 {
			in.ID = uint64(s.number(3))
		}
		if !slices.Contains(d.Ins, in) {
			d.Ins = append(d.Ins, in)
		}
	}
	return d
}

// drawIDs returns some different IDs.
func (s *script) drawIDs() []uint64 {
	ids := idsOf(s.deeds...)
	for i := range uint64(4) {
		ids = append(ids, i)
	}
	var drawn []uint64
	for range []int{1, 2, 4, 8, 20}[s.number(5)] {
		if id := ids[s.number(len(ids))]; !slices.Contains(drawn, id) {
			drawn = append(drawn, id)
		}
	}
	return drawn
}

// drawPeer returns a peer, which is seldom out of range.
func (s *script) drawPeer() int {
	if s.number(40) == 0 {
		return 8*s.number(3) - 8 + s.number(2)
	}
	return s.number(8)
}

// drawMessage returns the bytes of a message, which are seldom wrong.
func (s *script) drawMessage() string {
	var text string
	switch s.number(8) {
	case 0, 1:
		text = listing(api.Announce, s.drawIDs()...)
	case 2:
		text = listing([]int{api.Fetch, api.Missing}[s.number(2)], s.drawIDs()...)
	default:
		text = bringing(s.deeds[s.number(len(s.deeds))])
	}
	if s.number(20) == 0 {
		i := s.number(len(text))
		text = text[:i] + string([]byte{byte(s.number(256))}) + text[i+s.number(2):]
	}
	return text
}

// step does one thing to both.
func (s *script) step() {
	s.t.Helper()
	switch s.number(10) {
	case 0:
		peer, preferred := s.drawPeer(), s.number(2) == 0
		expect(s.t, s.n.Join(peer, preferred), s.m.join(peer, preferred))
	case 1:
		if s.number(3) == 0 {
			peer := s.drawPeer()
			expect(s.t, s.n.Leave(peer), s.m.leave(peer))
		}
	case 2, 3:
		s.wait(s.drawTime())
	case 4, 5, 6:
		s.answerRequest()
	default:
		s.send(s.drawPeer(), s.drawMessage())
	}
	s.m.compare(s.t, s.n)
}

// drawTime returns for how long to wait, which is seldom up to the end of time, or beyond.
func (s *script) drawTime() int {
	if s.number(30) == 0 {
		left := api.MaxTime - s.m.now
		return []int{-1, left - 6, left, left + 1}[s.number(4)]
	}
	return []int{0, 1, 2, 3, 5, 9, 10, 11}[s.number(8)]
}

// answerRequest has a peer bring something of what it is asked for, or tell that it is missing.
func (s *script) answerRequest() {
	s.t.Helper()
	if len(s.asked) == 0 {
		return
	}
	i := s.number(len(s.asked))
	request := s.asked[i]
	s.asked = slices.Delete(s.asked, i, i+1)
	for _, id := range request.m.IDs {
		at := slices.IndexFunc(s.deeds, func(d api.Deed) bool { return idOf(d) == id })
		if at >= 0 && s.number(6) > 0 {
			s.send(request.peer, bringing(s.deeds[at]))
		} else {
			s.send(request.peer, listing(api.Missing, id))
		}
	}
}

func (s *script) send(peer int, text string) {
	s.t.Helper()
	before := state(s.n)
	got, e := s.n.Send(peer, text)
	want, err := s.m.send(peer, text)
	s.check(got, e, want, err)
	if err != api.OK && state(s.n) != before {
		s.t.Errorf("error %d changed something", err)
	}
}

func (s *script) wait(k int) {
	s.t.Helper()
	got, e := s.n.Wait(k)
	want, err := s.m.wait(k)
	s.check(got, e, want, err)
	s.asked = append(s.asked, want...)
}

// check compares messages, and the errors of a call.
func (s *script) check(got []api.Out, e api.Errno, want []modelOut, err api.Errno) {
	s.t.Helper()
	var outs []api.Out
	for _, w := range want {
		outs = append(outs, api.Out{Peer: w.peer, Bytes: encode(w.m)})
	}
	if !slices.Equal(got, outs) || e != err {
		s.t.Errorf("%s, %d, want %s, %d", show(got), e, show(outs), err)
	}
}

// run does a number of steps.
func (s *script) run(steps int) {
	s.t.Helper()
	for peer := range s.number(9) {
		preferred := s.number(2) == 0
		expect(s.t, s.n.Join(peer, preferred), s.m.join(peer, preferred))
	}
	ids := append(idsOf(s.deeds...), 0, 1, 2, 3)
	for range steps {
		s.step()
		s.m.compareInside(s.t, s.n, ids)
		if s.t.Failed() {
			return
		}
	}
}

func TestAgainstModel(t *testing.T) {
	random := rand.New(rand.NewSource(1))
	seen := map[string]int{}
	for range 400 {
		salt := random.Uint64()
		n, m := New(salt), newModel(salt)
		newScript(t, n, m, random.Intn).run(120)
		if t.Failed() {
			return
		}
		for what, count := range m.seen {
			seen[what] += count
		}
	}
	for _, what := range []string{
		"brought Good", "brought Poor", "brought Lost", "brought Wicked", "brought for nothing",
		"queued Good", "queued Poor", "queued Lost", "queued Wicked", "gone in queue", "payer", "later payer",
		"removed link", "linked again", "missing in pool", "missing is Wicked",
		"announced again", "too many entries", "not answered",
	} {
		if seen[what] < 20 {
			t.Errorf("%s: only %d times", what, seen[what])
		}
	}
}

// FuzzNode takes the bytes as numbers that choose what is done.
func FuzzNode(f *testing.F) {
	f.Add(uint64(0), []byte{})
	f.Add(uint64(7), slices.Repeat([]byte{3, 1, 9, 4, 1, 7, 1, 2, 5, 8, 2, 250}, 30))
	f.Add(uint64(1)<<63, slices.Repeat([]byte{0, 255, 6, 5, 2, 77, 1, 4, 31}, 60))
	f.Fuzz(func(t *testing.T, salt uint64, b []byte) {
		number := func(n int) int {
			if len(b) == 0 {
				return 0
			}
			c := int(b[0]) % n
			b = b[1:]
			return c
		}
		n, m := New(salt), newModel(salt)
		s := newScript(t, n, m, number)
		for len(b) > 0 && !t.Failed() {
			s.run(10)
		}
	})
}

// TestNodesInTurn uses two nodes in turn, with messages about the same transactions.
func TestNodesInTurn(t *testing.T) {
	random := rand.New(rand.NewSource(2))
	for range 30 {
		a := newScript(t, New(5), newModel(5), random.Intn)
		b := newScript(t, New(6), newModel(6), random.Intn)
		b.deeds = a.deeds
		for range 60 {
			a.step()
			b.step()
			a.m.compare(t, a.n)
			if t.Failed() {
				return
			}
		}
	}
}

// TestZeroNodeAgainstModel has nodes that New did not make.
func TestZeroNodeAgainstModel(t *testing.T) {
	random := rand.New(rand.NewSource(3))
	for range 30 {
		newScript(t, new(Node), newModel(0), random.Intn).run(60)
		if t.Failed() {
			return
		}
	}
}

// TestSeparateGoroutines uses one node per goroutine, all at once, for the race detector.
func TestSeparateGoroutines(t *testing.T) {
	var all sync.WaitGroup
	for seed := range int64(8) {
		random := rand.New(rand.NewSource(seed))
		s := newScript(t, New(uint64(seed)), newModel(uint64(seed)), random.Intn)
		all.Go(func() { s.run(60) })
	}
	all.Wait()
}
