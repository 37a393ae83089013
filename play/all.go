package play

import (
	"sync"

	"charterhouse/api"
)

// round is the work of one call of All, which its goroutines share.
type round struct {
	salt    uint64
	scripts [][]api.Act
	// The results have a place for each script, where only the goroutine that took it writes.
	accepted [][]uint64
	errs     []api.Errno
	// The mutex guards next, the first script that no goroutine has taken.
	mutex sync.Mutex
	next  int
}

// newRound returns a round in which no script has been taken.
func newRound(salt uint64, scripts [][]api.Act) *round {
	return &round{
		salt:     salt,
		scripts:  scripts,
		accepted: make([][]uint64, len(scripts)),
		errs:     make([]api.Errno, len(scripts)),
	}
}

// All executes scripts with a number of goroutines, and returns the accepted IDs and the error of each script.
func All(hands int, salt uint64, scripts [][]api.Act) ([][]uint64, []api.Errno, api.Errno) {
	if hands < 1 || hands > api.MaxHands {
		return nil, nil, api.ErrArg
	}
	if len(scripts) > api.MaxScripts {
		return nil, nil, api.ErrLarge
	}
	r := newRound(salt, scripts)
	r.share(hands)
	return r.accepted, r.errs, api.OK
}

// share has a number of goroutines execute the scripts, and returns when all of them have ended.
func (r *round) share(hands int) {
	var all sync.WaitGroup
	for range hands {
		all.Go(r.work)
	}
	all.Wait()
}

// work executes scripts until none is left.
func (r *round) work() {
	for i, ok := r.take(); ok; i, ok = r.take() {
		_, _, r.accepted[i], r.errs[i] = Run(r.salt, r.scripts[i])
	}
}

// take returns the index of the next script, which no other goroutine gets, and whether there is one.
func (r *round) take() (int, bool) {
	r.mutex.Lock()
	defer r.mutex.Unlock()
	if r.next == len(r.scripts) {
		return 0, false
	}
	r.next++
	return r.next - 1, true
}
