// Package life is what all runs have in common: how many steps they have made, and whether they can go on.
package life

import (
	"wattle/api"
	"wattle/num"
)

// Head is how many bytes tell a state at the front of a checkpoint.
const Head = 5

// State is how a run stands.
type State struct {
	made                 int
	over, broken, closed bool
}

// Made is how many steps it has made.
func (s *State) Made() int { return s.made }

// Over says whether it is done.
func (s *State) Over() bool { return s.over }

// Set makes it that of a run that has made so many steps, and is done or not.
func (s *State) Set(made int, over bool) { s.made, s.over = made, over }

// Live says whether it may still be asked: it is neither broken nor closed.
func (s *State) Live() api.Errno {
	if s.broken || s.closed {
		return api.ErrState
	}
	return api.OK
}

// Ended says whether it has values: it is live, and done.
func (s *State) Ended() api.Errno {
	if !s.over {
		return api.ErrState
	}
	return s.Live()
}

// Step makes a step, which says whether it was the last one.
func (s *State) Step(step func() (bool, api.Errno)) (bool, api.Errno) {
	if e := s.Live(); e != api.OK {
		return false, e
	}
	if s.over {
		return false, api.ErrDone
	}
	done, e := step()
	if e != api.OK {
		s.broken = true
		return false, e
	}
	s.made++
	s.over = done
	return done, api.OK
}

// Close closes it, if what it has can be given back.
func (s *State) Close(give func() api.Errno) api.Errno {
	if s.closed {
		return api.ErrState
	}
	e := give()
	s.closed = e == api.OK
	return e
}

// Text is the state in Head bytes: how many steps, and 1 if it is done.
func (s *State) Text() string {
	if s.over {
		return num.Text(uint64(s.made), 4) + "\x01"
	}
	return num.Text(uint64(s.made), 4) + "\x00"
}

// Read is what such bytes say.
func Read(text string) (made int, over, ok bool) {
	if len(text) < Head {
		return 0, false, false
	}
	return int(num.Of(text[:4])), text[4] == 1, text[4] <= 1
}
