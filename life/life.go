// Package life is what all runs have in common: how many steps they have made, whether they can go on, how that is saved.
package life

import (
	"wattle/api"
	"wattle/num"
)

const (
	stepsBytes = 4
	headBytes  = stepsBytes + 1 // that tell a state at the front of a checkpoint
)

// Any is a bound of steps that no checkpoint is above.
const Any = 1 << (8 * stepsBytes)

// State is how a run stands; that of a nil run is nil.
type State struct {
	made                 int
	over, broken, closed bool
}

// Made is how many steps it has made.
func (s *State) Made() int {
	if s == nil {
		return 0
	}
	return s.made
}

// Live says whether it may still be asked: it is neither broken nor closed.
func (s *State) Live() api.Errno {
	switch {
	case s == nil:
		return api.ErrNil
	case s.broken || s.closed:
		return api.ErrState
	}
	return api.OK
}

// Ended says whether it has values: it is live, and done.
func (s *State) Ended() api.Errno {
	if e := s.Live(); e != api.OK {
		return e
	}
	if !s.over {
		return api.ErrState
	}
	return api.OK
}

// Step makes a step, which says whether it was the last one.
func (s *State) Step(step func() (bool, api.Errno)) (bool, api.Errno) {
	if e := s.Live(); e != api.OK {
		return false, e
	}
	if s.over {
		return false, api.ErrDone
	}
	done, e := step()
	if e != api.OK {
		s.broken = true
		return false, e
	}
	s.made++
	s.over = done
	return done, api.OK
}

// Save is the state, and behind it the rest of what is saved.
func (s *State) Save(rest func() (string, api.Errno)) (string, api.Errno) {
	if e := s.Live(); e != api.OK {
		return "", e
	}
	text, e := rest()
	if e != api.OK {
		return "", e
	}
	over := uint64(0)
	if s.over {
		over = 1
	}
	return num.Text(uint64(s.made), stepsBytes) + num.Text(over, 1) + text, api.OK
}

// Load makes it the state that a text tells, if that is of at most so many steps, and the rest of it is loaded.
func (s *State) Load(text string, most int, rest func(text string) api.Errno) api.Errno {
	if e := s.Live(); e != api.OK {
		return e
	}
	if len(text) < headBytes {
		return api.ErrForm
	}
	made, over := int(num.Of(text[:stepsBytes])), text[stepsBytes]
	if made > most || over > 1 {
		return api.ErrForm
	}
	if e := rest(text[headBytes:]); e != api.OK {
		return e
	}
	s.made, s.over = made, over == 1
	return api.OK
}

// Close closes it, if what it has can be given back.
func (s *State) Close(give func() api.Errno) api.Errno {
	if s == nil {
		return api.ErrNil
	}
	if s.closed {
		return api.ErrState
	}
	e := give()
	s.closed = e == api.OK
	return e
}
