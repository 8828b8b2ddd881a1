package life

import (
	"testing"

	"wattle/api"
)

func TestState(t *testing.T) {
	var s State
	step := func(done bool, e api.Errno) func() (bool, api.Errno) {
		return func() (bool, api.Errno) { return done, e }
	}
	if done, e := s.Step(step(false, 0)); done || e != 0 || s.Made() != 1 || s.Ended() != api.ErrState {
		t.Error("a step")
	}
	if done, e := s.Step(step(true, 0)); !done || e != 0 || s.Ended() != 0 || s.Text() != "\x00\x00\x00\x02\x01" {
		t.Error("the last step")
	}
	if _, e := s.Step(step(true, 0)); e != api.ErrDone || s.Live() != 0 {
		t.Error("behind the last")
	}
	if s.Close(func() api.Errno { return api.ErrDown }) != api.ErrDown || s.Live() != 0 || s.Close(func() api.Errno { return 0 }) != 0 || s.Close(nil) != api.ErrState || s.Live() != api.ErrState || s.Ended() != api.ErrState {
		t.Error("Close")
	}
	s = State{}
	if done, e := s.Step(step(true, api.ErrForm)); done || e != api.ErrForm || s.Made() != 0 || s.Live() != api.ErrState {
		t.Error("broken")
	}
	if _, e := s.Step(step(false, 0)); e != api.ErrState {
		t.Error("a step of a broken one")
	}
	s.Set(7, true)
	if made, over, ok := Read(s.Text()); made != 7 || !over || !ok || !s.Over() {
		t.Error("Read")
	}
	for _, bad := range []string{"", "\x00\x00\x00\x00", "\x00\x00\x00\x00\x02"} {
		if _, _, ok := Read(bad); ok {
			t.Errorf("%x", bad)
		}
	}
}
