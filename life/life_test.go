package life

import (
	"testing"

	"wattle/api"
)

func step(done bool, e api.Errno) func() (bool, api.Errno) {
	return func() (bool, api.Errno) { return done, e }
}

func rest(text string, e api.Errno) func() (string, api.Errno) {
	return func() (string, api.Errno) { return text, e }
}

func TestState(t *testing.T) {
	var s State
	if done, e := s.Step(step(false, 0)); done || e != 0 || s.Made() != 1 || s.Ended() != api.ErrState {
		t.Error("a step")
	}
	if done, e := s.Step(step(true, 0)); !done || e != 0 || s.Ended() != 0 {
		t.Error("the last step")
	}
	if _, e := s.Step(step(true, 0)); e != api.ErrDone || s.Live() != 0 {
		t.Error("behind the last")
	}
	if text, e := s.Save(rest("x", 0)); text != "\x00\x00\x00\x02\x01x" || e != 0 {
		t.Errorf("%x, %v", text, e)
	}
	if text, e := s.Save(rest("x", api.ErrDown)); text != "" || e != api.ErrDown {
		t.Error("what can't be saved")
	}
	if s.Close(func() api.Errno { return api.ErrDown }) != api.ErrDown || s.Live() != 0 || s.Close(func() api.Errno { return 0 }) != 0 || s.Close(nil) != api.ErrState || s.Live() != api.ErrState || s.Ended() != api.ErrState {
		t.Error("Close")
	}
	s = State{}
	if done, e := s.Step(step(true, api.ErrForm)); done || e != api.ErrForm || s.Made() != 0 || s.Live() != api.ErrState {
		t.Error("broken")
	}
	if _, e := s.Step(step(false, 0)); e != api.ErrState || s.Load("", 0, nil) != api.ErrState {
		t.Error("a step of a broken one")
	}
}

func TestLoad(t *testing.T) {
	var s State
	taken := ""
	take := func(e api.Errno) func(string) api.Errno {
		return func(text string) api.Errno { taken = text; return e }
	}
	for _, x := range []struct {
		text string
		most int
		want api.Errno
	}{{"", 9, api.ErrForm}, {"\x00\x00\x00\x00", 9, api.ErrForm}, {"\x00\x00\x00\x00\x02", 9, api.ErrForm}, {"\x00\x00\x00\x0a\x00", 9, api.ErrForm}} {
		if e := s.Load(x.text, x.most, take(0)); e != x.want || s.Made() != 0 {
			t.Errorf("%x: %v", x.text, e)
		}
	}
	if s.Load("\x00\x00\x00\x09\x01xy", 9, take(api.ErrMemory)) != api.ErrMemory || s.Made() != 0 || s.Ended() != api.ErrState {
		t.Error("a rest that is refused")
	}
	if s.Load("\x00\x00\x00\x09\x01xy", 9, take(0)) != 0 || taken != "xy" || s.Made() != 9 || s.Ended() != 0 {
		t.Error("Load")
	}
	if s.Load("\xff\xff\xff\xff\x00", Any, take(0)) != 0 || s.Made() != 1<<32-1 || s.Ended() != api.ErrState {
		t.Error("any number of steps")
	}
}

func TestNil(t *testing.T) {
	var s *State
	_, e := s.Step(nil)
	_, f := s.Save(nil)
	if e != api.ErrNil || f != api.ErrNil || s.Load("", 0, nil) != api.ErrNil || s.Close(nil) != api.ErrNil || s.Live() != api.ErrNil || s.Ended() != api.ErrNil || s.Made() != 0 {
		t.Error("a nil state")
	}
}
