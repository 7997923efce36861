package shard

import "plover/api"

// Text is all of it, as text.
func (s *Shard) Text() (string, api.Errno) {
	if !s.given() {
		return "", api.ErrArg
	}
	if !s.is(Owner) && !s.is(Sealed) {
		return "", api.ErrSealed
	}
	return s.now.text(), api.OK
}

// Since is what was done since a version, as text, or all of it.
func (s *Shard) Since(version int) (string, api.Errno) {
	text, e := s.Text()
	if e != api.OK {
		return "", e
	}
	if version < 0 || version > s.now.version {
		return "", api.ErrArg
	}
	// All of it, always: the changes alone would not tell a copy whether they are its own shard's.
	return text, api.OK
}

// Load lets a copy be here, of a move.
func (s *Shard) Load(move int, text string) api.Errno {
	switch {
	case !s.given() || !isNumber(move):
		return api.ErrArg
	case s.is(Owner) || s.is(Sealed):
		return api.ErrSealed
	case s.now.move > move || s.now.move == move && !s.is(Copy):
		return api.ErrOld
	}
	return s.take(text, Copy, s.now.epoch, move)
}

// Seal lets nothing be changed any more.
func (s *Shard) Seal(move int) api.Errno {
	switch {
	case !s.given() || !isNumber(move):
		return api.ErrArg
	case s.is(Sealed) && s.now.move == move:
		return api.OK
	case !s.is(Owner):
		return api.ErrSealed
	case s.now.move >= move:
		return api.ErrOld
	}
	return s.keep(record{kind: standRecord, state: Sealed, epoch: s.now.epoch, move: move})
}

// Adopt lets the copy of a move, with what was done since, be the shard.
func (s *Shard) Adopt(move, epoch int, text string) api.Errno {
	switch {
	case !s.given() || !isNumber(move) || !isNumber(epoch):
		return api.ErrArg
	case s.is(Owner) && s.now.move == move:
		return api.OK
	case !s.is(Copy) || s.now.move != move:
		return api.ErrSealed
	case epoch <= s.now.epoch:
		return api.ErrEpoch
	}
	return s.take(text, Owner, epoch, move)
}

// Forget lets the copy of a move, or what was sealed for it, be gone.
func (s *Shard) Forget(move int) api.Errno {
	switch {
	case !s.given() || !isNumber(move):
		return api.ErrArg
	case s.now.move > move:
		return api.ErrOld
	case s.is(Owner):
		return api.ErrSealed
	}
	return s.empty(None, s.now.epoch, move)
}

// Reopen lets what was sealed for a move, or is to be, be the shard again.
func (s *Shard) Reopen(move, epoch int) api.Errno {
	switch {
	case !s.given() || !isNumber(move) || !isNumber(epoch):
		return api.ErrArg
	case s.is(Owner) && s.now.move == move && s.now.epoch == epoch:
		return api.OK
	case s.now.move > move:
		return api.ErrOld
	case !s.is(Owner) && !(s.is(Sealed) && s.now.move == move):
		return api.ErrSealed
	case epoch <= s.now.epoch:
		return api.ErrEpoch
	}
	return s.keep(record{kind: standRecord, state: Owner, epoch: epoch, move: move})
}

// take lets the shard be that of a text, and stand so.
func (s *Shard) take(text string, state, epoch, move int) api.Errno {
	k, e := read(text, s.now.dim)
	if e != api.OK {
		return e
	}
	k.state, k.epoch, k.move = state, epoch, move
	return s.begin(k)
}
