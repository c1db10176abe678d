package staking

import "staking/api"

func (x *Engine) slashError(val int, height int, percent int) api.Errno {
	if !x.hasValidator(val) {
		return api.ErrValidator
	}
	if height < 0 || height > x.height {
		return api.ErrHeight
	}
	if percent < 1 || percent > hundredPercent {
		return api.ErrPart
	}
	return api.OK
}

// slashTokens leaves the shares, and what is outstanding, as they are: each share is worth less, and is due as much as before (P12).
func (x *Engine) slashTokens(val int, percent int) {
	lost := x.validators[val].Tokens * percent / hundredPercent
	x.validators[val].Tokens -= lost
	x.pool += lost
}

// slashEntries leaves an entry that has lost all among the others, since it takes one of the places that MaxEntries grants until it is paid.
func (x *Engine) slashEntries(val int, height int, percent int) {
	for i := range x.entries {
		if x.entries[i].Val == val && x.entries[i].Made >= height {
			lost := x.entries[i].Amount * percent / hundredPercent
			x.entries[i].Amount -= lost
			x.pool += lost
		}
	}
}

// jail takes the validator out of the set at once: it has no part of the fees of this block.
func (x *Engine) jail(val int) {
	x.validators[val].Jailed = true
	x.validators[val].InSet = false
}

func (x *Engine) freeError(who int, val int) api.Errno {
	e := x.ownerError(who, val)
	if e != api.OK {
		return e
	}
	if !x.validators[val].Jailed {
		return api.ErrJail
	}
	return api.OK
}
