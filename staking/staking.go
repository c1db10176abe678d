// Package staking: accounts, validators, delegations, and how fees come to them: see DOC.md.
package staking

import "staking/api"

// Engine is the whole state.
type Engine struct {
	top        int
	mature     int
	fee        int
	height     int
	balances   []int
	fees       int
	pool       int
	validators []api.Validator
	shares     [api.MaxAccounts][api.MaxValidators]int
	// perShare is what was shared out to one share since New or Import, in parts of a token; paidUpTo is where it stood at a delegation's last payment, below 0 if that lies before the Import.
	perShare [api.MaxValidators]int
	paidUpTo [api.MaxAccounts][api.MaxValidators]int
	entries  []api.Entry
}

// New begins (P3).
func New(g api.Genesis) (*Engine, api.Errno) {
	if !goodGenesis(g) {
		return nil, api.ErrGenesis
	}
	x := &Engine{top: g.Top, mature: g.Mature, fee: g.Fee}
	x.balances = copyNumbers(g.Balances)
	x.validators = newValidators(g.Owners, g.Rates)
	return x, api.OK
}

// See tells all that can be seen (P4).
func (x *Engine) See() api.View {
	v := api.View{Height: x.height, Fees: x.fees, Pool: x.pool}
	v.Balances = copyNumbers(x.balances)
	v.Bonded = x.bonded()
	v.Loose = x.loose()
	v.Validators = copyValidators(x.validators)
	v.Delegations = x.delegations()
	v.Entries = copyEntries(x.entries)
	return v
}

// Send gives tokens to another account (P6).
func (x *Engine) Send(who int, to int, amount int) api.Errno {
	e := x.charge(who)
	if e != api.OK {
		return e
	}
	e = x.transferError(x.balances[who], to, amount)
	if e != api.OK {
		return e
	}
	x.balances[who] -= amount
	x.balances[to] += amount
	return api.OK
}

// Spend gives tokens of the pool to an account (P7).
func (x *Engine) Spend(to int, amount int) api.Errno {
	e := x.transferError(x.pool, to, amount)
	if e != api.OK {
		return e
	}
	x.pool -= amount
	x.balances[to] += amount
	return api.OK
}

// Block ends a block (P8).
func (x *Engine) Block() api.Errno {
	if x.height >= api.MaxHeight {
		return api.ErrEnd
	}
	x.shareOutFees()
	x.height++
	x.payEntries()
	x.chooseSet()
	return api.OK
}

// Bond gives tokens to a validator, for shares (P9).
func (x *Engine) Bond(who int, val int, amount int) api.Errno {
	e := x.charge(who)
	if e != api.OK {
		return e
	}
	e = x.bondError(who, val, amount)
	if e != api.OK {
		return e
	}
	x.balances[who] -= amount
	x.join(who, val, amount)
	return api.OK
}

// Unbond gives shares back, for tokens that come later (P10).
func (x *Engine) Unbond(who int, val int, shares int) api.Errno {
	e := x.charge(who)
	if e != api.OK {
		return e
	}
	e = x.unbondError(who, val, shares)
	if e != api.OK {
		return e
	}
	tokens := x.leave(who, val, shares)
	x.addEntry(who, val, tokens)
	return api.OK
}

// Move moves shares from one validator to another (P11).
func (x *Engine) Move(who int, val int, to int, shares int) api.Errno {
	e := x.charge(who)
	if e != api.OK {
		return e
	}
	e = x.moveError(who, val, to, shares)
	if e != api.OK {
		return e
	}
	tokens := x.leave(who, val, shares)
	x.join(who, to, tokens)
	return api.OK
}

// Due tells what a delegation is due (P12).
func (x *Engine) Due(who int, val int) (int, api.Errno) {
	if !x.hasAccount(who) {
		return 0, api.ErrAccount
	}
	e := x.dueError(who, val)
	if e != api.OK {
		return 0, e
	}
	return x.due(who, val), api.OK
}

// Withdraw pays what a delegation is due (P13).
func (x *Engine) Withdraw(who int, val int) api.Errno {
	e := x.charge(who)
	if e != api.OK {
		return e
	}
	e = x.dueError(who, val)
	if e != api.OK {
		return e
	}
	x.pay(who, val)
	return api.OK
}

// Collect pays a validator's commission (P14).
func (x *Engine) Collect(who int, val int) api.Errno {
	e := x.charge(who)
	if e != api.OK {
		return e
	}
	e = x.ownerError(who, val)
	if e != api.OK {
		return e
	}
	x.payCommission(who, val)
	return api.OK
}

// Slash takes a part of what a validator had at a height (P15).
func (x *Engine) Slash(val int, height int, percent int) api.Errno {
	e := x.slashError(val, height, percent)
	if e != api.OK {
		return e
	}
	x.slashTokens(val, percent)
	x.slashEntries(val, height, percent)
	x.jail(val)
	return api.OK
}

// Free takes a validator out of jail (P16).
func (x *Engine) Free(who int, val int) api.Errno {
	e := x.charge(who)
	if e != api.OK {
		return e
	}
	e = x.freeError(who, val)
	if e != api.OK {
		return e
	}
	x.validators[val].Jailed = false
	return api.OK
}

// Export writes all of it as bytes (P17).
func (x *Engine) Export() string {
	w := &writer{}
	x.writeGenesis(w)
	x.writeChain(w)
	x.writeValidators(w)
	x.writeDelegations(w)
	x.writeEntries(w)
	return string(w.text)
}

// Import makes an engine of such bytes (P17).
func Import(s string) (*Engine, api.Errno) {
	if len(s) > api.MaxExport {
		return nil, api.ErrText
	}
	x, ok := readEngine(s)
	if !ok || !x.consistent() {
		return nil, api.ErrText
	}
	// The numbers may be good and the bytes none of Export's all the same: with a zero too many, or with more behind the last number.
	if x.Export() != s {
		return nil, api.ErrText
	}
	return x, api.OK
}
