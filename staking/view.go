package staking

import "staking/api"

// Bonded and Loose are counted when they are asked for, so that no call can leave them behind what they sum up.

func (x *Engine) bonded() int {
	sum := 0
	for _, v := range x.validators {
		if v.InSet {
			sum += v.Tokens
		}
	}
	return sum
}

func (x *Engine) loose() int {
	sum := 0
	for _, v := range x.validators {
		if !v.InSet {
			sum += v.Tokens
		}
	}
	for _, e := range x.entries {
		sum += e.Amount
	}
	return sum
}

func (x *Engine) delegations() []api.Delegation {
	var list []api.Delegation
	for who := range x.balances {
		for val := range x.validators {
			shares := x.shares[who][val]
			if shares > 0 {
				list = append(list, api.Delegation{Who: who, Val: val, Shares: shares})
			}
		}
	}
	return list
}
