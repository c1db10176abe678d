package staking

import "staking/api"

func (x *Engine) shareOutFees() {
	fees := x.fees
	bonded := x.bonded()
	left := fees
	for val := range x.validators {
		v := x.validators[val]
		if v.InSet && bonded > 0 {
			part := fees * v.Tokens / bonded
			x.takeFees(val, part)
			left -= part
		}
	}
	x.pool += left
	x.fees = 0
}

// takeFees makes all of the amount outstanding, the commission too: what shareOut cuts off stays there.
func (x *Engine) takeFees(val int, amount int) {
	commission := amount * x.validators[val].Rate / hundredPercent
	x.validators[val].Commission += commission
	x.validators[val].Outstanding += amount
	x.shareOut(val, amount-commission)
}

func (x *Engine) payEntries() {
	var waiting []api.Entry
	for _, e := range x.entries {
		if e.Made+x.mature == x.height {
			x.balances[e.Who] += e.Amount
		} else {
			waiting = append(waiting, e)
		}
	}
	x.entries = waiting
}

func (x *Engine) chooseSet() {
	for i := range x.validators {
		x.validators[i].InSet = false
	}
	for n := 0; n < x.top; n++ {
		best := x.bestOutside()
		if best < 0 {
			return
		}
		x.validators[best].InSet = true
	}
}

// bestOutside is the validator that has the next place in the set, or -1 if there is none.
func (x *Engine) bestOutside() int {
	best := -1
	most := 0
	for i, v := range x.validators {
		// A later one must have more than an earlier one: of two with as many the lower number goes first.
		if !v.InSet && !v.Jailed && v.Tokens > most {
			best = i
			most = v.Tokens
		}
	}
	return best
}
