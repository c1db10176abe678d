package staking

import (
	"fmt"
	"testing"

	"staking/api"
)

// These tests change an engine from inside, so that its export says what no calls lead to.

// rich has a bit of everything: two in the set, one jailed, one without shares; dues, commissions, entries.
func rich(t *testing.T) *Engine {
	t.Helper()
	x, e := New(api.Genesis{Balances: []int{1000, 2000, 3000}, Owners: []int{0, 1, 2, 0}, Rates: []int{10, 0, 50, 7}, Top: 2, Mature: 3, Fee: 5})
	if e != api.OK {
		t.Fatalf("New = %d", e)
	}
	x.Bond(0, 0, 200)
	x.Bond(1, 0, 300)
	x.Bond(2, 0, 7)
	x.Bond(1, 1, 400)
	x.Bond(2, 2, 600)
	for i := 0; i < 3; i++ {
		x.Block()
		x.Send(0, 1, 1)
		x.Send(1, 2, 1)
	}
	x.Unbond(1, 0, 20)
	x.Unbond(2, 2, 50)
	x.Slash(2, 0, 50)
	x.Block()
	x.Unbond(1, 0, 20)
	x.Unbond(1, 1, 20)
	x.Block()
	x.Unbond(0, 0, 10)
	return x
}

func mustImport(t *testing.T, what string, x *Engine) *Engine {
	t.Helper()
	s := x.Export()
	y, e := Import(s)
	if e != api.OK || y == nil {
		t.Fatalf("%s: Import(%q) = %d, want an engine", what, s, e)
	}
	same(t, what+": export", y.Export(), s)
	same(t, what+": See", y.See(), x.See())
	return y
}

func mustRefuse(t *testing.T, what string, x *Engine) {
	t.Helper()
	s := x.Export()
	y, e := Import(s)
	if e != api.ErrText || y != nil {
		t.Errorf("%s: Import(%q) = %d, want nil, %d", what, s, e, api.ErrText)
	}
}

type change struct {
	what string
	make func(x *Engine)
}

func TestP17WhatIsRefused(t *testing.T) {
	mustImport(t, "a rich engine", rich(t))
	for _, c := range []change{
		{"a token more than there may be", func(x *Engine) { x.pool += api.MaxSupply - x.supply() + 1 }},
		{"fees beyond", func(x *Engine) { x.fees += api.MaxSupply }},
		{"a balance beyond", func(x *Engine) { x.balances[1] += api.MaxSupply - x.supply() + 1 }},
		{"bonded tokens beyond", func(x *Engine) { x.validators[0].Tokens += api.MaxSupply - x.supply() + 1 }},
		{"loose tokens beyond", func(x *Engine) { x.validators[2].Tokens += api.MaxSupply - x.supply() + 1 }},
		{"outstanding beyond", func(x *Engine) { x.validators[1].Outstanding += api.MaxSupply - x.supply() + 1 }},
		{"an entry beyond", func(x *Engine) { x.entries[1].Amount += api.MaxSupply - x.supply() + 1 }},
		{"a balance below 0", func(x *Engine) { x.balances[1] = -1 }},
		{"fees below 0", func(x *Engine) { x.fees = -1 }},
		{"a pool below 0", func(x *Engine) { x.pool = -1 }},
		{"a height below 0", func(x *Engine) { x.height = -1 }},
		{"tokens below 0", func(x *Engine) { x.validators[0].Tokens = -1 }},
		{"a commission below 0", func(x *Engine) { x.validators[0].Commission = -1 }},
		{"outstanding below 0", func(x *Engine) { x.validators[3].Outstanding = -1 }},
		{"an entry below 0", func(x *Engine) { x.entries[0].Amount = -1 }},
		{"dues below 0", func(x *Engine) { x.paidUpTo[0][0] = x.perShare[0] + 1 }},
		{"no account", func(x *Engine) { x.balances = nil }},
		{"no owner that is an account", func(x *Engine) { x.validators[0].Owner = 3 }},
		{"a rate of 101", func(x *Engine) { x.validators[3].Rate = 101 }},
		{"Top 0", func(x *Engine) { x.top = 0 }},
		{"Top 6", func(x *Engine) { x.top = 6 }},
		{"Mature 0", func(x *Engine) { x.mature = 0 }},
		{"Mature 21", func(x *Engine) { x.mature = 21 }},
		{"Fee 101", func(x *Engine) { x.fee = 101 }},
		{"a height of 1001", func(x *Engine) { x.height, x.entries = 1001, nil }},
		{"a set above Top", func(x *Engine) { x.top = 1 }},
		{"a third in the set", func(x *Engine) { x.validators[3].InSet = true }},
		{"tokens without shares", func(x *Engine) { x.validators[3].Tokens = 1 }},
		{"outstanding without shares", func(x *Engine) { x.validators[3].Outstanding = 1 }},
		{"more outstanding than commission without shares", func(x *Engine) { x.validators[3].Commission, x.validators[3].Outstanding = 4, 5 }},
		{"a commission that is not outstanding", func(x *Engine) { x.validators[3].Commission = 1 }},
		{"a commission that is not outstanding, with shares", func(x *Engine) { x.validators[2].Commission = x.validators[2].Outstanding + 1 }},
		{"a commission that leaves too little for the dues", func(x *Engine) { x.validators[0].Commission = x.validators[0].Outstanding - 1 }},
		{"shares beyond, of one", func(x *Engine) { x.shares[1][1] = api.MaxShares + 1 }},
		{"shares beyond, of two", func(x *Engine) { x.shares[0][1], x.shares[1][1] = 1, api.MaxShares }},
		{"shares below 0", func(x *Engine) { x.shares[0][1] = -1 }},
		{"an entry of later", func(x *Engine) { x.entries[len(x.entries)-1].Made = x.height + 1 }},
		{"an entry that would never be paid", func(x *Engine) { x.entries[0].Made = x.height - x.mature }},
		{"an entry far back", func(x *Engine) { x.entries[0].Made = 0 }},
		{"entries that are not in their order", func(x *Engine) { x.entries[0].Made = x.height }},
		{"an entry of no account", func(x *Engine) { x.entries[0].Who = 3 }},
		{"an entry of no validator", func(x *Engine) { x.entries[0].Val = 4 }},
		{"an entry of account -1", func(x *Engine) { x.entries[0].Who = -1 }},
		{"five entries of one account at one validator", func(x *Engine) { x.entries = sameEntries(x, 5) }},
		{"121 entries", func(x *Engine) { x.entries = sameEntries(x, 121) }},
	} {
		x := rich(t)
		c.make(x)
		mustRefuse(t, c.what, x)
	}
}

func sameEntries(x *Engine, n int) []api.Entry {
	var list []api.Entry
	for i := 0; i < n; i++ {
		list = append(list, api.Entry{Who: 0, Val: 1, Made: x.height, Amount: 1})
	}
	return list
}

// What lies on the good side of the edges above.
func TestP17WhatIsTaken(t *testing.T) {
	for _, c := range []change{
		{"as many tokens as there may be", func(x *Engine) { x.pool += api.MaxSupply - x.supply() }},
		{"as many in a balance", func(x *Engine) { x.balances[2] += api.MaxSupply - x.supply() }},
		{"as many bonded", func(x *Engine) { x.validators[0].Tokens += api.MaxSupply - x.supply() }},
		{"as many outstanding", func(x *Engine) { x.validators[1].Outstanding += api.MaxSupply - x.supply() }},
		{"as many in an entry", func(x *Engine) { x.entries[1].Amount += api.MaxSupply - x.supply() }},
		{"Top 5", func(x *Engine) { x.top = 5 }},
		{"Mature 20", func(x *Engine) { x.mature = 20 }},
		{"Fee 100", func(x *Engine) { x.fee = 100 }},
		{"Fee 0", func(x *Engine) { x.fee = 0 }},
		{"a rate of 100", func(x *Engine) { x.validators[3].Rate = 100 }},
		{"a height of 1000", func(x *Engine) { x.height, x.entries = 1000, nil }},
		{"nobody in the set", func(x *Engine) { x.validators[0].InSet, x.validators[1].InSet = false, false }},
		{"a commission where nobody has shares", func(x *Engine) { x.validators[3].Commission, x.validators[3].Outstanding = 5, 5 }},
		{"all the shares there may be", func(x *Engine) { x.shares[0][1], x.shares[2][1] = 9, api.MaxShares-9-x.shares[1][1] }},
		{"an entry that the next block pays", func(x *Engine) { x.entries[0].Made = x.height - x.mature + 1 }},
		{"an entry of nothing", func(x *Engine) { x.entries[0].Amount = 0 }},
		{"four entries of one account at one validator", func(x *Engine) { x.entries = sameEntries(x, 4) }},
		{"shares without tokens", func(x *Engine) { x.validators[1].Tokens = 0 }},
	} {
		x := rich(t)
		c.make(x)
		sum := 0
		for who := range x.balances {
			sum += x.shares[who][1]
			if x.paidUpTo[who][1] == 0 && who != 1 {
				x.paidUpTo[who][1] = x.perShare[1]
			}
		}
		x.validators[1].Shares = sum
		mustImport(t, c.what, x)
	}
}

// tight has two delegations that are due parts of a token each, and so much outstanding.
func tight(t *testing.T, shares [2]int, pending [2]int, commission int, outstanding int) *Engine {
	t.Helper()
	x := slashed(t, [][2]int{{shares[0] + shares[1], 100}})
	for who := 0; who < 2; who++ {
		x.shares[who][0] = shares[who]
		x.paidUpTo[who][0] = -pending[who]
	}
	x.validators[0].Commission = commission
	x.validators[0].Outstanding = outstanding
	return x
}

// What is outstanding must cover the parts of a token that Due cuts off, or a later block would make Due tell more than there is.
func TestP17DuesAreCoveredToTheLastPart(t *testing.T) {
	const one = partsOfToken
	for _, c := range []struct {
		shares, pending         [2]int
		commission, outstanding int
		good                    bool
	}{
		{[2]int{1, 1}, [2]int{0, 0}, 0, 0, true},
		{[2]int{1, 1}, [2]int{1, 0}, 0, 0, false},
		{[2]int{1, 1}, [2]int{0, 1}, 0, 0, false},
		{[2]int{1, 1}, [2]int{one - 1, 1}, 0, 1, true},
		{[2]int{1, 1}, [2]int{one - 1, 2}, 0, 1, false},
		{[2]int{1, 1}, [2]int{one - 1, one - 1}, 0, 0, false},
		{[2]int{1, 1}, [2]int{one - 1, one - 1}, 0, 1, false},
		{[2]int{1, 1}, [2]int{one - 1, one - 1}, 0, 2, true},
		{[2]int{1, 1}, [2]int{one, one}, 0, 2, true},
		{[2]int{1, 1}, [2]int{one, one}, 1, 2, false},
		{[2]int{1, 1}, [2]int{one, one}, 1, 3, true},
		{[2]int{1, 1}, [2]int{one, one + 1}, 1, 3, false},
		{[2]int{3, 5}, [2]int{one / 4, one / 8}, 7, 9, true},
		{[2]int{3, 5}, [2]int{one / 4, one / 2}, 7, 10, false},
		{[2]int{500000, 500000}, [2]int{one, one}, 0, 998000, false},
		{[2]int{499000, 499000}, [2]int{one, one}, 0, 998000, true},
		{[2]int{499000, 499000}, [2]int{one, one + 1}, 0, 998000, false},
		{[2]int{1, 1}, [2]int{998000 * one, 0}, 0, 998000, true},
		{[2]int{1, 1}, [2]int{998000*one + 1, 0}, 0, 998000, false},
		// Products that are small again where they run over.
		{[2]int{1 << 14, 1}, [2]int{1 << 50, 0}, 0, 998000, false},
		{[2]int{1 << 19, 1 << 18}, [2]int{1 << 45, 1 << 46}, 0, 5, false},
		{[2]int{1 << 19, 1 << 19}, [2]int{1 << 45, 0}, 0, 998000, false},
		{[2]int{999999, 1}, [2]int{mostPending, mostPending}, 0, 998000, false},
	} {
		what := fmt.Sprintf("%+v", c)
		x := tight(t, c.shares, c.pending, c.commission, c.outstanding)
		if c.good {
			mustImport(t, what, x)
		} else {
			mustRefuse(t, what, x)
		}
	}
}

// A tight engine stays covered behind blocks that bring the cut parts to light.
func TestP17TightEnginesStayCovered(t *testing.T) {
	for _, part := range []int{1, 2, 3, 5, 7, 999} {
		a := partsOfToken / 1000 * part
		x := tight(t, [2]int{1, 1}, [2]int{a, partsOfToken - a}, 0, 1)
		x.validators[0].InSet = true
		x.fee = 1
		y := mustImport(t, fmt.Sprint(part), x)
		for i := 0; i < 50; i++ {
			y.Send(i%2, 0, 1)
			y.Block()
			d, _ := y.Due(0, 0)
			f, _ := y.Due(1, 0)
			v := y.validators[0]
			if d+f > v.Outstanding-v.Commission {
				t.Fatalf("part %d, block %d: dues of %d and %d: %+v", part, i, d, f, v)
			}
			if i%9 == 8 {
				y.Withdraw(i%2, 0)
			}
		}
	}
}

// With the most that may be due to a share at the beginning, and all tokens in one block, no sum runs over.
func TestP17MostThatIsPending(t *testing.T) {
	x := tight(t, [2]int{1, 1}, [2]int{998000 * partsOfToken, 0}, 0, 998000)
	x.validators[0].InSet = true
	x.fee = 100
	y := mustImport(t, "998000 tokens due to one share", x)
	d, e := y.Due(0, 0)
	same(t, "Due", fmt.Sprint(d, e), "998000 0")
	same(t, "Withdraw", y.Withdraw(0, 0), api.OK)
	same(t, "balances", y.See().Balances, "[998400 500]")
	for y.height < api.MaxHeight {
		for y.balances[0] >= 200 {
			y.Send(0, 0, 1)
		}
		fees := y.fees
		y.Block()
		d, e = y.Due(0, 0)
		if e != api.OK || d > fees/2 || d < fees/2-1 {
			t.Fatalf("at height %d of fees of %d Due = %d, %d", y.height, fees, d, e)
		}
		y.Withdraw(0, 0)
		y.Withdraw(1, 0)
		y.Send(1, 0, y.balances[1]-200)
		same(t, "supply", y.supply(), 999100)
		if y.height%100 == 0 {
			y = mustImport(t, fmt.Sprint("at height ", y.height), y)
		}
	}
}

// The document's example of more tokens than shares, of which a small bond buys none.
func TestP9AndP17MoreTokensThanShares(t *testing.T) {
	x := mustImport(t, "7 tokens and 3 shares", slashed(t, [][2]int{{3, 7}, {7, 3}}))
	same(t, "Bond of 2 at 7 tokens and 3 shares", x.Bond(1, 0, 2), api.ErrSmall)
	same(t, "Bond of 3 at 7 tokens and 3 shares", x.Bond(1, 0, 3), api.OK)
	same(t, "Bond of 1 at 3 tokens and 7 shares", x.Bond(1, 1, 1), api.OK)
	same(t, "shares", fmt.Sprint(x.shares[1][0], x.shares[1][1]), "1 2")
	same(t, "Unbond of all shares", x.Unbond(0, 0, 3), api.OK)
	same(t, "Unbond of the last share", x.Unbond(1, 0, 1), api.OK)
	same(t, "validator", x.See().Validators[0], api.Validator{})
}

// An export says nothing of what no answer hangs on: how much was paid to whoever has left.
func TestP17ExportForgetsWhatIsPaid(t *testing.T) {
	x := rich(t)
	x.Unbond(2, 0, x.shares[2][0])
	s := x.Export()
	x.paidUpTo[2][0] = 12345
	x.paidUpTo[2][1] = 12345
	same(t, "export", x.Export(), s)
	x.perShare[0] += 77
	x.paidUpTo[0][0] += 77
	x.paidUpTo[1][0] += 77
	same(t, "export", x.Export(), s)
}
