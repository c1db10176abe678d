package staking

import (
	"fmt"
	"testing"

	"staking/api"
)

// These tests reach into the engine, because slashes lead to few of the pairs of shares and tokens below, and to none with more tokens than shares.

// slashed has at each validator as many shares (of account 0) and tokens as are told.
func slashed(t *testing.T, validators [][2]int) *Engine {
	t.Helper()
	g := api.Genesis{Balances: []int{500, 500}, Top: 5, Mature: 1}
	for range validators {
		g.Owners = append(g.Owners, 0)
		g.Rates = append(g.Rates, 0)
	}
	x, e := New(g)
	if e != api.OK {
		t.Fatalf("New(%+v) = %d", g, e)
	}
	for val, v := range validators {
		x.validators[val].Shares = v[0]
		x.validators[val].Tokens = v[1]
		x.shares[0][val] = v[0]
	}
	return x
}

func same(t *testing.T, what string, got any, want any) {
	t.Helper()
	g, w := fmt.Sprintf("%+v", got), fmt.Sprintf("%+v", want)
	if g != w {
		t.Errorf("%s:\n got %s\nwant %s", what, g, w)
	}
}

func TestP9WhatAnAmountBuys(t *testing.T) {
	for _, c := range []struct {
		shares, tokens, amount int
		e                      api.Errno
		bought                 int
	}{
		{7, 3, 1, api.OK, 2}, {7, 3, 2, api.OK, 4}, {7, 3, 3, api.OK, 7}, {7, 3, 100, api.OK, 233},
		{400, 200, 50, api.OK, 100},
		{3, 7, 1, api.ErrSmall, 0}, {3, 7, 2, api.ErrSmall, 0}, {3, 7, 3, api.OK, 1}, {3, 7, 5, api.OK, 2},
		{0, 0, 1, api.OK, 1}, {0, 0, 500, api.OK, 500},
		{1, 0, 1, api.ErrDead, 0}, {1000000, 0, 500, api.ErrDead, 0},
		{999900, 999900, 100, api.OK, 100}, {999900, 999900, 101, api.ErrFull, 0},
		{1000000, 1000000, 1, api.ErrFull, 0}, {999998, 499999, 1, api.OK, 2}, {999999, 499999, 1, api.ErrFull, 0},
		{1000000, 1, 500, api.ErrFull, 0}, {1000000, 999999, 1, api.ErrFull, 0},
		{1, 1000, 500, api.ErrSmall, 0},
	} {
		what := fmt.Sprintf("at %d shares and %d tokens Bond of %d", c.shares, c.tokens, c.amount)
		x := slashed(t, [][2]int{{c.shares, c.tokens}})
		before := x.See()
		same(t, what, x.Bond(1, 0, c.amount), c.e)
		if c.e != api.OK {
			same(t, "See behind "+what, x.See(), before)
			continue
		}
		v := x.See()
		same(t, "validator behind "+what, v.Validators[0], api.Validator{Tokens: c.tokens + c.amount, Shares: c.shares + c.bought})
		same(t, "balance behind "+what, v.Balances[1], 500-c.amount)
		same(t, "shares behind "+what, x.shares[1][0], c.bought)
	}
}

func TestP9FirstErrorIsTheAnswer(t *testing.T) {
	x := slashed(t, [][2]int{{1000000, 0}, {3, 7}, {1000000, 1}})
	same(t, "no amount, and dead", x.Bond(1, 0, 0), api.ErrAmount)
	same(t, "no funds, and dead", x.Bond(1, 0, 501), api.ErrFunds)
	same(t, "no funds, and full", x.Bond(1, 2, 501), api.ErrFunds)
	same(t, "no amount, and small", x.Bond(1, 1, 0), api.ErrAmount)
	x.validators[1] = api.Validator{Shares: 1000000, Tokens: 2000000}
	same(t, "small, at a validator that takes no share more", x.Bond(1, 1, 1), api.ErrSmall)
}

func TestP10WhatSharesAreWorth(t *testing.T) {
	for _, c := range []struct {
		shares, tokens, leave, worth int
	}{
		{500, 250, 3, 1}, {500, 250, 1, 0}, {500, 250, 2, 1}, {500, 250, 500, 250}, {500, 250, 499, 249},
		{7, 3, 2, 0}, {7, 3, 3, 1}, {7, 3, 6, 2}, {7, 3, 7, 3}, {3, 7, 1, 2}, {3, 7, 2, 4}, {3, 7, 3, 7},
		{9, 0, 4, 0}, {9, 0, 9, 0}, {1000000, 1000000, 999999, 999999}, {1000000, 999999, 999999, 999998},
	} {
		what := fmt.Sprintf("at %d shares and %d tokens Unbond of %d", c.shares, c.tokens, c.leave)
		x := slashed(t, [][2]int{{c.shares, c.tokens}})
		same(t, what, x.Unbond(0, 0, c.leave), api.OK)
		v := x.See()
		same(t, "validator behind "+what, v.Validators[0], api.Validator{Tokens: c.tokens - c.worth, Shares: c.shares - c.leave})
		entries := "[]"
		if c.worth > 0 {
			entries = fmt.Sprintf("[{Who:0 Val:0 Made:0 Amount:%d}]", c.worth)
		}
		same(t, "entries behind "+what, v.Entries, entries)
		same(t, "balances behind "+what, v.Balances, "[500 500]")
	}
}

func TestP10FullEvenWhereNoEntryWouldBeMade(t *testing.T) {
	x := slashed(t, [][2]int{{400, 200}})
	for i := 0; i < 4; i++ {
		same(t, "Unbond", x.Unbond(0, 0, 2), api.OK)
	}
	same(t, "Unbond of a share that is worth no token", x.Unbond(0, 0, 1), api.ErrFull)
}

func TestP10NoEntryTakesNoRoom(t *testing.T) {
	x := slashed(t, [][2]int{{400, 200}})
	for i := 0; i < 9; i++ {
		same(t, "Unbond of a share that is worth no token", x.Unbond(0, 0, 1), api.OK)
	}
	same(t, "entries", x.See().Entries, "[]")
	same(t, "validator", x.See().Validators[0], api.Validator{Tokens: 200, Shares: 391})
}

func TestP11WhatMovesAndWhatIsRefused(t *testing.T) {
	for _, c := range []struct {
		val, to [2]int
		shares  int
		e       api.Errno
		tokens  int
		bought  int
	}{
		{[2]int{400, 200}, [2]int{7, 3}, 3, api.OK, 1, 2},
		{[2]int{400, 200}, [2]int{7, 3}, 1, api.ErrSmall, 0, 0},
		{[2]int{400, 200}, [2]int{0, 0}, 5, api.OK, 2, 2},
		{[2]int{400, 200}, [2]int{0, 0}, 400, api.OK, 200, 200},
		{[2]int{400, 200}, [2]int{3, 7}, 5, api.ErrSmall, 0, 0},
		{[2]int{400, 200}, [2]int{3, 7}, 6, api.OK, 3, 1},
		{[2]int{400, 200}, [2]int{9, 0}, 2, api.ErrDead, 0, 0},
		{[2]int{400, 200}, [2]int{9, 0}, 1, api.ErrSmall, 0, 0},
		{[2]int{400, 200}, [2]int{9, 0}, 401, api.ErrShares, 0, 0},
		{[2]int{9, 0}, [2]int{9, 0}, 9, api.ErrSmall, 0, 0},
		{[2]int{9, 0}, [2]int{0, 0}, 9, api.ErrSmall, 0, 0},
		{[2]int{400, 200}, [2]int{999990, 333330}, 6, api.OK, 3, 9},
		{[2]int{400, 200}, [2]int{999991, 333330}, 6, api.OK, 3, 9},
		{[2]int{400, 200}, [2]int{999992, 333330}, 6, api.ErrFull, 0, 0},
		{[2]int{400, 200}, [2]int{1000000, 2000000}, 2, api.ErrSmall, 0, 0},
	} {
		what := fmt.Sprintf("from %v to %v Move of %d", c.val, c.to, c.shares)
		x := slashed(t, [][2]int{c.val, c.to})
		before := x.See()
		same(t, what, x.Move(0, 0, 1, c.shares), c.e)
		v := x.See()
		if c.e != api.OK {
			same(t, "See behind "+what, v, before)
			continue
		}
		same(t, "val behind "+what, v.Validators[0], api.Validator{Tokens: c.val[1] - c.tokens, Shares: c.val[0] - c.shares})
		same(t, "to behind "+what, v.Validators[1], api.Validator{Tokens: c.to[1] + c.tokens, Shares: c.to[0] + c.bought})
		same(t, "shares behind "+what, fmt.Sprint(x.shares[0][0], x.shares[0][1]), fmt.Sprint(c.val[0]-c.shares, c.to[0]+c.bought))
		same(t, "balances and entries behind "+what, fmt.Sprint(v.Balances, v.Entries), "[500 500] []")
	}
}

func TestP8SetLooksAtTokensNotAtShares(t *testing.T) {
	for _, c := range []struct {
		validators [][2]int
		want       string
	}{
		{[][2]int{{400, 5}, {6, 6}}, "false true"},
		{[][2]int{{6, 6}, {400, 5}}, "true false"},
		{[][2]int{{6, 6}, {400, 6}}, "true false"},
	} {
		x := slashed(t, c.validators)
		x.top = 1
		same(t, "Block", x.Block(), api.OK)
		same(t, fmt.Sprint("the set of ", c.validators), fmt.Sprint(x.validators[0].InSet, x.validators[1].InSet), c.want)
	}
}

// inSet begins like slashed, with all validators in the set and so many fees.
func inSet(t *testing.T, fees int, validators [][2]int) *Engine {
	t.Helper()
	x := slashed(t, validators)
	for i := range x.validators {
		x.validators[i].InSet = true
	}
	x.fees = fees
	return x
}

func TestP8AndP12FeesGoByTokensThenByShares(t *testing.T) {
	x := inSet(t, 31, [][2]int{{400, 200}, {3, 7}, {50, 93}})
	x.shares[0][0], x.shares[1][0] = 300, 100
	same(t, "Block", x.Block(), api.OK) // of 31, 300 tokens: 20, 0 and 9
	v := x.See()
	same(t, "outstanding and pool", fmt.Sprint(v.Validators[0].Outstanding, v.Validators[1].Outstanding, v.Validators[2].Outstanding, v.Pool), "20 0 9 2")
	for _, c := range []struct{ who, val, most int }{{0, 0, 15}, {1, 0, 5}, {0, 1, 0}, {0, 2, 9}} {
		d, e := x.Due(c.who, c.val)
		if e != api.OK || d > c.most || d < c.most-1 {
			t.Errorf("Due(%d, %d) = %d, %d, want %d or one less", c.who, c.val, d, e, c.most)
		}
	}
}

// What is refused behind the fee must not pay what is due.
func TestP9AndP11RefusedPaysNothing(t *testing.T) {
	x := inSet(t, 40, [][2]int{{400, 400}, {400, 400}})
	x.Block()
	x.validators[1].Tokens = 0
	before := x.See()
	same(t, "Bond to a dead one", x.Bond(0, 1, 5), api.ErrDead)
	same(t, "Move to a dead one", x.Move(0, 0, 1, 5), api.ErrDead)
	same(t, "Move of no token", x.Move(0, 1, 0, 5), api.ErrSmall)
	x.validators[1].Tokens = 900
	same(t, "Bond of too few", x.Bond(0, 1, 2), api.ErrSmall)
	same(t, "Move of too few", x.Move(0, 0, 1, 2), api.ErrSmall)
	x.validators[1].Tokens = before.Validators[1].Tokens
	same(t, "See", x.See(), before)
}
