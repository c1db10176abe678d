package staking_test

import (
	"fmt"
	"testing"

	"staking/api"
	"staking/staking"
)

func TestP1NewAtAllNumbers(t *testing.T) {
	for _, n := range numbers {
		for _, g := range []api.Genesis{
			{Balances: []int{n}, Owners: []int{0}, Rates: []int{0}, Top: 1, Mature: 1},
			{Balances: []int{n, n, n, n, n, n}, Owners: []int{0}, Rates: []int{0}, Top: 1, Mature: 1},
			{Balances: []int{1}, Owners: []int{n}, Rates: []int{n}, Top: 1, Mature: 1},
			{Balances: []int{1}, Owners: []int{0}, Rates: []int{0}, Top: n, Mature: n, Fee: n},
			{Balances: []int{1}, Owners: []int{0}, Rates: []int{n, n}, Top: 1, Mature: 1},
			{Top: n, Mature: n, Fee: n},
		} {
			x, e := staking.New(g)
			if e != api.OK && e != api.ErrGenesis {
				t.Errorf("New(%+v) = %d", g, e)
			}
			if (x == nil) != (e != api.OK) {
				t.Errorf("New(%+v): error %d, engine %v", g, e, x)
			}
		}
	}
}

func TestP1NewAtLongLists(t *testing.T) {
	long := make([]int, 1000000)
	for _, g := range []api.Genesis{
		{Balances: long, Owners: []int{0}, Rates: []int{0}, Top: 1, Mature: 1},
		{Balances: []int{1}, Owners: long, Rates: long, Top: 1, Mature: 1},
		{Balances: []int{1}, Owners: []int{0}, Rates: long, Top: 1, Mature: 1},
		{Balances: []int{1}, Owners: long, Rates: []int{0}, Top: 1, Mature: 1},
	} {
		x, e := staking.New(g)
		if x != nil || e != api.ErrGenesis {
			t.Errorf("New with long lists = %v, %d, want nil, %d", x, e, api.ErrGenesis)
		}
	}
}

func TestP1CallsAtAllNumbers(t *testing.T) {
	for _, fee := range []int{0, 10} {
		x := begin(t, api.Genesis{Balances: []int{400000, 600000}, Owners: []int{0, 1}, Rates: []int{10, 0}, Top: 1, Mature: 2, Fee: fee})
		for _, who := range numbers {
			for _, to := range numbers {
				for _, amount := range numbers {
					x.Send(who, to, amount)
					x.Bond(who, to, amount)
					x.Unbond(who, to, amount)
					x.Move(who, to, 1, amount)
					x.Move(who, 0, to, amount)
				}
				x.Spend(who, to)
				x.Withdraw(who, to)
				x.Collect(who, to)
				x.Free(who, to)
				d, e := x.Due(who, to)
				if d < 0 || e != api.OK && d != 0 {
					t.Errorf("Due(%d, %d) = %d, %d", who, to, d, e)
				}
				sound(t, fmt.Sprintf("calls with %d and %d", who, to), x.See(), 1000000)
			}
			x.Block()
		}
	}
}

func TestP1SlashAndFreeAtAllNumbers(t *testing.T) {
	x := begin(t, api.Genesis{Balances: []int{400000, 600000}, Owners: []int{0, 1}, Rates: []int{10, 0}, Top: 1, Mature: 2, Fee: 10})
	for _, val := range numbers {
		x.Bond(0, 0, 150000)
		x.Bond(1, 1, 150000)
		x.Unbond(0, 0, 99999)
		x.Unbond(1, 1, 99999)
		for _, height := range numbers {
			for _, percent := range numbers {
				x.Slash(val, height, percent)
			}
			x.Free(val, height)
			x.Free(height, val)
			sound(t, fmt.Sprintf("calls with %d and %d", val, height), x.See(), 1000000)
		}
		x.Block()
		x.Unbond(0, 0, 1000000)
		x.Spend(0, 200000)
		x.Spend(1, 200000)
	}
}

func TestP1FirstErrorIsTheAnswer(t *testing.T) {
	g := example()
	g.Balances = []int{1000, 9}
	x := begin(t, g)
	same(t, "no who, no to, no amount", x.Send(2, 2, 0), api.ErrAccount)
	same(t, "no fee, no to", x.Send(1, 2, 1), api.ErrFunds)
	same(t, "no fee, no amount", x.Send(1, 0, 0), api.ErrFunds)
	same(t, "no to, no amount", x.Send(0, 2, 0), api.ErrAccount)
	same(t, "no to, no funds", x.Send(0, 2, 5000), api.ErrAccount)
	same(t, "Bond: no who, no validator", x.Bond(2, 1, 0), api.ErrAccount)
	same(t, "Bond: no fee, no validator", x.Bond(1, 1, 0), api.ErrFunds)
	same(t, "Unbond: no who, no validator", x.Unbond(2, 1, 0), api.ErrAccount)
	same(t, "Unbond: no fee, no validator", x.Unbond(1, 1, 0), api.ErrFunds)
	same(t, "Move: no who, no validator", x.Move(2, 1, 1, 0), api.ErrAccount)
	same(t, "Move: no fee, no validator", x.Move(1, 1, 1, 0), api.ErrFunds)
	same(t, "Withdraw: no who, no validator", x.Withdraw(2, 1), api.ErrAccount)
	same(t, "Withdraw: no fee, no validator", x.Withdraw(1, 1), api.ErrFunds)
	same(t, "Withdraw: no fee, no shares", x.Withdraw(1, 0), api.ErrFunds)
	same(t, "Withdraw: no validator, no shares", x.Withdraw(0, 1), api.ErrValidator)
	same(t, "Collect: no who, no validator", x.Collect(2, 1), api.ErrAccount)
	same(t, "Collect: no fee, no validator", x.Collect(1, 1), api.ErrFunds)
	same(t, "Collect: no fee, no owner", x.Collect(1, 0), api.ErrFunds)
	same(t, "Collect: no validator, no owner", x.Collect(0, 1), api.ErrValidator)
	same(t, "Free: no who, no validator", x.Free(2, 1), api.ErrAccount)
	same(t, "Free: no fee, no validator", x.Free(1, 1), api.ErrFunds)
	same(t, "Free: no fee, no owner", x.Free(1, 0), api.ErrFunds)
	same(t, "Free: no validator, no owner", x.Free(0, 1), api.ErrValidator)
	same(t, "Slash: no validator, no height, no part", x.Slash(1, 1, 0), api.ErrValidator)
	same(t, "Slash: no height, no part", x.Slash(0, 1, 0), api.ErrHeight)
	for _, c := range []struct {
		who, val int
		e        api.Errno
	}{{2, 1, api.ErrAccount}, {2, 0, api.ErrAccount}, {0, 1, api.ErrValidator}, {1, 1, api.ErrValidator}, {1, 0, api.ErrShares}} {
		_, e := x.Due(c.who, c.val)
		same(t, fmt.Sprintf("Due(%d, %d)", c.who, c.val), e, c.e)
	}
	same(t, "Spend: no to, no amount", x.Spend(2, 0), api.ErrAccount)
	same(t, "Spend: no to, no funds", x.Spend(2, 1), api.ErrAccount)
	same(t, "Spend: no amount, no funds", x.Spend(0, 0), api.ErrAmount)
}

func TestP2GenesisIsNeitherWrittenNorKept(t *testing.T) {
	balances := []int{1000, 1000, 77, 77}
	owners := []int{0, 1, 77}
	rates := []int{10, 20, 77}
	g := api.Genesis{Balances: balances[:2], Owners: owners[:2], Rates: rates[:2], Top: 1, Mature: 2, Fee: 10}
	x := begin(t, g)
	before := x.See()
	x.Send(0, 1, 5)
	x.Block()
	x.Spend(1, 3)
	same(t, "balances that were handed in", balances, []int{1000, 1000, 77, 77})
	same(t, "owners that were handed in", owners, []int{0, 1, 77})
	same(t, "rates that were handed in", rates, []int{10, 20, 77})

	y := begin(t, g)
	for i := range balances {
		balances[i] = 5
	}
	for i := range owners {
		owners[i], rates[i] = 1, 99
	}
	same(t, "See behind writes into the lists that were handed in", y.See(), before)
}

func TestP2WhatComesOutIsTheCallers(t *testing.T) {
	g := example()
	g.Owners, g.Rates = []int{0, 1}, []int{10, 20}
	x := begin(t, g)
	x.Bond(0, 0, 100)
	x.Bond(1, 1, 200)
	x.Unbond(0, 0, 10)
	x.Unbond(1, 1, 20)
	want := fmt.Sprintf("%+v", x.See())
	v, w := x.See(), x.See()
	for i := range v.Balances {
		v.Balances[i] = -5
	}
	for i := range v.Validators {
		v.Validators[i] = api.Validator{Owner: 9, Rate: 9, Tokens: 9, Shares: 9, Commission: 9, Outstanding: 9, Jailed: true, InSet: true}
	}
	for i := range v.Delegations {
		v.Delegations[i] = api.Delegation{Who: 9, Val: 9, Shares: 9}
	}
	for i := range v.Entries {
		v.Entries[i] = api.Entry{Who: 9, Val: 9, Made: 9, Amount: 9}
	}
	same(t, "another answer behind writes into the first", w, want)
	same(t, "See behind writes into an answer", x.See(), want)
	v.Entries = append(v.Entries[:0], api.Entry{Amount: 9})
	v.Delegations = append(v.Delegations[:0], api.Delegation{Shares: 9})
	x.Send(0, 1, 5)
	x.Unbond(0, 0, 1)
	x.Bond(0, 1, 1)
	x.Slash(0, 0, 50)
	x.Slash(1, 0, 100)
	blocks(t, x, 2)
	same(t, "an answer behind a later call", w, want)
}

func TestP2SeeDueAndExportChangeNothing(t *testing.T) {
	x, y := begin(t, example()), begin(t, example())
	for i := 0; i < 20; i++ {
		x.See()
		x.Due(0, 0)
		x.Due(1, 0)
		x.Due(2, 0)
		x.See()
		x.Export()
		same(t, "Send with and without See and Export", x.Send(i%3, 1, 90), y.Send(i%3, 1, 90))
		x.See()
		x.Due(i%2, 0)
		same(t, "Withdraw with and without See and Export", x.Withdraw(i%3, 0), y.Withdraw(i%3, 0))
		x.See()
		x.Export()
		same(t, "Bond with and without See and Export", x.Bond(i%3, 0, 30), y.Bond(i%3, 0, 30))
		x.See()
		x.Export()
		same(t, "Unbond with and without See and Export", x.Unbond(i%2, 0, 7), y.Unbond(i%2, 0, 7))
		x.See()
		x.Export()
		same(t, "Slash with and without See and Export", x.Slash(0, i/2, i), y.Slash(0, i/2, i))
		x.See()
		x.Export()
		same(t, "Free with and without See and Export", x.Free(i%2, 0), y.Free(i%2, 0))
		x.See()
		x.Export()
		same(t, "Block with and without See and Export", x.Block(), y.Block())
	}
	same(t, "two engines behind the same calls", x.See(), y.See())
	same(t, "exports of two engines behind the same calls", x.Export(), y.Export())
}

func TestP2EnginesAreApart(t *testing.T) {
	g := example()
	x, y := begin(t, g), begin(t, g)
	want := fmt.Sprintf("%+v", y.See())
	x.Send(0, 1, 5)
	x.Bond(0, 0, 100)
	x.Block()
	x.Unbond(0, 0, 40)
	x.Slash(0, 0, 50)
	x.Send(1, 0, 500)
	same(t, "an engine behind the calls on another", y.See(), want)
	same(t, "an engine that began behind the calls on another", begin(t, g).See(), want)
}
