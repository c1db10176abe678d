package staking_test

import (
	"fmt"
	"testing"

	"staking/api"
	"staking/staking"
)

// due answers what Due tells, and holds it to one of the two numbers that the document allows.
func due(t *testing.T, x *staking.Engine, who int, val int, low int, high int) int {
	t.Helper()
	w, e := x.Due(who, val)
	if e != api.OK || w < low || w > high {
		t.Errorf("Due(%d, %d) = %d, %d, want %d or %d", who, val, w, e, low, high)
	}
	return w
}

// costly is a beginning with a fee and several validators.
func costly() api.Genesis {
	return api.Genesis{Balances: []int{5000, 5000, 5000}, Owners: []int{0, 1, 2, 0}, Rates: []int{33, 50, 0, 100}, Top: 3, Mature: 2, Fee: 7}
}

// fees lets account 0 send so many messages.
func fees(x *staking.Engine, n int) {
	for i := 0; i < n; i++ {
		x.Send(0, 0, 1)
	}
}

// atTwo has account 1 with 300 and account 0 with 100 shares at the one validator of the example, and 2 of commission and 18 for the shares outstanding there.
func atTwo(t *testing.T) *staking.Engine {
	t.Helper()
	x := begin(t, example())
	x.Bond(1, 0, 300)
	x.Block()
	x.Send(0, 0, 1)
	x.Bond(0, 0, 100)
	x.Block()
	return x
}

func TestP8AndP12Example(t *testing.T) {
	x := atTwo(t)
	want := api.View{
		Height: 2, Balances: []int{880, 690}, Pool: 10, Bonded: 400,
		Validators:  []api.Validator{{Owner: 0, Rate: 10, Tokens: 400, Shares: 400, Commission: 2, Outstanding: 20, InSet: true}},
		Delegations: []api.Delegation{{Who: 0, Val: 0, Shares: 100}, {Who: 1, Val: 0, Shares: 300}},
	}
	same(t, "See", x.See(), want)
	due(t, x, 1, 0, 12, 13)
	due(t, x, 0, 0, 3, 4)
	same(t, "See behind Due", x.See(), want)
}

func TestP5WithdrawCollectAndFreeCostTheFee(t *testing.T) {
	x := atTwo(t)
	a, b := due(t, x, 1, 0, 12, 13), due(t, x, 0, 0, 3, 4)
	same(t, "Withdraw", x.Withdraw(1, 0), api.OK)
	same(t, "balances and fees", fmt.Sprint(x.See().Balances, x.See().Fees), fmt.Sprint([]int{880, 680 + a}, 10))
	same(t, "Withdraw at no validator", x.Withdraw(1, 1), api.ErrValidator)
	same(t, "Collect at no validator", x.Collect(1, 1), api.ErrValidator)
	same(t, "Collect by another", x.Collect(1, 0), api.ErrOwner)
	same(t, "balances and fees", fmt.Sprint(x.See().Balances, x.See().Fees), fmt.Sprint([]int{880, 650 + a}, 40))
	same(t, "Collect", x.Collect(0, 0), api.OK)
	same(t, "Withdraw", x.Withdraw(0, 0), api.OK)
	same(t, "balances and fees", fmt.Sprint(x.See().Balances, x.See().Fees), fmt.Sprint([]int{862 + b, 650 + a}, 60))
	before := x.See()
	same(t, "Free of one that is not jailed", x.Free(0, 0), api.ErrJail)
	v := x.See()
	same(t, "balances and fees behind Free", fmt.Sprint(v.Balances, v.Fees), fmt.Sprint([]int{852 + b, 650 + a}, 70))
	v.Balances[0] += 10
	v.Fees -= 10
	same(t, "all else behind Free", v, before)
}

// What a delegation is due, and a commission, do not help an account to the fee that must be paid first.
func TestP5WhoCannotPayTheFeeIsPaidNothing(t *testing.T) {
	x := atTwo(t)
	x.Send(0, 1, x.See().Balances[0]-10-9)
	x.Send(1, 1, 1)
	x.Send(1, 0, x.See().Balances[1]-10)
	x.Send(0, 1, x.See().Balances[0]-10-9)
	before := x.See()
	same(t, "balance", before.Balances[0], 9)
	refused(t, x, "Withdraw", before, x.Withdraw(0, 0), api.ErrFunds)
	refused(t, x, "Withdraw at no validator", before, x.Withdraw(0, 5), api.ErrFunds)
	refused(t, x, "Collect", before, x.Collect(0, 0), api.ErrFunds)
	refused(t, x, "Collect at no validator", before, x.Collect(0, -1), api.ErrFunds)
	refused(t, x, "Free", before, x.Free(0, 0), api.ErrFunds)
	for _, who := range []int{-1, 2, least, greatest} {
		refused(t, x, "Withdraw by nobody", before, x.Withdraw(who, 0), api.ErrAccount)
		refused(t, x, "Collect by nobody", before, x.Collect(who, 9), api.ErrAccount)
		refused(t, x, "Free by nobody", before, x.Free(who, 9), api.ErrAccount)
	}
	due(t, x, 0, 0, 3, 4)
}

func TestP5DueCostsNothing(t *testing.T) {
	x := atTwo(t)
	before := x.See()
	for _, val := range []int{0, 1, -1} {
		for _, who := range []int{0, 1, 2, -1} {
			x.Due(who, val)
		}
	}
	same(t, "See", x.See(), before)
}

func TestP8FeesGoByTokens(t *testing.T) {
	x := begin(t, costly())
	x.Bond(0, 0, 100)
	x.Bond(1, 1, 200)
	x.Bond(2, 2, 50)
	x.Bond(2, 3, 40)
	x.Block()
	same(t, "the set", set(x), "1110")
	same(t, "the pool, where no set was", x.See().Pool, 28)
	fees(x, 7)
	x.Block() // of 49, 350 tokens: 14, 28 and 7, and nothing is over
	v := x.See()
	same(t, "pool and fees", fmt.Sprint(v.Pool, v.Fees), "28 0")
	for val, want := range [][2]int{{4, 14}, {14, 28}, {0, 7}, {0, 0}} {
		same(t, fmt.Sprintf("commission and outstanding of %d", val), [2]int{v.Validators[val].Commission, v.Validators[val].Outstanding}, want)
	}
	fees(x, 3)
	x.Block() // of 21: 6, 12 and 3
	v = x.See()
	for val, want := range [][2]int{{5, 20}, {20, 40}, {0, 10}, {0, 0}} {
		same(t, fmt.Sprintf("commission and outstanding of %d", val), [2]int{v.Validators[val].Commission, v.Validators[val].Outstanding}, want)
	}
	fees(x, 1)
	x.Block() // of 7: 2, 4 and 1
	fees(x, 2)
	x.Bond(2, 3, 650)
	same(t, "the set", set(x), "1110")
	x.Block() // of 21, which one outside the set has no part of
	v = x.See()
	for val, want := range [][2]int{{6, 28}, {28, 56}, {0, 14}, {0, 0}} {
		same(t, fmt.Sprintf("commission and outstanding of %d", val), [2]int{v.Validators[val].Commission, v.Validators[val].Outstanding}, want)
	}
	same(t, "the set", set(x), "1101")
	fees(x, 7)
	x.Block() // of 49, 990 tokens: 4, 9, 34, and 2 are over
	v = x.See()
	for val, want := range [][2]int{{7, 32}, {32, 65}, {0, 14}, {34, 34}} {
		same(t, fmt.Sprintf("commission and outstanding of %d", val), [2]int{v.Validators[val].Commission, v.Validators[val].Outstanding}, want)
	}
	same(t, "pool", v.Pool, 30)
	due(t, x, 2, 3, 0, 0)
	due(t, x, 2, 2, 13, 14)
	due(t, x, 1, 1, 32, 33)
	due(t, x, 0, 0, 24, 25)
}

func TestP8Rates(t *testing.T) {
	for _, c := range []struct{ rate, commission int }{{0, 0}, {1, 0}, {2, 1}, {3, 2}, {10, 7}, {50, 35}, {99, 69}, {100, 70}} {
		g := example()
		g.Rates[0] = c.rate
		x := begin(t, g)
		x.Bond(1, 0, 300)
		x.Block()
		fees(x, 7)
		x.Block()
		v := x.See()
		what := fmt.Sprintf("at the rate %d ", c.rate)
		same(t, what+"commission, outstanding and pool", fmt.Sprint(v.Validators[0].Commission, v.Validators[0].Outstanding, v.Pool), fmt.Sprint(c.commission, 70, 10))
		low := 70 - c.commission - 1
		if low < 0 {
			low = 0
		}
		due(t, x, 1, 0, low, 70-c.commission)
	}
}

func TestP8TokensOfTheSetAreThoseOfNow(t *testing.T) {
	g := costly()
	g.Rates = []int{0, 0, 0, 0}
	x := begin(t, g)
	x.Bond(1, 0, 100)
	x.Bond(1, 1, 100)
	x.Block()
	x.Bond(2, 0, 100)
	x.Unbond(1, 1, 50)
	x.Block() // of 14, 250 tokens: 11, 2, and 1 is over
	v := x.See()
	same(t, "outstanding and pool", fmt.Sprint(v.Validators[0].Outstanding, v.Validators[1].Outstanding, v.Pool), "11 2 15")
	due(t, x, 1, 0, 4, 5)
	due(t, x, 2, 0, 4, 5)
	due(t, x, 1, 1, 1, 2)
}

func TestP8NobodyInTheSetHasTokens(t *testing.T) {
	x := begin(t, costly())
	x.Bond(1, 0, 100)
	x.Block()
	x.Bond(1, 2, 30)
	x.Unbond(1, 0, 100)
	same(t, "the set", set(x), "1000")
	x.Block()
	v := x.See()
	same(t, "pool and fees", fmt.Sprint(v.Pool, v.Fees), "21 0")
	for val, k := range v.Validators {
		same(t, fmt.Sprintf("outstanding of %d", val), k.Outstanding, 0)
	}
	x.Bond(1, 0, 10)
	x.Unbond(1, 2, 30)
	x.Unbond(1, 0, 10)
	same(t, "Block", x.Block(), api.OK)
	same(t, "pool", x.See().Pool, 42)
}

func TestP8OneInTheSetWithoutTokensGetsNothing(t *testing.T) {
	x := begin(t, costly())
	x.Bond(1, 0, 100)
	x.Bond(1, 2, 100)
	x.Block()
	x.Unbond(1, 0, 100)
	fees(x, 1)
	x.Block()
	v := x.See()
	same(t, "outstanding and pool", fmt.Sprint(v.Validators[0].Outstanding, v.Validators[2].Outstanding, v.Pool), "0 14 14")
}

func TestP8FeesOfTheEndStay(t *testing.T) {
	x := atTwo(t)
	blocks(t, x, 997)
	fees(x, 1)
	before := due(t, x, 1, 0, 12, 13)
	blocks(t, x, 1)
	last := due(t, x, 1, 0, 19, 20)
	if last <= before {
		t.Errorf("the last Block shared nothing out: %d, then %d", before, last)
	}
	fees(x, 1)
	same(t, "Block at the end", x.Block(), api.ErrEnd)
	same(t, "fees", x.See().Fees, 10)
	same(t, "Due at the end", due(t, x, 1, 0, 19, 20), last)
	same(t, "Withdraw at the end", x.Withdraw(1, 0), api.OK)
	same(t, "balance", x.See().Balances[1], 680+last)
}

func TestP12Refusals(t *testing.T) {
	x := atTwo(t)
	for _, c := range []struct {
		who, val int
		e        api.Errno
	}{
		{2, 0, api.ErrAccount}, {-1, 0, api.ErrAccount}, {least, 0, api.ErrAccount}, {greatest, 1, api.ErrAccount}, {2, 1, api.ErrAccount},
		{0, 1, api.ErrValidator}, {1, -1, api.ErrValidator}, {1, least, api.ErrValidator}, {1, greatest, api.ErrValidator},
	} {
		w, e := x.Due(c.who, c.val)
		same(t, fmt.Sprintf("Due(%d, %d)", c.who, c.val), fmt.Sprint(w, e), fmt.Sprint(0, c.e))
	}
	x.Unbond(1, 0, 300)
	w, e := x.Due(1, 0)
	same(t, "Due of a delegation that is gone", fmt.Sprint(w, e), fmt.Sprint(0, api.ErrShares))
	y := begin(t, example())
	w, e = y.Due(1, 0)
	same(t, "Due where none was", fmt.Sprint(w, e), fmt.Sprint(0, api.ErrShares))
}

func TestP13Withdraw(t *testing.T) {
	x := atTwo(t)
	a, b := due(t, x, 1, 0, 12, 13), due(t, x, 0, 0, 3, 4)
	same(t, "Withdraw", x.Withdraw(1, 0), api.OK)
	want := api.View{
		Height: 2, Balances: []int{880, 680 + a}, Fees: 10, Pool: 10, Bonded: 400,
		Validators:  []api.Validator{{Owner: 0, Rate: 10, Tokens: 400, Shares: 400, Commission: 2, Outstanding: 20 - a, InSet: true}},
		Delegations: []api.Delegation{{Who: 0, Val: 0, Shares: 100}, {Who: 1, Val: 0, Shares: 300}},
	}
	same(t, "See behind Withdraw", x.See(), want)
	due(t, x, 1, 0, 0, 0)
	same(t, "Due of the other", due(t, x, 0, 0, 3, 4), b)
	same(t, "Withdraw of nothing", x.Withdraw(1, 0), api.OK)
	want.Balances[1], want.Fees = 670+a, 20
	same(t, "See behind Withdraw of nothing", x.See(), want)
	x.Block() // of the 20, 18 for the shares
	due(t, x, 1, 0, 12, 13)
	due(t, x, 0, 0, 8, 9)
}

func TestP13Refusals(t *testing.T) {
	g := costly()
	g.Fee = 0
	x := begin(t, g)
	x.Bond(1, 0, 100)
	before := x.See()
	for _, c := range []struct {
		who, val int
		e        api.Errno
	}{
		{3, 0, api.ErrAccount}, {-1, 9, api.ErrAccount}, {least, 0, api.ErrAccount}, {greatest, 0, api.ErrAccount},
		{1, 4, api.ErrValidator}, {1, -1, api.ErrValidator}, {1, least, api.ErrValidator}, {1, greatest, api.ErrValidator},
		{1, 1, api.ErrShares}, {0, 0, api.ErrShares}, {2, 3, api.ErrShares},
	} {
		refused(t, x, fmt.Sprintf("Withdraw(%d, %d)", c.who, c.val), before, x.Withdraw(c.who, c.val), c.e)
	}
}

func TestP14Collect(t *testing.T) {
	x := begin(t, costly())
	x.Bond(1, 0, 100)
	x.Bond(2, 1, 100)
	x.Bond(2, 3, 100)
	x.Block()
	fees(x, 6)
	x.Block() // of 42, 14 each: 4, 7 and 14 of them commission
	before := x.See()
	same(t, "Collect(0, 3)", x.Collect(0, 3), api.OK)
	want := x.See()
	same(t, "balances and fees", fmt.Sprint(want.Balances, want.Fees), fmt.Sprint([]int{before.Balances[0] + 7, before.Balances[1], before.Balances[2]}, 7))
	same(t, "commission and outstanding", fmt.Sprint(want.Validators[3].Commission, want.Validators[3].Outstanding), "0 0")
	same(t, "the other of the same owner", want.Validators[0], before.Validators[0])
	d := due(t, x, 2, 1, 6, 7)
	same(t, "Collect(1, 1)", x.Collect(1, 1), api.OK)
	v := x.See()
	same(t, "commission and outstanding", fmt.Sprint(v.Validators[1].Commission, v.Validators[1].Outstanding), "0 7")
	same(t, "balance", v.Balances[1], before.Balances[1])
	same(t, "Due behind Collect", due(t, x, 2, 1, 6, 7), d)
	same(t, "Collect of nothing", x.Collect(1, 1), api.OK)
	v = x.See()
	same(t, "commission, outstanding and balance", fmt.Sprint(v.Validators[1].Commission, v.Validators[1].Outstanding, v.Balances[1]), fmt.Sprint(0, 7, before.Balances[1]-7))
}

func TestP14Refusals(t *testing.T) {
	g := costly()
	g.Fee = 0
	x := begin(t, g)
	x.Bond(1, 0, 100)
	before := x.See()
	for _, c := range []struct {
		who, val int
		e        api.Errno
	}{
		{3, 0, api.ErrAccount}, {-1, 9, api.ErrAccount}, {least, 0, api.ErrAccount}, {greatest, 0, api.ErrAccount},
		{1, 4, api.ErrValidator}, {0, -1, api.ErrValidator}, {0, least, api.ErrValidator}, {0, greatest, api.ErrValidator},
		{1, 0, api.ErrOwner}, {0, 1, api.ErrOwner}, {2, 3, api.ErrOwner},
	} {
		refused(t, x, fmt.Sprintf("Collect(%d, %d)", c.who, c.val), before, x.Collect(c.who, c.val), c.e)
	}
	refused(t, x, "Collect by an owner without shares", before, x.Collect(0, 0), api.OK)
	refused(t, x, "Collect where nobody has shares", before, x.Collect(2, 2), api.OK)
}

func TestP9BondPaysWhatIsDue(t *testing.T) {
	x := atTwo(t)
	a, b := due(t, x, 1, 0, 12, 13), due(t, x, 0, 0, 3, 4)
	same(t, "Bond", x.Bond(1, 0, 50), api.OK)
	v := x.See()
	same(t, "balances", v.Balances, []int{880, 690 - 10 - 50 + a})
	same(t, "validator", v.Validators[0], api.Validator{Owner: 0, Rate: 10, Tokens: 450, Shares: 450, Commission: 2, Outstanding: 20 - a, InSet: true})
	due(t, x, 1, 0, 0, 0)
	same(t, "Due of the other", due(t, x, 0, 0, 3, 4), b)
}

func TestP9FundsAreThoseBeforeWhatIsDueIsPaid(t *testing.T) {
	x := atTwo(t)
	a := due(t, x, 1, 0, 12, 13)
	same(t, "Bond of one too many", x.Bond(1, 0, 681), api.ErrFunds)
	same(t, "Due behind a Bond that was refused", due(t, x, 1, 0, 12, 13), a)
	same(t, "outstanding behind a Bond that was refused", x.See().Validators[0].Outstanding, 20)
	same(t, "Bond of all", x.Bond(1, 0, 670), api.OK)
	same(t, "balance", x.See().Balances[1], a)
}

func TestP10UnbondPaysWhatIsDue(t *testing.T) {
	x := atTwo(t)
	a, b := due(t, x, 1, 0, 12, 13), due(t, x, 0, 0, 3, 4)
	same(t, "Unbond of too many", x.Unbond(1, 0, 301), api.ErrShares)
	same(t, "Due behind an Unbond that was refused", due(t, x, 1, 0, 12, 13), a)
	same(t, "Unbond of some", x.Unbond(1, 0, 1), api.OK)
	v := x.See()
	same(t, "balances", v.Balances, []int{880, 690 - 20 + a})
	same(t, "validator", v.Validators[0], api.Validator{Owner: 0, Rate: 10, Tokens: 399, Shares: 399, Commission: 2, Outstanding: 20 - a, InSet: true})
	due(t, x, 1, 0, 0, 0)
	same(t, "Due of the other", due(t, x, 0, 0, 3, 4), b)
	same(t, "Unbond of all", x.Unbond(0, 0, 100), api.OK)
	v = x.See()
	same(t, "balances", v.Balances, []int{870 + b, 690 - 20 + a})
	same(t, "what is over stays till the last share leaves", fmt.Sprint(v.Validators[0].Outstanding, v.Pool), fmt.Sprint(20-a-b, 10))
}

func TestP10LastShareLeavesTheCommission(t *testing.T) {
	x := atTwo(t)
	a, b := due(t, x, 1, 0, 12, 13), due(t, x, 0, 0, 3, 4)
	x.Unbond(0, 0, 100)
	x.Unbond(1, 0, 299)
	same(t, "ahead of the last share", fmt.Sprint(x.See().Validators[0].Outstanding, x.See().Pool), fmt.Sprint(20-a-b, 10))
	same(t, "Unbond of the last share", x.Unbond(1, 0, 1), api.OK)
	v := x.See()
	same(t, "pool", v.Pool, 10+18-a-b)
	same(t, "validator", v.Validators[0], api.Validator{Owner: 0, Rate: 10, Commission: 2, Outstanding: 2, InSet: true})
	same(t, "Bond anew", x.Bond(1, 0, 5), api.OK)
	due(t, x, 1, 0, 0, 0)
	same(t, "Collect", x.Collect(0, 0), api.OK)
	v = x.See()
	same(t, "validator", v.Validators[0], api.Validator{Owner: 0, Rate: 10, Tokens: 5, Shares: 5, InSet: true})
	same(t, "balance", v.Balances[0], 880-20+b+2)
}

func TestP11MovePaysAtBoth(t *testing.T) {
	x := begin(t, costly())
	x.Bond(1, 0, 100)
	x.Bond(2, 0, 100)
	x.Bond(1, 1, 100)
	x.Bond(2, 1, 100)
	x.Block()
	fees(x, 6)
	x.Block() // of 42, 21 each: 6 and 10 of them commission
	a, b := due(t, x, 1, 0, 6, 7), due(t, x, 1, 1, 4, 5)
	c, d := due(t, x, 2, 0, 6, 7), due(t, x, 2, 1, 4, 5)
	before := x.See()
	same(t, "Move to none", x.Move(1, 0, 9, 5), api.ErrValidator)
	same(t, "Dues behind a Move that was refused", fmt.Sprint(due(t, x, 1, 0, 6, 7), due(t, x, 1, 1, 4, 5)), fmt.Sprint(a, b))
	same(t, "Move", x.Move(1, 0, 1, 5), api.OK)
	v := x.See()
	same(t, "balance", v.Balances[1], before.Balances[1]-14+a+b)
	same(t, "val", v.Validators[0], api.Validator{Owner: 0, Rate: 33, Tokens: 195, Shares: 195, Commission: 6, Outstanding: 21 - a, InSet: true})
	same(t, "to", v.Validators[1], api.Validator{Owner: 1, Rate: 50, Tokens: 205, Shares: 205, Commission: 10, Outstanding: 21 - b, InSet: true})
	due(t, x, 1, 0, 0, 0)
	due(t, x, 1, 1, 0, 0)
	same(t, "Dues of the other", fmt.Sprint(due(t, x, 2, 0, 6, 7), due(t, x, 2, 1, 4, 5)), fmt.Sprint(c, d))
}

func TestP11LastShareLeavesByAMove(t *testing.T) {
	x := begin(t, costly())
	x.Bond(1, 0, 100)
	x.Bond(2, 0, 100)
	x.Block()
	fees(x, 3)
	x.Block() // 21: 6 of them commission
	a, b := due(t, x, 1, 0, 6, 7), due(t, x, 2, 0, 6, 7)
	x.Unbond(1, 0, 100)
	before := x.See()
	same(t, "Move of the last share", x.Move(2, 0, 2, 100), api.OK)
	v := x.See()
	same(t, "balance", v.Balances[2], before.Balances[2]-7+b)
	same(t, "pool", v.Pool, before.Pool+15-a-b)
	same(t, "val", v.Validators[0], api.Validator{Owner: 0, Rate: 33, Commission: 6, Outstanding: 6, InSet: true})
	same(t, "to", v.Validators[2], api.Validator{Owner: 2, Tokens: 100, Shares: 100})
	due(t, x, 2, 2, 0, 0)
}

func TestP12EachByItsSharesAndItsTime(t *testing.T) {
	g := costly()
	g.Rates[0] = 0
	x := begin(t, g)
	x.Bond(1, 0, 100)
	x.Block()
	fees(x, 10)
	x.Block() // 70 to account 1
	x.Bond(2, 0, 300)
	due(t, x, 2, 0, 0, 0)
	fees(x, 9)
	x.Block() // 70: 17.5 and 52.5
	due(t, x, 1, 0, 86, 87)
	due(t, x, 2, 0, 51, 52)
	x.Unbond(2, 0, 300)
	fees(x, 9)
	x.Block() // 70 to account 1
	due(t, x, 1, 0, 156, 157)
	x.Bond(2, 0, 100)
	due(t, x, 2, 0, 0, 0)
	fees(x, 9)
	x.Block() // 35 each
	due(t, x, 1, 0, 191, 192)
	due(t, x, 2, 0, 34, 35)
}

func TestP12DueTellsTheSameTillSomethingIsSharedOut(t *testing.T) {
	x := begin(t, costly())
	x.Bond(1, 0, 101)
	x.Bond(2, 0, 303)
	x.Bond(2, 1, 77)
	x.Block()
	fees(x, 5)
	x.Block()
	d := due(t, x, 1, 0, 0, 35)
	x.Withdraw(2, 0)
	x.Bond(2, 0, 55)
	x.Move(2, 1, 0, 33)
	x.Bond(0, 0, 11)
	x.Unbond(2, 0, 200)
	x.Collect(0, 0)
	x.Withdraw(1, 7)
	x.Bond(1, 3, 5)
	x.Spend(1, 3)
	same(t, "Due behind what others did", due(t, x, 1, 0, 0, 35), d)
	before := x.See().Balances[1]
	x.Withdraw(1, 0)
	same(t, "what Withdraw paid", x.See().Balances[1], before-7+d)
}

// A block that shares nothing out leaves what is due as it is.
func TestP12BlocksWithoutFees(t *testing.T) {
	x := atTwo(t)
	d := due(t, x, 1, 0, 12, 13)
	blocks(t, x, 500)
	same(t, "Due behind 500 blocks", due(t, x, 1, 0, 12, 13), d)
}
