package staking_test

import (
	"fmt"
	"testing"

	"staking/api"
)

func TestP8FeesGoToThePoolWhereNobodyIsBonded(t *testing.T) {
	x := begin(t, example())
	x.Send(0, 0, 1)
	x.Send(1, 7, 1)
	same(t, "Block", x.Block(), api.OK)
	want := api.View{Height: 1, Balances: []int{990, 990}, Pool: 20, Validators: []api.Validator{{Owner: 0, Rate: 10}}}
	same(t, "See", x.See(), want)
	same(t, "Block without fees", x.Block(), api.OK)
	want.Height = 2
	same(t, "See behind a Block without fees", x.See(), want)
	x.Send(0, 0, 1)
	same(t, "Block with new fees", x.Block(), api.OK)
	want.Height, want.Balances[0], want.Pool = 3, 980, 30
	same(t, "See behind a Block with new fees", x.See(), want)
}

func TestP8NobodyIsChosenWithoutTokens(t *testing.T) {
	g := example()
	g.Owners, g.Rates, g.Top = []int{0, 1, 1}, []int{10, 20, 30}, 5
	x := begin(t, g)
	want := x.See().Validators
	x.Send(0, 1, 5)
	blocks(t, x, 3)
	same(t, "validators", x.See().Validators, want)
}

func TestP8LastBlock(t *testing.T) {
	x := begin(t, example())
	blocks(t, x, 999)
	same(t, "height", x.See().Height, 999)
	x.Send(0, 1, 1)
	same(t, "Block at 999", x.Block(), api.OK)
	same(t, "height and pool", fmt.Sprint(x.See().Height, x.See().Pool), "1000 10")
	x.Send(0, 1, 1)
	want := x.See()
	same(t, "Block at 1000", x.Block(), api.ErrEnd)
	same(t, "Block at 1000, again", x.Block(), api.ErrEnd)
	same(t, "See behind a Block that was refused", x.See(), want)
	same(t, "fees", want.Fees, 10)
}

func TestP8MessagesGoOnBehindTheLastBlock(t *testing.T) {
	x := begin(t, example())
	x.Send(0, 1, 5)
	blocks(t, x, 1000)
	same(t, "Send", x.Send(0, 1, 5), api.OK)
	same(t, "Spend", x.Spend(0, 10), api.OK)
	v := x.See()
	same(t, "balances, fees, pool", fmt.Sprint(v.Balances, v.Fees, v.Pool), "[980 1010] 10 0")
}
