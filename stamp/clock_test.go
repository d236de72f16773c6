package stamp_test

import (
	"math"
	"testing"

	"folkmoot/api"
	"folkmoot/stamp"
)

func clock(t *testing.T, node int, last int64) *stamp.Clock {
	t.Helper()
	c, err := stamp.New(node, last)
	if c == nil || err != api.OK {
		t.Fatalf("New(%d, %d): %d", node, last, err)
	}
	return c
}

func wantNow(t *testing.T, c *stamp.Clock, want api.Stamp, wantErr api.Errno) {
	t.Helper()
	if got, err := c.Now(); got != want || err != wantErr {
		t.Fatalf("Now: %v, %d, want %v, %d", got, err, want, wantErr)
	}
}

func wantLast(t *testing.T, c *stamp.Clock, want int64) {
	t.Helper()
	if got := c.Last(); got != want {
		t.Fatalf("Last: %d, want %d", got, want)
	}
}

// P1.6
func TestNewClockIsAtLast(t *testing.T) {
	for node := 1; node <= api.MaxNode; node++ {
		for _, last := range []int64{0, 1, 4, api.MaxTime - 1, api.MaxTime} {
			wantLast(t, clock(t, node, last), last)
		}
	}
}

// P1.6
func TestNewRefusesWrongNodesAndTimes(t *testing.T) {
	cases := []struct {
		node int
		last int64
	}{
		{0, 0}, {-1, 0}, {api.MaxNode + 1, 0}, {math.MaxInt, 5}, {math.MinInt, 5},
		{1, -1}, {1, api.MaxTime + 1}, {1, math.MaxInt64}, {1, math.MinInt64},
		{0, -1}, {api.MaxNode + 1, api.MaxTime + 1},
	}
	for _, c := range cases {
		if got, err := stamp.New(c.node, c.last); got != nil || err != api.ErrArg {
			t.Errorf("New(%d, %d): %v, %d", c.node, c.last, got, err)
		}
	}
}

// P1.7
func TestNowIsOneTimeBehindLast(t *testing.T) {
	c := clock(t, 3, 0)
	wantNow(t, c, at(1, 3), api.OK)
	wantLast(t, c, 1)
	wantNow(t, c, at(2, 3), api.OK)
	wantNow(t, c, at(3, 3), api.OK)
	wantLast(t, c, 3)
}

// P1.7
func TestNowEndsAtMaxTime(t *testing.T) {
	c := clock(t, 7, api.MaxTime-1)
	wantNow(t, c, at(api.MaxTime, 7), api.OK)
	for range 3 {
		wantNow(t, c, none, api.ErrOver)
		wantLast(t, c, api.MaxTime)
	}
	wantNow(t, clock(t, 1, api.MaxTime), none, api.ErrOver)
}

// P1.7
func TestTickGoesForwardAlone(t *testing.T) {
	c := clock(t, 1, 4)
	steps := []struct{ to, want int64 }{
		{3, 4}, {4, 4}, {0, 4}, {-1, 4}, {math.MinInt64, 4}, {5, 5}, {9, 9}, {8, 9},
		{api.MaxTime + 1, 9}, {math.MaxInt64, 9}, {api.MaxTime - 1, api.MaxTime - 1},
		{api.MaxTime + 1, api.MaxTime - 1}, {api.MaxTime, api.MaxTime}, {api.MaxTime + 1, api.MaxTime}, {1, api.MaxTime},
	}
	for _, s := range steps {
		c.Tick(s.to)
		wantLast(t, c, s.want)
	}
	wantNow(t, c, none, api.ErrOver)
}

// P1.7
func TestSeeTicksToEach(t *testing.T) {
	c := clock(t, 1, 4)
	c.See()
	c.See(nil...)
	c.See(none, at(3, 2), at(4, 7), at(-8, 1))
	wantLast(t, c, 4)
	c.See(at(6, 2), at(9, 1), at(7, 7))
	wantLast(t, c, 9)
	c.See(at(api.MaxTime+1, 1), at(11, 3), at(math.MaxInt64, 2))
	wantLast(t, c, 11)
	c.See(at(12, 0), at(13, -1), at(14, api.MaxNode+1))
	wantLast(t, c, 14)
	c.See(at(api.MaxTime, 1))
	wantLast(t, c, api.MaxTime)
}

// P1.7
func TestExampleOfTheChapter(t *testing.T) {
	c := clock(t, 1, 4)
	wantNow(t, c, at(5, 1), api.OK)
	c.See(at(9, 2))
	wantNow(t, c, at(10, 1), api.OK)
	wantLast(t, c, 10)
}

// P1.7
func TestNilClock(t *testing.T) {
	var c *stamp.Clock
	c.See(at(5, 1), none)
	c.See()
	c.Tick(9)
	wantNow(t, c, none, api.ErrNone)
	wantLast(t, c, 0)
}

// P1.7, rule 4: a clock hangs on the calls on it alone.
func TestClocksAreApart(t *testing.T) {
	a, b := clock(t, 1, 4), clock(t, 1, 4)
	a.Tick(90)
	wantNow(t, b, at(5, 1), api.OK)
	wantNow(t, a, at(91, 1), api.OK)
	wantNow(t, b, at(6, 1), api.OK)
}

// P1.8
func TestStampsOfAClockRiseAboveAllThatWereSeen(t *testing.T) {
	for node := 1; node <= api.MaxNode; node++ {
		c := clock(t, node, 0)
		var seen []api.Stamp
		step := int64(1)
		for i := range 2000 {
			step = step * 48271 % 2147483647
			other := at(c.Last()+step%5-2, int(step%api.MaxNode)+1)
			switch i % 3 {
			case 0:
				c.See(other)
				seen = append(seen, other)
			case 1:
				c.Tick(other.Time)
			}
			now, err := c.Now()
			if err != api.OK || stamp.Check(now) != api.OK || now.Node != node {
				t.Fatalf("Now: %v, %d", now, err)
			}
			if top := stamp.Max(seen...); stamp.Compare(now, top) <= 0 {
				t.Fatalf("%v is not above %v", now, top)
			}
			seen = append(seen, now)
		}
	}
}
