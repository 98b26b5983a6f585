package pace_test

import (
	"math"
	"testing"

	"depot/api"
	"depot/pace"
)

func sameLuby(t *testing.T, i, want int) {
	t.Helper()
	if got := pace.Luby(i); got != want {
		t.Errorf("Luby(%d) = %d, not %d", i, got, want)
	}
}

// P13.1: the first numbers, as the chapter writes them.
func TestLubyFirst(t *testing.T) {
	for i, want := range []int{1, 1, 2, 1, 1, 2, 4, 1, 1, 2, 1, 1, 2, 4, 8} {
		sameLuby(t, i+1, want)
	}
}

// P13.1, by the words and by the runs of which the sequence is made.
func TestLubyByWords(t *testing.T) {
	for k, want := range lubyByRuns(20) {
		if got := pace.Luby(k + 1); got != want || lubyByWords(k+1) != want {
			t.Fatalf("Luby(%d) = %d, not %d", k+1, got, want)
		}
	}
}

// P13.1, next to each power of two.
func TestLubyAtPowers(t *testing.T) {
	for k := 3; k <= 62; k++ {
		power := 1 << k
		sameLuby(t, power-2, power/4)
		sameLuby(t, power-1, power/2)
		sameLuby(t, power, 1)
		sameLuby(t, power+1, 1)
		sameLuby(t, power+2, 2)
		for i := power - 40; i < power+40; i++ {
			sameLuby(t, i, lubyByWords(i))
		}
		// The run begins anew behind 2^k - 1.
		sameLuby(t, power-1+power/2-1, power/4)
	}
}

// P13.1, up to the greatest int and far out.
func TestLubyGreatest(t *testing.T) {
	sameLuby(t, math.MaxInt, 1<<62)
	sameLuby(t, math.MaxInt-1, 1<<61)
	sameLuby(t, math.MaxInt-2, 1<<60)
	for k := range 1000 {
		sameLuby(t, math.MaxInt-k, lubyByWords(math.MaxInt-k))
	}
	draw := drawn(1)
	for range 10000 {
		i := (draw.Intn(1<<31)<<31 | draw.Intn(1<<31)) >> draw.Intn(40)
		sameLuby(t, i, lubyByWords(i))
	}
}

// P13.1: 0 below 1.
func TestLubyBelow(t *testing.T) {
	for _, i := range []int{0, -1, -2, -3, -5, -7, -8, -api.MaxPace, math.MinInt, math.MinInt + 1, math.MinInt / 2, -math.MaxInt / 2} {
		sameLuby(t, i, 0)
	}
}

// P13.1: Seq's numbers are Luby's, from the first on, and it doesn't end by itself.
func TestSeqIsLuby(t *testing.T) {
	const most = 1 << 20
	want := lubyByRuns(21)
	i := 0
	for x := range pace.Seq() {
		i++
		if x != want[i-1] || x != pace.Luby(i) {
			t.Fatalf("number %d of Seq is %d, not %d", i, x, want[i-1])
		}
		if i == most {
			break
		}
	}
	if i != most {
		t.Errorf("Seq ended behind %d numbers", i)
	}
}
