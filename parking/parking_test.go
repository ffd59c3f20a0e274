package parking

import (
	"math"
	"math/big"
	"math/rand"
	"slices"
	"strconv"
	"testing"

	"ferrers/api"
)

// eachList hands on all lists of so many numbers from the least to the greatest.
func eachList(length, least, greatest int, do func(l []int)) {
	if length > 0 && least > greatest {
		return
	}
	l := slices.Repeat([]int{least}, length)
	for {
		do(l)
		k := length - 1
		for k >= 0 && l[k] == greatest {
			l[k] = least
			k--
		}
		if k < 0 {
			return
		}
		l[k]++
	}
}

// parked lets the cars park in a line by P42's words, and tells whether each found a place.
func parked(l []int) ([]int, bool) {
	n := len(l)
	taken := make([]bool, n+1)
	var places []int
	for _, liked := range l {
		at := liked
		for at <= n && taken[at] {
			at++
		}
		if at > n {
			return nil, false
		}
		taken[at] = true
		places = append(places, at)
	}
	return places, true
}

// shifted is each place the s-th one behind it, in a round of one place more than cars.
func shifted(l []int, s int) []int {
	var other []int
	for _, liked := range l {
		for range s {
			liked++
			if liked > len(l)+1 {
				liked = 1
			}
		}
		other = append(other, liked)
	}
	return other
}

// luckyOnes are all numbers that P42's words allow.
func luckyOnes(l []int) []int {
	var list []int
	for s := 0; s <= len(l); s++ {
		other := shifted(l, s)
		if slices.Contains(other, len(l)+1) {
			continue
		}
		if _, all := parked(other); all {
			list = append(list, s)
		}
	}
	return list
}

// randomList has so many numbers from 1 to the greatest.
func randomList(r *rand.Rand, length, greatest int) []int {
	var l []int
	for range length {
		l = append(l, 1+r.Intn(greatest))
	}
	return l
}

// countUp is the numbers from the first to the last one.
func countUp(first, last int) []int {
	var l []int
	for n := first; n <= last; n++ {
		l = append(l, n)
	}
	return l
}

func TestCheck(t *testing.T) {
	for _, c := range []struct {
		l    []int
		want api.Errno
	}{
		{nil, api.OK},
		{[]int{}, api.OK},
		{[]int{1}, api.OK},
		{[]int{0}, api.ErrArg},
		{[]int{2}, api.ErrArg},
		{[]int{2, 2}, api.OK},
		{[]int{2, 3}, api.ErrArg},
		{[]int{-1, 1}, api.ErrArg},
		{[]int{1, math.MinInt}, api.ErrArg},
		{[]int{math.MaxInt, 1}, api.ErrArg},
		{slices.Repeat([]int{20}, 20), api.OK},
		{append(slices.Repeat([]int{20}, 19), 21), api.ErrArg},
		{slices.Repeat([]int{1}, 21), api.ErrLarge},
		{slices.Repeat([]int{0}, 21), api.ErrLarge},
		{slices.Repeat([]int{99}, 5000), api.ErrLarge},
	} {
		if err := Check(c.l); err != c.want {
			t.Error(c.l, err, c.want)
		}
		if c.want == api.OK {
			continue
		}
		if l, err := Park(c.l); l != nil || err != c.want {
			t.Error(c.l, l, err, c.want)
		}
		if l, err := Rooted(c.l); l != nil || err != c.want {
			t.Error(c.l, l, err, c.want)
		}
	}
}

func TestPark(t *testing.T) {
	for _, c := range []struct {
		l, places []int
		err       api.Errno
	}{
		{nil, nil, api.OK},
		{[]int{1}, []int{1}, api.OK},
		{[]int{1, 1, 2}, []int{1, 2, 3}, api.OK},
		{[]int{2, 1, 1}, []int{2, 1, 3}, api.OK},
		{[]int{3, 1, 1}, []int{3, 1, 2}, api.OK},
		{[]int{2, 2}, nil, api.ErrNone},
		{[]int{1, 3, 3}, nil, api.ErrNone},
		{[]int{3, 3, 1}, nil, api.ErrNone},
		{slices.Repeat([]int{1}, 20), countUp(1, 20), api.OK},
		{slices.Repeat([]int{2}, 20), nil, api.ErrNone},
		{append(countUp(2, 20), 20), nil, api.ErrNone},
		{append(countUp(2, 20), 1), append(countUp(2, 20), 1), api.OK},
	} {
		if places, err := Park(c.l); err != c.err || !slices.Equal(places, c.places) {
			t.Error(c.l, places, err, c.places, c.err)
		}
	}
}

// samePark holds Park of a list of likeable places against P42's words, and tells whether all found one.
func samePark(t *testing.T, l []int) bool {
	t.Helper()
	want, all := parked(l)
	places, err := Park(l)
	if !slices.Equal(places, want) || all != (err == api.OK) || !all && (err != api.ErrNone || places != nil) {
		t.Fatal(l, places, err, want)
	}
	return all
}

// TestCountIsListed: what is counted is listed, each list held against P42's words.
func TestCountIsListed(t *testing.T) {
	for n := range 8 {
		count := 0
		eachList(n, 1, n, func(l []int) {
			if samePark(t, l) {
				count++
			}
		})
		if text, err := Count(n); err != api.OK || text != strconv.Itoa(count) {
			t.Error(n, text, err, count)
		}
	}
}

func TestParkOfManyCars(t *testing.T) {
	r := rand.New(rand.NewSource(1))
	found := 0
	for range 20000 {
		// Lists that like the front are those in which all find a place.
		n := 8 + r.Intn(13)
		if samePark(t, randomList(r, n, 1+r.Intn(n))) {
			found++
		}
	}
	if found < 1000 || found > 19000 {
		t.Error(found)
	}
}

func TestCount(t *testing.T) {
	for n, want := range []string{"1", "1", "3", "16", "125", "1296", "16807", "262144", "4782969", "100000000"} {
		if text, err := Count(n); err != api.OK || text != want {
			t.Error(n, text, err, want)
		}
	}
	for n := 1; n <= 60; n++ {
		power := new(big.Int).Exp(big.NewInt(int64(n+1)), big.NewInt(int64(n-1)), nil)
		if text, err := Count(n); err != api.OK || text != power.String() {
			t.Error(n, text, err, power)
		}
	}
	for _, n := range []int{-1, 61, 62, math.MinInt, math.MaxInt} {
		if text, err := Count(n); err != api.ErrArg || text != "" {
			t.Error(n, text, err)
		}
	}
}

func TestLucky(t *testing.T) {
	for _, c := range []struct {
		l    []int
		s    int
		want api.Errno
	}{
		{nil, 0, api.OK},
		{[]int{1}, 0, api.OK},
		{[]int{2}, 1, api.OK},
		{[]int{0}, 0, api.ErrArg},
		{[]int{3}, 0, api.ErrArg},
		{[]int{2, 2}, 2, api.OK},
		{[]int{3, 3}, 1, api.OK},
		{[]int{1, 4}, 0, api.ErrArg},
		{[]int{math.MaxInt, 1}, 0, api.ErrArg},
		{[]int{1, math.MinInt}, 0, api.ErrArg},
		{slices.Repeat([]int{1}, 20), 0, api.OK},
		{slices.Repeat([]int{2}, 20), 20, api.OK},
		{slices.Repeat([]int{21}, 20), 1, api.OK},
		{append(slices.Repeat([]int{21}, 19), 22), 0, api.ErrArg},
		{slices.Repeat([]int{1}, 21), 0, api.ErrLarge},
		{slices.Repeat([]int{0}, 21), 0, api.ErrLarge},
	} {
		if s, err := Lucky(c.l); s != c.s || err != c.want {
			t.Error(c.l, s, err, c.s, c.want)
		}
	}
}

// TestLuckyIsTheOne: of all numbers the one that P42's words allow.
func TestLuckyIsTheOne(t *testing.T) {
	hold := func(l []int) {
		s, err := Lucky(l)
		if err != api.OK || !slices.Equal(luckyOnes(l), []int{s}) {
			t.Fatal(l, s, err, luckyOnes(l))
		}
		if _, err := Park(shifted(l, s)); err != api.OK {
			t.Fatal(l, s, err)
		}
	}
	for n := range 7 {
		eachList(n, 1, n+1, hold)
	}
	r := rand.New(rand.NewSource(2))
	for range 3000 {
		n := 7 + r.Intn(14)
		hold(randomList(r, n, n+1))
	}
}
