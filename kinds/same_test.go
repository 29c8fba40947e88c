package kinds_test

import (
	"fmt"
	"math"
	"math/rand"
	"strings"
	"sync"
	"testing"

	"signetry/api"
	"signetry/kinds"
)

// firstNames is what the very first calls return, which run beside each other.
var firstNames = namesAtOnce(50)

func namesAtOnce(count int) []string {
	l := make([]string, count)
	var wait sync.WaitGroup
	for i := range l {
		wait.Go(func() { l[i] = kinds.Name(api.TSint64) })
	}
	wait.Wait()
	return l
}

// R2: the first calls find the whole table, too.
func TestFirstCalls(t *testing.T) {
	for i, name := range firstNames {
		if name != "sint64" {
			t.Errorf("call %d returned %q", i, name)
		}
	}
}

// allResults is the results of all functions for random arguments, as a text that
// can be compared.
func allResults(seed int64) string {
	r := rand.New(rand.NewSource(seed))
	number := func() int {
		switch r.Intn(8) {
		case 0:
			return int(r.Uint64())
		case 1:
			return []int{math.MinInt, math.MaxInt, -1, 1 << 32, 1<<32 + 5}[r.Intn(5)]
		}
		return r.Intn(21) - 1
	}
	name := func() string {
		return []string{"", "int32", "bytes", "\xff", "M", strings.Repeat("int32", r.Intn(3)), kinds.Name(number())}[r.Intn(7)]
	}
	random := func() api.Field {
		return api.Field{Name: name(), Json: name(), Ref: name(), Num: number(), Type: number(), Card: number(), Key: number(), Oneof: number()}
	}
	var b strings.Builder
	for range 20 {
		a, of, mag := number(), name(), r.Uint64()>>r.Intn(64)
		f, g := random(), random()
		fmt.Fprintln(&b, a, of, kinds.Class(a), kinds.Wire(a), kinds.Name(a), kinds.Type(of), kinds.Domain(a),
			kinds.Holds(a, r.Intn(2) == 0, mag), kinds.Within(a, number()), kinds.Reads(f, g), kinds.Key(a), kinds.Packs(a))
		if got := kinds.Reads(f, g); got != secondReads(f, g) {
			fmt.Fprintf(&b, "Reads of %+v, %+v is %t", f, g, got)
		}
	}
	return b.String()
}

// R1, R2: no call panics, whatever it is given; a call returns the same again,
// after other calls and beside them.
func TestSameResultAgain(t *testing.T) {
	const count = 300
	results := make([]string, count)
	var first sync.WaitGroup
	for i := range results {
		first.Go(func() { results[i] = allResults(int64(i)) })
	}
	first.Wait()
	for i, result := range results {
		if again := allResults(int64(i)); again != result || strings.Contains(result, "Reads") {
			t.Errorf("%d: %s\nthen %s", i, result, again)
		}
	}
}

// R1: names that are as long as they may be.
func TestLongNames(t *testing.T) {
	long := strings.Repeat("int32", 1<<22)
	if kinds.Type(long) != 0 {
		t.Errorf("it is %d", kinds.Type(long))
	}
	f, g := field(api.TMsg, api.One), field(api.TMsg, api.Opt)
	f.Ref, g.Ref = long, long[:len(long)-1]+"2"
	if !kinds.Reads(f, g) {
		t.Error("a long name is not read")
	}
	g.Ref = long[:len(long)-1] + "3"
	if kinds.Reads(f, g) {
		t.Error("another long name is read")
	}
}
