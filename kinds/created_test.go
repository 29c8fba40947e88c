package kinds

import "testing"

// P17.1: the table that is created once is the one that the function writes out,
// however often it is asked for, and whatever becomes of what it was.
func TestCreatedTable(t *testing.T) {
	for i := range 3 {
		l := created()
		if l != types() {
			t.Errorf("%d: %v, want %v", i, l, types())
		}
		clear(l[:])
	}
	if table != types() {
		t.Errorf("the table is %v", table)
	}
}

// P17.1: looked up in either, each type is the same row, and each other number
// none.
func TestRowsOfBothTables(t *testing.T) {
	for n := -300; n < 300; n++ {
		kept, written := numbered(created(), n), ofType(n)
		if kept != written || kept.wire == noWire != (kept.number == 0) {
			t.Errorf("%d: %+v and %+v", n, kept, written)
		}
	}
}
