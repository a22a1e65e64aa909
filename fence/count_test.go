package fence

import "testing"

// A fence counts on where calls alone would get only after minutes: up to as many as the document lets there be, and beyond what 32 bits hold.
func TestFe1GreatCounts(t *testing.T) {
	for _, from := range []int{1<<31 - 3, 1<<32 - 3, 1<<53 - 3} {
		for _, few := range []int{0, 7} {
			f := New()
			f.kept.Store(&state{epoch: 4, passed: from, refused: few})
			g := New()
			g.kept.Store(&state{epoch: 4, passed: few, refused: from})
			for n := range 6 {
				if !f.Pass(4) || g.Pass(3) {
					t.Fatalf("call %d", n)
				}
				if a, b := f.Passed(); a != from+n+1 || b != few || f.Epoch() != 4 {
					t.Fatalf("Passed() = %d, %d; want %d, %d", a, b, from+n+1, few)
				}
				if a, b := g.Passed(); a != few || b != from+n+1 || g.Epoch() != 4 {
					t.Fatalf("Passed() = %d, %d; want %d, %d", a, b, few, from+n+1)
				}
			}
		}
	}
}
