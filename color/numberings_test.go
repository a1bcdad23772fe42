package color

import (
	"testing"

	"mizmaze/api"
	"mizmaze/auto"
	"mizmaze/sample"
)

// Road goes through all colourings if it has to: if they are not too many, numberings misses none.
func TestNumberings(t *testing.T) {
	for a := range sample.SmallAutos() {
		if len(a.Next) > 4 {
			continue
		}
		ranged := map[string]bool{}
		for b := range numberings(a) {
			if same, _ := Same(a, b); !same {
				t.Fatal(a, b)
			}
			s, _ := auto.Text(b)
			ranged[s] = true
		}
		if count, _ := Colorings(a); len(ranged) != count {
			t.Fatal(a, len(ranged), count)
		}
	}
}

// Of too many colourings only some are tried, the one that is given first; whether they can be counted or not.
func TestManyNumberings(t *testing.T) {
	next := sample.Numbers(1)
	for _, a := range []api.Auto{sample.Auto(next, 60, 6), sample.Auto(next, 30, 2)} {
		tried := 0
		for b := range numberings(a) {
			first, _ := auto.Text(a)
			if s, _ := auto.Text(b); tried == 0 && s != first {
				t.Fatal(s)
			}
			tried++
			if tried > scattered {
				break
			}
		}
		if tried != scattered {
			t.Error(tried)
		}
	}
}
