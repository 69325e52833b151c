package deal

import (
	"math"
	"slices"
	"testing"

	"accord/api"
)

func TestSound(t *testing.T) {
	sound := [][]api.Write{
		{{Part: 1}},
		{{Part: 3, Key: 3, Value: math.MinInt}},
		{{Part: 1}, {Part: 1, Key: 1}, {Part: 1, Key: 2}, {Part: 1, Key: 3}, {Part: 2}, {Part: 3}},
	}
	for _, writes := range sound {
		if !Sound(writes, 3) {
			t.Errorf("%v are not sound", writes)
		}
	}
	wrong := [][]api.Write{
		nil,
		{},
		{{Part: 0}},
		{{Part: 4}},
		{{Part: math.MinInt}},
		{{Part: math.MaxInt}},
		{{Part: 1, Key: -1}},
		{{Part: 1, Key: 4}},
		{{Part: 1, Key: math.MinInt}},
		{{Part: 1, Key: math.MaxInt}},
		{{Part: 2, Key: 1, Value: 1}, {Part: 1, Key: 1}, {Part: 2, Key: 1, Value: 2}},
		{{Part: 1}, {Part: 1, Key: 1}, {Part: 1, Key: 2}, {Part: 1, Key: 3}, {Part: 2}, {Part: 3}, {Part: 3, Key: 1}},
	}
	for _, writes := range wrong {
		if Sound(writes, 3) {
			t.Errorf("%v are sound", writes)
		}
	}
}

func TestMembers(t *testing.T) {
	d := Make([]api.Write{{Part: 5}, {Part: 2, Key: 1}, {Part: 5, Key: 2}, {Part: 1}})
	if got := d.Members(); !slices.Equal(got, []int{1, 2, 5}) {
		t.Errorf("the members are %v, want 1, 2, 5", got)
	}
}

func TestValue(t *testing.T) {
	writes := []api.Write{{Part: 2, Key: 1, Value: 7}, {Part: 1, Key: 2}}
	d := Make(writes)
	writes[0].Value = 8
	if v, ok := d.Value(2, 1); v != 7 || !ok {
		t.Errorf("part 2, key 1: %d, %t, want 7", v, ok)
	}
	if v, ok := d.Value(1, 2); v != 0 || !ok {
		t.Errorf("part 1, key 2: %d, %t, want 0", v, ok)
	}
	if v, ok := d.Value(1, 1); v != 0 || ok {
		t.Errorf("part 1, key 1: %d, %t, want none", v, ok)
	}
}
