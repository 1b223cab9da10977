package block

import (
	"testing"
)

// changes are calls, each of which changes some of the blocks of mixed.
func changes() []func(*pair) {
	return []func(*pair){
		func(x *pair) { x.put(0, filled(9)) },
		func(x *pair) { x.put(1, filled(9)) },
		func(x *pair) { x.put(2, filled(9)) },
		func(x *pair) { x.put(0, make([]byte, 56)) },
		func(x *pair) { x.put(1, make([]byte, 56)) },
		func(x *pair) { x.put(827, one(55, 1)) },
		func(x *pair) { x.place(1, 65535) },
		func(x *pair) { x.place(826, 1) },
		func(x *pair) { x.move(1, 65535) },
		func(x *pair) { x.move(4, 7) },
		func(x *pair) { x.cut(0) },
		func(x *pair) { x.cut(1) },
		func(x *pair) { x.cut(414) },
		func(x *pair) { x.cut(825) },
		func(x *pair) {
			for k := range 828 {
				x.put(k, filled(byte(1+k%100)))
			}
		},
	}
}

// A clone is as its map.
func TestCloneIsTheSame(t *testing.T) {
	for _, x := range []*pair{both(t), both(t, 5, 0, 7), both(t, from(1, 829)...), mixed(t)} {
		x.clone().same()
		x.clone().clone().same()
		x.same()
	}
}

// What one of them does isn't done to the other one: each call, on the clone and on the map.
func TestCloneIsItsOwn(t *testing.T) {
	for _, change := range changes() {
		x := mixed(t)
		y := x.clone()
		change(y)
		y.same()
		x.same()

		x = mixed(t)
		y = x.clone()
		change(x)
		y.same()
		x.same()
	}
}

// So with each two calls, one on each of them.
func TestCloneAndMapEachChange(t *testing.T) {
	for _, one := range changes() {
		for _, other := range changes() {
			x := mixed(t)
			y := x.clone()
			one(x)
			other(y)
			x.same()
			y.same()
		}
	}
}

// Many clones of one map, and of one another: each goes its own way.
func TestManyClones(t *testing.T) {
	all := []*pair{mixed(t)}
	for i, change := range changes() {
		y := all[i*7%len(all)].clone()
		change(y)
		all = append(all, y)
	}
	for _, x := range all {
		x.same()
	}
	for i, x := range all {
		changes()[i%len(changes())](x)
	}
	for _, x := range all {
		x.same()
	}
}

// A clone of a map without blocks can be filled, and so can the map.
func TestCloneOfNothing(t *testing.T) {
	x := both(t)
	y := x.clone()
	y.put(5, filled(1))
	x.put(6, filled(2))
	x.place(6, 3)
	y.same()
	x.same()
}
