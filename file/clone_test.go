package file

import (
	"slices"
	"testing"

	"moraine/api"
)

// changes are calls, each of which changes some of the bytes or blocks of mixed.
func changes() []func(*pair) {
	return []func(*pair){
		func(x *pair) { x.write(0, []byte{7}) },
		func(x *pair) { x.write(30, rising(500, 9)) },
		func(x *pair) { x.write(56, make([]byte, 56)) },
		func(x *pair) { x.write(112, filled(56, 3)) },
		func(x *pair) { x.write(1697, []byte{1, 2}) },
		func(x *pair) { x.write(1720, []byte{1, 2}) },
		func(x *pair) { x.write(46367, []byte{1}) },
		func(x *pair) { x.write(0, rising(46368, 2)) },
		func(x *pair) { x.trunc(0) },
		func(x *pair) { x.trunc(30) },
		func(x *pair) { x.trunc(560) },
		func(x *pair) { x.trunc(1690) },
		func(x *pair) { x.trunc(1736) },
		func(x *pair) { x.trunc(46368) },
		func(x *pair) { x.own(0, filled(56, 9)) },
		func(x *pair) { x.own(0, make([]byte, 56)) },
		func(x *pair) { x.own(29, filled(56, 9)) },
		func(x *pair) { x.own(600, filled(56, 9)) },
		func(x *pair) { x.place(1, 800) },
		func(x *pair) { x.place(28, 801) },
		func(x *pair) {
			x.f.Blocks().Move(7, 880)
			x.p.cells[6].address = 880
		},
		func(x *pair) {
			x.f.Blocks().Cut(15)
			clear(x.p.cells[15:])
		},
	}
}

// A clone is as its file.
func TestCloneIsTheSame(t *testing.T) {
	for _, x := range []*pair{both(t, 0), both(t, 5), both(t, 100, 1, 2), both(t, 46368, from(1, 829)...), both(t, 46368), small(t), mixed(t)} {
		x.clone().same()
		x.clone().clone().same()
		x.same()
	}
}

// What is done to one of them isn't done to the other one: each call, on the clone and on the file.
func TestCloneIsItsOwn(t *testing.T) {
	for _, change := range changes() {
		x := mixed(t)
		y := x.clone()
		change(y)
		y.same()
		x.same()

		x = mixed(t)
		y = x.clone()
		change(x)
		y.same()
		x.same()
	}
}

// So with each two calls, one on each of them.
func TestCloneAndFileEachChange(t *testing.T) {
	for _, one := range changes() {
		for i, other := range changes() {
			x := mixed(t)
			y := x.clone()
			one(x)
			other(y)
			x.quick()
			y.quick()
			if i%5 == 0 {
				x.same()
				y.same()
			}
		}
	}
}

// Many clones of one file, and of one another: each goes its own way.
func TestManyClones(t *testing.T) {
	all := []*pair{mixed(t)}
	for i, change := range changes() {
		y := all[i*7%len(all)].clone()
		if i != 18 && i != 19 || y.p.cells[1].kind == isNew && y.p.cells[28].kind == isNew {
			change(y)
		}
		all = append(all, y)
	}
	for _, x := range all {
		x.same()
	}
	for i, x := range all {
		changes()[i%14](x)
	}
	for _, x := range all {
		x.same()
	}
}

// A clone has the same Source: what that tells later, it tells both.
func TestCloneHasTheSameSource(t *testing.T) {
	d := newDisk()
	x := made(t, d, 300, 1, 2, 3, 4, 5, 6)
	y := x.clone()
	d.bytes[2] = filled(56, 77)
	x.same()
	y.same()
	d.wrong[3] = api.ErrIO
	x.refused(api.ErrIO, x.reading(0, 300))
	y.refused(api.ErrIO, y.reading(0, 300))
	y.refused(api.ErrIO, func() api.Errno { return y.write(120, []byte{1}) })
	y.refused(api.ErrIO, func() api.Errno { return y.trunc(120) })
	clear(d.wrong)
	got, err := y.read(60, 3)
	if err != api.OK || !slices.Equal(got, []byte{77, 77, 77}) {
		t.Error(got, err)
	}
}

// Clone asks the Source for nothing.
func TestCloneAsksForNothing(t *testing.T) {
	d := newDisk()
	x := made(t, d, 300, 1, 2, 3, 4, 5, 6)
	x.f.Clone()
	if len(d.asked) > 0 {
		t.Error("asked for", d.asked)
	}
}
