package laesa

import (
	"cmp"
	"slices"

	"waywiser/api"
	"waywiser/bound"
	"waywiser/draws"
	"waywiser/object"
	"waywiser/pivots"
)

// has tells whether a number is there.
func (t *Table) has(id uint64) bool {
	_, there := t.places[id]
	return there
}

// fars answers how far a thing is from each pivot.
func (t *Table) fars(x api.Object) []int {
	row := make([]int, 0, len(t.pivots))
	for _, pivot := range t.pivots {
		row = append(row, t.meter.Dist(pivot, x))
	}
	return row
}

// put puts in a thing whose number isn't there, and makes a pivot of it, if it may be one.
func (t *Table) put(x api.Item) {
	x.Obj = object.Clone(x.Obj)
	row := t.fars(x.Obj)
	if len(t.pivots) < t.most && !slices.Contains(row, 0) {
		t.addPivot(x.Obj)
		// Each thing is 0 away from itself.
		row = append(row, 0)
	}
	t.add(x, row)
}

// add takes a thing, and its row, as they are.
func (t *Table) add(x api.Item, row []int) {
	t.places[x.Id] = len(t.rows)
	t.rows = append(t.rows, &api.Lr{Item: x, Row: row})
}

// cut takes out the row at a place, to which the last one moves.
func (t *Table) cut(at int) {
	last := len(t.rows) - 1
	delete(t.places, t.rows[at].Item.Id)
	if at < last {
		t.rows[at] = t.rows[last]
		t.places[t.rows[at].Item.Id] = at
	}
	// The room behind the end would keep alive what is gone.
	t.rows[last] = nil
	t.rows = t.rows[:last]
}

// addPivot takes a thing as a pivot more, from which all that are there get their distance.
func (t *Table) addPivot(x api.Object) {
	t.pivots = append(t.pivots, x)
	for _, row := range t.rows {
		row.Row = append(row.Row, t.meter.Dist(x, row.Item.Obj))
	}
}

// choose makes pivots of things that are far from each other.
func (t *Table) choose(l []api.Item, d *draws.Source) {
	things := make([]api.Object, 0, len(l))
	for _, x := range l {
		things = append(things, x.Obj)
	}
	for _, at := range pivots.Choose(t.meter, things, t.most, d.Pick(len(l))) {
		t.addPivot(object.Clone(things[at]))
	}
}

// maybe answers which things may be within r of q, by their places: each is no nearer than its Low, and these rise.
func (t *Table) maybe(q api.Object, r int) []api.Entry {
	fars := t.fars(q)
	var l []api.Entry
	for at, row := range t.rows {
		if low := Low(row.Row, fars); !bound.Cut(low, r) {
			l = append(l, api.Entry{Low: low, Node: at, Id: row.Item.Id})
		}
	}
	slices.SortFunc(l, compare)
	return l
}

// compare answers which thing is looked at first. In which place a row stands plays no part.
func compare(a, b api.Entry) int {
	return cmp.Or(cmp.Compare(a.Low, b.Low), cmp.Compare(a.Id, b.Id))
}
