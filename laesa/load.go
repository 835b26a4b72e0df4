package laesa

import (
	"slices"

	"waywiser/api"
	"waywiser/metric"
	"waywiser/object"
)

// Load answers the table of an image.
func Load(m *metric.Meter, most int, x api.Image) (*Table, api.Errno) {
	if m == nil {
		return nil, api.ErrNil
	}
	t := New(m, most)
	// What can be told without asking how far anything is goes first.
	if hasOthers(x) || !rise(x.Rows) || !t.takePivots(x.Pivots) || !t.takeRows(x.Rows) {
		return nil, api.ErrCorrupt
	}
	return t, api.OK
}

// hasOthers tells whether an image has anything that no table is made of.
func hasOthers(x api.Image) bool {
	return len(x.Bk) > 0 || len(x.Vp) > 0 || len(x.Mn) > 0 || x.Root != 0
}

// rise tells whether the numbers of rows rise.
func rise(rows []api.Lr) bool {
	for at := range rows {
		if at > 0 && rows[at-1].Item.Id >= rows[at].Item.Id {
			return false
		}
	}
	return true
}

// takePivots makes pivots of those of an image, if they may be.
func (t *Table) takePivots(l []api.Object) bool {
	if len(l) > max(t.most, 0) {
		return false
	}
	for _, x := range l {
		if slices.Contains(t.fars(x), 0) {
			return false
		}
		t.pivots = append(t.pivots, object.Clone(x))
	}
	return true
}

// takeRows takes the rows of an image, if each one tells how far its thing is from the pivots.
func (t *Table) takeRows(rows []api.Lr) bool {
	for _, row := range rows {
		x := row.Item
		x.Obj = object.Clone(x.Obj)
		fars := t.fars(x.Obj)
		if !slices.Equal(row.Row, fars) {
			return false
		}
		t.add(x, fars)
	}
	return true
}
