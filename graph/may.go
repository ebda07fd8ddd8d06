package graph

import (
	"slices"

	"tallow/api"
	"tallow/val"
)

func kindMay(_ int, o api.Obj) bool {
	return o.Kind == 0 || api.KindStr <= o.Kind && o.Kind <= api.KindCell
}

func numbersMay(_ int, o api.Obj) bool {
	if o.Kind == 0 {
		return o.Count == 0 && o.Mark == 0
	}
	return o.Count >= 0 && o.Mark >= -1
}

func textMay(_ int, o api.Obj) bool { return o.Kind == api.KindStr || o.Text == "" }

// slotsMay answers what asks whether an object of g has slots that it may have.
func slotsMay(g api.Graph) ask {
	mayNot := func(v api.Value) bool {
		return !val.May(v) || v.Kind == api.KindNone || val.Ref(v) && !there(g, v)
	}
	return func(_ int, o api.Obj) bool {
		if o.Kind == 0 || o.Kind == api.KindStr {
			return len(o.Slots) == 0
		}
		return !slices.ContainsFunc(o.Slots, mayNot)
	}
}

// there tells whether g has the object of that value, and it is of the kind that the value says.
func there(g api.Graph, v api.Value) bool {
	return v.N <= int64(len(g.Objs)) && g.Objs[v.N-1].Kind == v.Kind
}
