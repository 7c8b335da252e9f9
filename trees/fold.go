package trees

import "notary/api"

// one is the fold of one value.
func one(v int) api.Fold {
	return api.Fold{Count: 1, Sum: v, Min: v, Max: v}
}

// Together puts two folds together.
func Together(a, b api.Fold) api.Fold {
	f := api.Fold{Count: a.Count + b.Count, Sum: a.Sum + b.Sum, Min: min(a.Min, b.Min), Max: max(a.Max, b.Max)}
	// Of no values the least and the greatest say nothing.
	if a.Count == 0 {
		f.Min, f.Max = b.Min, b.Max
	} else if b.Count == 0 {
		f.Min, f.Max = a.Min, a.Max
	}
	return f
}
