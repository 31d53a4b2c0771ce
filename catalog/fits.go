package catalog

import (
	"commonhold/api"
	"commonhold/shape"
)

func tableName(t api.Table) string { return t.Name }

func columnName(c api.Column) string { return c.Name }

func indexName(x api.Index) string { return x.Name }

// isNew tells whether a key was not seen yet, and notes it.
func isNew[K comparable](seen map[K]struct{}, k K) bool {
	_, was := seen[k]
	seen[k] = struct{}{}
	return !was
}

// noTwo: whether no two elements of a list have the same key.
func noTwo[T any, K comparable](l []T, keyOf func(T) K) bool {
	seen := map[K]struct{}{}
	for _, x := range l {
		if !isNew(seen, keyOf(x)) {
			return false
		}
	}
	return true
}

// fitsAll: whether a list has so many elements, at least and at most, each of which fits, and no two of which have the same key.
func fitsAll[T any, K comparable](l []T, least, most int, keyOf func(T) K, fits func(T) bool) bool {
	// How many there are is asked first, so that a list that is too long is not gone through.
	if len(l) < least || len(l) > most {
		return false
	}
	for _, x := range l {
		if !fits(x) {
			return false
		}
	}
	return noTwo(l, keyOf)
}

func fitsTable(t api.Table) bool {
	isColumn := func(place int) bool { return place >= 0 && place < len(t.Columns) }
	isFilled := func(place int) bool { return isColumn(place) && t.Columns[place].NotNull }
	fitsIndex := func(x api.Index) bool { return shape.MayName(x.Name) && fitsPlaces(x.Places, isColumn) }
	return shape.MayName(t.Name) &&
		fitsAll(t.Columns, 1, api.MaxCols, columnName, fitsColumn) &&
		fitsPlaces(t.Key, isFilled) &&
		fitsAll(t.Indexes, 0, api.MaxIndex, indexName, fitsIndex)
}

func fitsColumn(c api.Column) bool {
	return shape.MayName(c.Name) && c.Type >= api.Truth && c.Type <= api.Text
}

// fitsPlaces: of a key, or of an index; fits tells which columns may stand in it.
func fitsPlaces(l []int, fits func(int) bool) bool {
	return fitsAll(l, 1, api.MaxKeys, func(place int) int { return place }, fits)
}
