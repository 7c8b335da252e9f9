package trees

import (
	"notary/api"
	"notary/digest"
	"notary/wire"
)

// OfLog is the source of the log that has these values.
func OfLog(values []int) Source {
	return ofPlaces(func(place int) api.Node {
		return logNode(values[place])
	})
}

// OfTable is the source of the table that has these values under their keys.
func OfTable(values map[int]int) Source {
	return ofPlaces(func(key int) api.Node {
		v, there := values[key]
		if !there {
			return wire.Empty()
		}
		return keyNode(key, v)
	})
}

// ofPlaces is the source that knows the node of each place.
func ofPlaces(at func(place int) api.Node) Source {
	return func(p Part) (api.Node, bool) {
		switch p.Size() {
		case 0:
			return wire.Empty(), true
		case 1:
			return at(p.From), true
		}
		return api.Node{}, false
	}
}

func logNode(v int) api.Node {
	text := wire.AppendNumber([]byte("L"), v)
	return api.Node{Fold: one(v), Hash: digest.Of(string(text))}
}

func keyNode(key int, v int) api.Node {
	text := wire.AppendNumber(wire.AppendNumber([]byte("T"), key), v)
	return api.Node{Fold: one(v), Hash: digest.Of(string(text))}
}
