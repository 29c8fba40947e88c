package kinds

import "signetry/api"

// isField tells whether a field has a type, a card, and, if it is a map, a type
// of its keys.
func isField(f api.Field) bool {
	if Class(f.Type) == 0 {
		return false
	}
	switch f.Card {
	case api.One, api.Opt, api.Rep:
		return true
	case api.Map:
		return Key(f.Key)
	}
	return false
}

// readsValue tells whether a newer field reads each single value of an older one.
func readsValue(older, newer api.Field) bool {
	return readsType(older.Type, newer.Type) &&
		(older.Type != api.TMsg || older.Ref == newer.Ref) &&
		(older.Card != api.Map || readsType(older.Key, newer.Key))
}

// readsType tells whether a newer type reads an older one, whatever the names of
// messages are.
func readsType(older, newer int) bool {
	return Class(older) == Class(newer) || older == api.TString && newer == api.TBytes
}

// readsCard tells whether a newer field reads as many values as an older one has.
func readsCard(older, newer api.Field) bool {
	switch {
	case older.Card == api.Map || newer.Card == api.Map:
		return older.Card == newer.Card
	case older.Card == api.Rep && newer.Card != api.Rep:
		// Values that are packed are not read one by one.
		return !Packs(older.Type)
	}
	return true
}
