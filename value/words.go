package value

import "handloom/api"

// own is a value's words without those of its Kids.
func own(v api.Value) int {
	switch {
	case v.Kind == api.VaInt, v.Kind == api.VaCon && len(v.Kids) == 0:
		return 0
	case v.Kind == api.VaBytes:
		return 2 + (len(v.Bytes)+7)/8
	}
	return 2 + len(v.Kids)
}

// counted is the Kids whose words a value has, too.
func counted(v api.Value) []api.Value {
	switch v.Kind {
	case api.VaInt, api.VaBytes:
		return nil
	}
	return v.Kids
}
