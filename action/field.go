package action

import (
	"strconv"

	"belfry/api"
)

// fieldOf is the field of a right step.
func fieldOf(s api.Step) api.Field {
	data := append([]byte{byte(len(s.Key))}, s.Key...)
	if s.Kind == api.Add {
		data = strconv.AppendInt(data, s.N, 10)
	} else {
		data = append(data, s.Value...) // a Drop or a Cancel has none
	}
	return api.Field{Tag: int(s.Kind), Data: data}
}

// stepOf is the step that a field is of. It may be a wrong one: what lies
// behind the Key of any kind but Add is taken for its Value.
func stepOf(f api.Field) (api.Step, bool) {
	if len(f.Data) == 0 {
		return api.Step{}, false
	}
	size, text := int(f.Data[0]), string(f.Data[1:])
	if size > len(text) {
		return api.Step{}, false
	}
	s := api.Step{Kind: api.StepKind(f.Tag), Key: text[:size]}
	if s.Kind != api.Add {
		s.Value = text[size:]
		return s, true
	}
	n, is := number(text[size:])
	if !is {
		return api.Step{}, false
	}
	s.N = n
	return s, true
}

// number is the number that a text is of. ParseInt takes texts that are none
// of a number, too: with a plus, with noughts ahead, -0.
func number(text string) (int64, bool) {
	n, err := strconv.ParseInt(text, 10, 64)
	if err != nil || strconv.FormatInt(n, 10) != text {
		return 0, false
	}
	return n, true
}
