package pair

import (
	"slices"

	"stickful/api"
)

// rule is one of the chapter's table: it says whether it applies to a place, and whether a line may end there if so.
type rule struct {
	number uint8
	says   func(p place) (applies, ends bool)
}

// table has all rules, in their order.
type table [24]rule

// What a rule says of a place that it applies to.
const holds, ends = false, true

// first returns what the first rule that applies says of p; the last one always does.
func (t *table) first(p place) verdict {
	var v verdict
	for _, r := range t {
		if applies, may := r.says(p); applies {
			v = verdict{r.number, may}
			break
		}
	}
	return v
}

// rules makes the table.
func rules() table {
	return table{
		{4, func(p place) (bool, bool) { return p.a == api.ClBK, ends }},
		{5, func(p place) (bool, bool) {
			return in(p.a, api.ClCR, api.ClLF, api.ClNL), !p.of(api.ClCR, api.ClLF)
		}},
		{6, func(p place) (bool, bool) { return in(p.b, api.ClBK, api.ClCR, api.ClLF, api.ClNL), holds }},
		{7, func(p place) (bool, bool) { return in(p.b, api.ClSP, api.ClZW), holds }},
		{8, func(p place) (bool, bool) { return p.o == api.ClZW, ends }},
		{9, func(p place) (bool, bool) { return p.clings, holds }},
		{11, func(p place) (bool, bool) { return p.a == api.ClWJ || p.b == api.ClWJ, holds }},
		{12, func(p place) (bool, bool) {
			return p.a == api.ClGL || p.b == api.ClGL && !in(p.a, api.ClSP, api.ClBA, api.ClHY), holds
		}},
		{13, func(p place) (bool, bool) { return in(p.b, api.ClCL, api.ClEX, api.ClIS), holds }},
		{14, func(p place) (bool, bool) { return p.o == api.ClOP, holds }},
		{15, func(p place) (bool, bool) { return p.o == api.ClQU && p.b == api.ClOP, holds }},
		{16, func(p place) (bool, bool) { return p.o == api.ClCL && p.b == api.ClNS, holds }},
		{17, func(p place) (bool, bool) { return p.o == api.ClB2 && p.b == api.ClB2, holds }},
		{18, func(p place) (bool, bool) { return p.a == api.ClSP, ends }},
		{19, func(p place) (bool, bool) { return p.a == api.ClQU || p.b == api.ClQU, holds }},
		{20, func(p place) (bool, bool) { return p.a == api.ClCB || p.b == api.ClCB, ends }},
		{21, func(p place) (bool, bool) { return in(p.b, api.ClBA, api.ClHY, api.ClNS) || p.a == api.ClBB, holds }},
		{22, func(p place) (bool, bool) { return p.b == api.ClIN, holds }},
		{23, func(p place) (bool, bool) {
			return p.of(api.ClAL, api.ClNU) || p.of(api.ClNU, api.ClAL) || p.of(api.ClPR, api.ClID) || p.of(api.ClID, api.ClPO), holds
		}},
		{24, func(p place) (bool, bool) {
			return p.of(api.ClPR, api.ClAL) || p.of(api.ClPO, api.ClAL) || p.of(api.ClAL, api.ClPR, api.ClPO), holds
		}},
		{25, func(p place) (bool, bool) {
			return p.of(api.ClCL, api.ClPO, api.ClPR) || p.of(api.ClNU, api.ClPO, api.ClPR, api.ClNU) ||
				p.of(api.ClPO, api.ClOP, api.ClNU) || p.of(api.ClPR, api.ClOP, api.ClNU) ||
				p.of(api.ClHY, api.ClNU) || p.of(api.ClIS, api.ClNU), holds
		}},
		{28, func(p place) (bool, bool) { return p.of(api.ClAL, api.ClAL), holds }},
		{29, func(p place) (bool, bool) { return p.of(api.ClIS, api.ClAL), holds }},
		{31, func(place) (bool, bool) { return true, ends }},
	}
}

// of reports whether the place is between an a and one of these bs.
func (p place) of(a uint8, bs ...uint8) bool { return p.a == a && in(p.b, bs...) }

// in reports whether class is one of these.
func in(class uint8, classes ...uint8) bool { return slices.Contains(classes, class) }
