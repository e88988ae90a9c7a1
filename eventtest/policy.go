package eventtest

import "scrub/api"

// RoomyPolicy copies a policy into lists that are each the front of a longer one.
func RoomyPolicy(p api.Policy) api.Policy {
	p.Rules = RoomyList(p.Rules, api.Rule{Name: "behind"})
	for i, rule := range p.Rules {
		p.Rules[i].Attrs = RoomyList(rule.Attrs, "behind")
	}
	p.Schemes = RoomyList(p.Schemes, "behind")
	p.Drop = RoomyList(p.Drop, "behind")
	return p
}

// WholePolicy copies a policy, with what stands in the room behind each list's end.
func WholePolicy(p api.Policy) api.Policy {
	p.Rules = WholeList(p.Rules)
	for i, rule := range p.Rules {
		p.Rules[i].Attrs = WholeList(rule.Attrs)
	}
	p.Schemes = WholeList(p.Schemes)
	p.Drop = WholeList(p.Drop)
	return p
}
