package audit

import (
	"slices"

	"braid/api"
)

// rule is one of those that a side must keep: whether an event shows that it was broken.
type rule struct {
	number int
	broken func(*Auditor, look) bool
}

func rules() []rule {
	return []rule{
		{api.RuleForm, (*Auditor).unreadable},
		{api.RuleNumber, (*Auditor).misnumbered},
		{api.RuleEdge, (*Auditor).beyondEdge},
		{api.RuleBytes, (*Auditor).saysOtherwise},
		{api.RuleCut, (*Auditor).cutOtherwise},
		{api.RuleEnd, (*Auditor).againstEnd},
		{api.RuleAck, (*Auditor).acksUnheard},
		{api.RuleDack, (*Auditor).tellsWrong},
		{api.RuleToken, (*Auditor).otherToken},
		{api.RuleRole, (*Auditor).outOfRole},
		{api.RuleAfter, (*Auditor).behindReset},
		{api.RuleSilent, (*Auditor).silent},
	}
}

func (a *Auditor) unreadable(l look) bool { return l.sending() && !l.read }

func (a *Auditor) misnumbered(l look) bool {
	return l.sending() && l.numbered() && l.f.Num != a.due(l)
}

// due is the number that a numbered frame must have.
func (a *Auditor) due(l look) uint64 {
	switch {
	case !a.single:
		return l.way().numbered
	case l.is(api.KindProbe):
		return 0
	}
	return l.own.placeOf(l.chunk())
}

func (a *Auditor) beyondEdge(l look) bool {
	return l.sends(api.KindData) && l.span().Hi > l.own.edge
}

func (a *Auditor) saysOtherwise(l look) bool {
	return l.sends(api.KindData) && l.own.said.differs(l.f.Off, l.f.Data)
}

func (a *Auditor) cutOtherwise(l look) bool {
	if !l.sends(api.KindData) {
		return false
	}
	return len(l.f.Data) > a.mss || !l.own.hasSent(l.chunk()) && l.own.said.any(l.span())
}

func (a *Auditor) againstEnd(l look) bool {
	switch {
	case l.sends(api.KindFin):
		return l.own.lowEnd < l.f.Off || l.own.highEnd > l.f.Off || l.own.reach > l.f.Off
	case l.sends(api.KindData):
		return l.span().Hi > l.own.lowEnd
	}
	return false
}

func (a *Auditor) acksUnheard(l look) bool {
	if !l.sends(api.KindAck) {
		return false
	}
	if a.single && (len(l.f.Ranges) != 1 || l.f.Ranges[0].Lo != 0) {
		return true
	}
	heard := l.peer.paths[l.Path].proper
	return slices.ContainsFunc(l.f.Ranges, func(r api.Range) bool { return !heard.Covers(r) })
}

func (a *Auditor) tellsWrong(l look) bool {
	if !l.sends(api.KindDack) {
		return false
	}
	if l.f.Off < l.own.toldOff || l.f.Edge < l.own.toldEdge {
		return true
	}
	return l.f.Off > l.own.heardUpTo(l.peer.base) || l.f.Edge > l.f.Off+a.room
}

func (a *Auditor) otherToken(l look) bool {
	return l.sends(api.KindRst, api.KindJoin) && l.f.Token != l.peer.token
}

func (a *Auditor) outOfRole(l look) bool {
	switch {
	case l.sends(api.KindJoin, api.KindProve):
		return a.single || l.Side == api.SideB
	case l.sends(api.KindJoined):
		return a.single || l.Side == api.SideA
	}
	return a.single && l.sends(api.KindPrio, api.KindGone)
}

// behindReset: a side that ends sends its RSTs one right behind the other, by rising paths, and nothing more.
func (a *Auditor) behindReset(l look) bool {
	switch {
	case !l.sending() || !l.read:
		return false
	case l.own.wasReset:
		return true
	case !l.own.reset:
		return false
	}
	return !l.is(api.KindRst) || l.Path <= l.own.resetPath || l.place != l.own.resetPlace+1
}

func (a *Auditor) silent(l look) bool { return a.debt.owes != nothing && !a.debt.fits(l) }
