package ends

import "braid/api"

// Fit tells what is wrong with a configuration.
func Fit(c api.Config) api.Errno {
	numbers := [...]struct{ n, least, most int }{
		{c.Paths, 1, api.MaxPaths},
		{c.Mss, 1, api.MaxMss},
		{c.SendBuf, 1, api.MaxBuf},
		{c.RecvBuf, c.Mss, api.MaxBuf},
		{c.Gaps, 1, api.MaxGaps},
		{c.Retries, 1, api.MaxRetries},
		{c.Bag, 1, api.MaxBag},
		{c.Sched, 0, api.NumScheds - 1},
		{len(c.Weights), 0, c.Paths},
	}
	for _, x := range numbers {
		if x.n < x.least || x.n > x.most {
			return api.ErrConfig
		}
	}
	for _, w := range c.Weights {
		if w < 1 || w > api.MaxWeight {
			return api.ErrConfig
		}
	}
	if max(c.Base[api.SideA], c.Base[api.SideB]) > api.MaxOff {
		return api.ErrConfig
	}
	return api.OK
}
