package post

import (
	"fmt"
	"maps"
	"math/rand"
	"slices"
	"strings"
	"testing"

	"post/api"
	"post/disktest"
)

// model does what K3 says, without a disk.
type model struct {
	last  int
	mails map[int]api.Mail
	left  map[int][]api.Address
	tried map[string][]int // by number and address: when
	boxes map[string][]api.Letter
}

func (m *model) put(mail api.Mail) {
	m.last++
	m.mails[m.last] = mail
	for _, a := range mail.To {
		if !slices.Contains(m.left[m.last], a) {
			m.left[m.last] = append(m.left[m.last], a)
		}
	}
}

func (m *model) done(id int, to api.Address) {
	m.left[id] = slices.DeleteFunc(slices.Clone(m.left[id]), func(a api.Address) bool { return a == to })
	if len(m.left[id]) == 0 {
		delete(m.left, id)
	}
}

func (m *model) run(now int, kinds map[string]int) []api.Sent {
	var sent []api.Sent
	tried := maps.Clone(m.tried)
	for id := 1; id <= m.last; id++ {
		for _, to := range m.left[id] {
			name := fmt.Sprint(id, to)
			kind, known := kinds[to.Domain]
			if !known {
				kind = 1
			}
			if n := len(tried[name]); n >= 8 {
				kind = 2
			} else if n > 0 && now < tried[name][n-1]+[]int{60, 120, 240, 480, 960, 1920, 3600}[n-1] {
				continue
			} else if to.Domain == "here" {
				m.boxes[to.Local] = append(m.boxes[to.Local], api.Letter{Key: fmt.Sprintf("%012d", id), Data: m.mails[id].Data})
				m.done(id, to)
				continue
			}
			switch kind {
			case 0:
				sent = append(sent, api.Sent{ID: id, To: to, Mail: m.mails[id]})
				m.done(id, to)
			case 1:
				m.tried[name] = append(slices.Clone(m.tried[name]), now)
			case 2:
				from := m.mails[id].From
				if from != (api.Address{}) {
					data := tells(from.Local+"@"+from.Domain, to.Local+"@"+to.Domain, m.mails[id].Data)
					if len(m.mails[id].Data) > 1000 {
						data = strings.TrimSuffix(tells(from.Local+"@"+from.Domain, to.Local+"@"+to.Domain, ""), "\r\n")
					}
					m.put(api.Mail{To: []api.Address{from}, Data: data})
				}
				m.done(id, to)
			}
		}
	}
	return sent
}

var domains = []string{"far.net", "slow.net", "gone.net", "here"}

func anyAddress(r *rand.Rand) string {
	return []string{"ann", "bob"}[r.Intn(2)] + "@" + domains[r.Intn(len(domains))]
}

func anyMail(r *rand.Rand) (string, string, []string) {
	from := ""
	if r.Intn(4) > 0 {
		from = anyAddress(r)
	}
	data := ""
	for range r.Intn(4) {
		data += strings.Repeat("x", []int{0, 1, 7, 300, 498, 500}[r.Intn(6)]) + "\r\n"
	}
	var to []string
	for range 1 + r.Intn(5) {
		to = append(to, anyAddress(r))
	}
	return from, data, to
}

func anyFates(r *rand.Rand) ([]api.Fate, map[string]int) {
	var l []api.Fate
	kinds := make(map[string]int)
	for range r.Intn(5) {
		f := api.Fate{Domain: domains[r.Intn(len(domains))], Kind: r.Intn(4) - r.Intn(2)}
		l = append(l, f)
		if _, ok := kinds[f.Domain]; !ok {
			kinds[f.Domain] = []int{1, 0, 1, 2, 1}[f.Kind+1]
		}
	}
	return l, kinds
}

// unique tells the addresses of texts, each once.
func unique(texts []string) []api.Address {
	var l []api.Address
	for _, s := range texts {
		if !slices.Contains(l, at(s)) {
			l = append(l, at(s))
		}
	}
	return l
}

func TestK3Random(t *testing.T) {
	for seed := range 400 {
		r := rand.New(rand.NewSource(int64(seed)))
		h := newHost(t)
		m := &model{mails: make(map[int]api.Mail), left: make(map[int][]api.Address), tried: make(map[string][]int), boxes: make(map[string][]api.Letter)}
		now := 0
		for range 60 {
			switch r.Intn(12) {
			case 0:
				disktest.Again()[r.Intn(37)](h.disk)
				h.open()
				clear(m.tried)
			case 1, 2, 3:
				from, data, to := anyMail(r)
				h.mail(from, data, to...)
				mail := api.Mail{To: unique(to), Data: data}
				if from != "" {
					mail.From = at(from)
				}
				m.put(mail)
			default:
				now = max(0, now+[]int{-61, 0, 1, 59, 60, 61, 120, 240, 480, 960, 1920, 3600, 5000}[r.Intn(13)])
				l, kinds := anyFates(r)
				if r.Intn(2) == 0 {
					l, kinds = nil, nil
				}
				h.run(now, l, m.run(now, kinds)...)
			}
			h.waits(slices.Sorted(maps.Keys(m.left))...)
			for _, user := range []string{"ann", "bob"} {
				h.expect(fmt.Sprintf("K3: seed %d: the letters of %s", seed, user), h.Box(user), m.boxes[user])
			}
		}
	}
}
