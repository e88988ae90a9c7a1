package policy_test

import (
	"math"
	"math/rand"
	"regexp"
	"slices"
	"strconv"
	"strings"
	"testing"

	"scrub/api"
	"scrub/policy"
	"scrub/vocabulary"
)

// base is a valid policy that leaves room for faults of every number.
func base() api.Policy {
	return api.Policy{
		Rules:   []api.Rule{{Name: "a", Attrs: []string{"href", "title"}}, {Name: "b"}, {Name: "img", Attrs: []string{"src", "alt"}}},
		Schemes: []string{"http", "mailto"},
		Drop:    []string{"svg", "div"},
		Depth:   8,
		Window:  64,
	}
}

// words makes count words of the same length.
func words(count, length int) []string {
	var all []string
	for i := range count {
		number := strconv.Itoa(i)
		all = append(all, strings.Repeat("w", length-len(number))+number)
	}
	return all
}

func allow(p *api.Policy, name string, attrs ...string) {
	p.Rules = append(p.Rules, api.Rule{Name: name, Attrs: attrs})
}

// faults holds ways to make a policy invalid, by the number of the fault. Each
// of them leaves the faults that are there already.
func faults() map[int][]func(*api.Policy) {
	all := map[int][]func(*api.Policy){}
	add := func(number int, turn func(*api.Policy)) { all[number] = append(all[number], turn) }
	for _, depth := range []int{math.MinInt, -1, 0, 257, math.MaxInt} {
		add(api.PolicyDepth, func(p *api.Policy) { p.Depth = depth })
	}
	for _, window := range []int{math.MinInt, -32, 0, 31, 4097, math.MaxInt} {
		add(api.PolicyWindow, func(p *api.Policy) { p.Window = window })
	}
	for _, name := range []string{"", "B", "b ", "script", "style", "svg", "title", "h7", "\xff"} {
		add(api.PolicyElement, func(p *api.Policy) { allow(p, name) })
	}
	for _, name := range []string{"a", "b", "img"} {
		add(api.PolicyElementTwice, func(p *api.Policy) { allow(p, name, "id") })
	}
	add(api.PolicyElementTwice, func(p *api.Policy) { allow(p, "i"); allow(p, "u"); allow(p, "i") })
	for i, name := range []string{"", "ID", "style", "onclick", "srcset", "href ", "\x00"} {
		add(api.PolicyAttribute, func(p *api.Policy) { allow(p, "h"+strconv.Itoa(1+i%6), "id", name) })
	}
	add(api.PolicyAttributeTwice, func(p *api.Policy) { allow(p, "code", "id", "id") })
	add(api.PolicyAttributeTwice, func(p *api.Policy) { allow(p, "em", "href", "id", "cite", "href") })
	for _, word := range []string{
		"", "javascript", "vbscript", "data", "Http", "hTTP", "1a", "-a", "+a", ".a", "a_b", "a b", "a:", "a\x00", "a\xff", " a",
		words(1, 33)[0],
	} {
		add(api.PolicyScheme, func(p *api.Policy) { p.Schemes = append(p.Schemes, word) })
	}
	add(api.PolicyScheme, func(p *api.Policy) { p.Schemes = append(p.Schemes, words(31, 5)...) })
	add(api.PolicySchemeTwice, func(p *api.Policy) { p.Schemes = append(p.Schemes, "mailto") })
	add(api.PolicySchemeTwice, func(p *api.Policy) { p.Schemes = append(p.Schemes, "x", "y", "x") })
	for _, word := range []string{
		"", "Svg", "1a", "-a", "a.b", "a+b", "a_b", "a b", "a\x00", "a\xff", words(1, 33)[0], "a", "b", "img", "svg",
		"area", "base", "br", "col", "embed", "hr", "input", "link", "meta", "source", "track", "wbr",
	} {
		add(api.PolicyDrop, func(p *api.Policy) { p.Drop = append(p.Drop, word) })
	}
	add(api.PolicyDrop, func(p *api.Policy) { p.Drop = append(p.Drop, words(63, 6)...) })
	add(api.PolicyDrop, func(p *api.Policy) { p.Drop = append(p.Drop, "x", "y", "x") })
	add(api.PolicyParts, func(p *api.Policy) { allow(p, "ol") })
	add(api.PolicyParts, func(p *api.Policy) { allow(p, "ul", "class") })
	add(api.PolicyParts, func(p *api.Policy) { allow(p, "table"); allow(p, "tr") })
	return all
}

func TestOneFault(t *testing.T) {
	if got := policy.Check(base()); got != api.PolicyOK {
		t.Fatalf("Check of a valid policy = %d", got)
	}
	for number, turns := range faults() {
		for i, turn := range turns {
			p := base()
			turn(&p)
			if got := policy.Check(p); got != number {
				t.Errorf("Check of fault %d of number %d = %d", i, number, got)
			}
		}
	}
}

// Of several faults the smallest number is told, whatever stands first.
func TestSeveralFaults(t *testing.T) {
	all := faults()
	for one := range all {
		for other := range all {
			if one == other {
				continue
			}
			for i, first := range all[one] {
				for j, second := range all[other] {
					p := base()
					first(&p)
					second(&p)
					if got := policy.Check(p); got != min(one, other) {
						t.Errorf("Check of fault %d of %d and %d of %d = %d", i, one, j, other, got)
					}
				}
			}
		}
	}
	for from := api.PolicyDepth; from <= api.PolicyParts; from++ {
		p := base()
		for number := api.PolicyParts; number >= from; number-- {
			all[number][0](&p)
		}
		if got := policy.Check(p); got != from {
			t.Errorf("Check of all faults from %d on = %d", from, got)
		}
	}
}

func TestValidPolicies(t *testing.T) {
	for i, turn := range []func(*api.Policy){
		func(p *api.Policy) { *p = api.Policy{Depth: 1, Window: 32} },
		func(p *api.Policy) { p.Depth = 1 },
		func(p *api.Policy) { p.Depth = 256 },
		func(p *api.Policy) { p.Window = 32 },
		func(p *api.Policy) { p.Window = 4096 },
		func(p *api.Policy) { p.Rules, p.Schemes, p.Drop = []api.Rule{}, []string{}, []string{} },
		func(p *api.Policy) { p.Schemes = words(32, 32) },
		func(p *api.Policy) { p.Schemes = []string{"a", "z9", "a+b-c.d", "a..", "javascripts", "dat", "data-"} },
		func(p *api.Policy) { p.Drop = words(64, 32) },
		func(p *api.Policy) {
			p.Drop = []string{"a-", "z9", "script", "style", "title", "li", "javascript", "data", "params"}
		},
		func(p *api.Policy) { p.Schemes, p.Drop = []string{"svg", "b"}, []string{"svg", "http"} },
		func(p *api.Policy) { allow(p, "ul"); allow(p, "li") },
		func(p *api.Policy) { allow(p, "li"); allow(p, "ol"); allow(p, "ul") },
		func(p *api.Policy) { allow(p, "li"); allow(p, "td"); allow(p, "tr"); allow(p, "th"); allow(p, "tfoot") },
		func(p *api.Policy) { allow(p, "td"); allow(p, "tr"); allow(p, "tbody"); allow(p, "table") },
		func(p *api.Policy) { allow(p, "br", "href", "cite", "start", "width", "rowspan") },
	} {
		p := base()
		turn(&p)
		if got := policy.Check(p); got != api.PolicyOK {
			t.Errorf("Check of valid policy %d = %d", i, got)
		}
	}
}

func TestPartsOfListsAndTables(t *testing.T) {
	names := []string{"ul", "ol", "li", "table", "tbody", "tr", "td", "thead", "th"}
	for chosen := range 1 << len(names) {
		p := base()
		has := map[string]bool{}
		for i, name := range names {
			if chosen>>i&1 == 1 {
				allow(&p, name)
				has[name] = true
			}
		}
		want := api.PolicyOK
		if (has["ul"] || has["ol"]) && !has["li"] || has["table"] && !(has["tbody"] && has["tr"] && has["td"]) {
			want = api.PolicyParts
		}
		if got := policy.Check(p); got != want {
			t.Errorf("Check with rules for %v = %d, want %d", has, got, want)
		}
	}
}

// What is no known element can have no rule, above all what carries code.
func TestDangerousElementsHaveNoRule(t *testing.T) {
	for _, name := range []string{
		"script", "style", "xmp", "iframe", "noembed", "noframes", "noscript", "title", "plaintext", "svg", "math", "template",
		"object", "embed", "applet", "form", "input", "button", "select", "option", "link", "meta", "base", "frame", "frameset",
	} {
		p := base()
		p.Drop = nil
		for _, spelled := range []string{name, strings.ToUpper(name), name + " "} {
			p.Rules = append(base().Rules, api.Rule{Name: spelled})
			if got := policy.Check(p); got != api.PolicyElement {
				t.Errorf("Check with a rule for %q = %d", spelled, got)
			}
		}
	}
}

// modelCheck does what 5.1 says.
func modelCheck(p api.Policy) int {
	rules := map[string]int{}
	unknown, strange, twice := false, false, false
	for _, rule := range p.Rules {
		rules[rule.Name]++
		_, known := vocabulary.Find(rule.Name)
		unknown = unknown || !known
		attrs := map[string]int{}
		for _, name := range rule.Attrs {
			attrs[name]++
			strange = strange || !vocabulary.IsAttribute(name)
			twice = twice || attrs[name] > 1
		}
	}
	ruleTwice := false
	for _, count := range rules {
		ruleTwice = ruleTwice || count > 1
	}
	lines := []bool{
		p.Depth < 1 || p.Depth > 256,
		p.Window < 32 || p.Window > 4096,
		unknown, ruleTwice, strange, twice,
		len(p.Schemes) > 32 || !allMatch(p.Schemes, schemePattern) || anyMatches(p.Schemes, codePattern),
		countOf(p.Schemes) < len(p.Schemes),
		len(p.Drop) > 64 || !allMatch(p.Drop, dropPattern) || anyMatches(p.Drop, voidPattern) || countOf(p.Drop) < len(p.Drop) ||
			slices.ContainsFunc(p.Drop, func(name string) bool { return rules[name] > 0 }),
		rules["ul"]+rules["ol"] > 0 && rules["li"] == 0 || rules["table"] > 0 && rules["tbody"]*rules["tr"]*rules["td"] == 0,
	}
	return slices.Index(lines, true) + 1
}

var (
	schemePattern = regexp.MustCompile(`\A[a-z][a-z0-9+.-]{0,31}\z`)
	codePattern   = regexp.MustCompile(`\A(javascript|vbscript|data)\z`)
	dropPattern   = regexp.MustCompile(`\A[a-z][a-z0-9-]{0,31}\z`)
	voidPattern   = regexp.MustCompile(`\A(area|base|br|col|embed|hr|img|input|link|meta|source|track|wbr)\z`)
)

func allMatch(list []string, pattern *regexp.Regexp) bool {
	return !slices.ContainsFunc(list, func(s string) bool { return !pattern.MatchString(s) })
}

func anyMatches(list []string, pattern *regexp.Regexp) bool {
	return slices.ContainsFunc(list, pattern.MatchString)
}

func countOf(list []string) int {
	return len(slices.Compact(slices.Sorted(slices.Values(list))))
}

func TestCheckAgainstModel(t *testing.T) {
	random := rand.New(rand.NewSource(5))
	pick := func(count int, pool ...string) []string {
		var list []string
		for range random.Intn(count + 1) {
			list = append(list, pool[random.Intn(len(pool))])
		}
		return list
	}
	met := map[int]int{}
	for range 100000 {
		p := api.Policy{Depth: 1 + random.Intn(256), Window: 32 + random.Intn(4065)}
		if random.Intn(20) == 0 {
			p.Depth = random.Intn(300) - 20
		}
		if random.Intn(20) == 0 {
			p.Window = random.Intn(5000) - 200
		}
		for _, name := range pick(4, "a", "b", "i", "p", "q", "s", "u", "ul", "li", "table", "tbody", "tr", "td", "div", "script") {
			allow(&p, name, pick(2, "id", "href", "dir", "lang", "rel", "src", "alt", "cite", "start", "style")...)
		}
		p.Schemes = pick(3, "http", "https", "mailto", "tel", "a+b", "z.", "ftp", "git", "data", "Http")
		p.Drop = pick(3, "svg", "math", "form", "script", "x-y", "div", "q", "object", "br", "a.b")
		want := modelCheck(p)
		if got := policy.Check(p); got != want {
			t.Fatalf("Check(%#v) = %d, want %d", p, got, want)
		}
		met[want]++
	}
	for number := api.PolicyOK; number <= api.PolicyParts; number++ {
		if met[number] < 100 {
			t.Errorf("only %d policies have number %d", met[number], number)
		}
	}
}

// Lists without end are judged as fast as short ones.
func TestCheckOfLongLists(t *testing.T) {
	long := slices.Repeat([]string{"id", "dir", "lang"}, 1000000)
	p := base()
	allow(&p, "code", long...)
	if got := policy.Check(p); got != api.PolicyAttributeTwice {
		t.Errorf("Check of a long rule = %d", got)
	}
	p = base()
	p.Rules = slices.Repeat(p.Rules, 1000000)
	if got := policy.Check(p); got != api.PolicyElementTwice {
		t.Errorf("Check of many rules = %d", got)
	}
	p = base()
	p.Schemes = slices.Repeat(p.Schemes, 1000000)
	if got := policy.Check(p); got != api.PolicyScheme {
		t.Errorf("Check of many schemes = %d", got)
	}
	p = base()
	p.Drop = words(200000, 20)
	if got := policy.Check(p); got != api.PolicyDrop {
		t.Errorf("Check of many drops = %d", got)
	}
}
