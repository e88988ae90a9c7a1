package sanitize_test

import (
	"math"
	"reflect"
	"runtime"
	"slices"
	"strings"
	"sync"
	"testing"
	"testing/synctest"

	"scrub/api"
	"scrub/eventtest"
	"scrub/policy"
	"scrub/sanitize"
)

// faults holds policies that are not valid, by their number.
func faults() map[int][]api.Policy {
	turned := func(turn func(*api.Policy)) api.Policy {
		p := base()
		turn(&p)
		return p
	}
	allow := func(name string, attrs ...string) api.Policy {
		return turned(func(p *api.Policy) { p.Rules = append(p.Rules, api.Rule{Name: name, Attrs: attrs}) })
	}
	return map[int][]api.Policy{
		api.PolicyDepth: {
			{}, {Depth: math.MinInt, Window: 32},
			turned(func(p *api.Policy) { p.Depth = 0 }), turned(func(p *api.Policy) { p.Depth = -1 }), turned(func(p *api.Policy) { p.Depth = 257 }),
		},
		api.PolicyWindow: {
			{Depth: 1}, {Depth: 256, Window: math.MaxInt},
			turned(func(p *api.Policy) { p.Window = 31 }), turned(func(p *api.Policy) { p.Window = 4097 }), turned(func(p *api.Policy) { p.Window = -64 }),
		},
		api.PolicyElement:        {allow(""), allow("script"), allow("svg"), allow("B")},
		api.PolicyElementTwice:   {allow("b"), allow("a", "href")},
		api.PolicyAttribute:      {allow("i", "onclick"), allow("i", "")},
		api.PolicyAttributeTwice: {allow("i", "id", "id")},
		api.PolicyScheme:         {turned(func(p *api.Policy) { p.Schemes = []string{"javascript"} }), turned(func(p *api.Policy) { p.Schemes = []string{""} })},
		api.PolicySchemeTwice:    {turned(func(p *api.Policy) { p.Schemes = []string{"a", "b", "a"} })},
		api.PolicyDrop:           {turned(func(p *api.Policy) { p.Drop = []string{"b"} }), turned(func(p *api.Policy) { p.Drop = []string{"br"} })},
		api.PolicyParts:          {allow("ul"), turned(func(p *api.Policy) { p.Rules = p.Rules[:5] })},
	}
}

// Under a policy that is not valid nothing is read and nothing written.
func TestPoliciesThatAreNotValid(t *testing.T) {
	all := faults()
	for number := api.PolicyDepth; number <= api.PolicyParts; number++ {
		if len(all[number]) == 0 {
			t.Errorf("no policy has number %d", number)
		}
		for _, p := range all[number] {
			want := api.Outcome{Code: api.CodePolicy, Err: number}
			if got := sanitize.Clean(p, "<b>x</b>"); got != want || policy.Check(p) != number {
				t.Errorf("Clean(%v) = %v, want %v", p, got, want)
			}
			for _, script := range [][]api.Read{nil, {}, {{Data: "x"}}, {{Err: 5}}, {{Data: "x", Err: -5}, {Data: "y"}}} {
				for _, sink := range []api.Sink{{}, {Err: 7}, {Limit: -1}, {Limit: math.MinInt, Err: 7}, {Limit: math.MaxInt, Err: -7}} {
					checkRun(t, p, script, sink, want)
				}
			}
			for _, short := range []string{"", "[x]", "<b>.[x]", "<a href=u>"} {
				if sanitize.Fits(p, eventtest.ReadNodes(short)) {
					t.Errorf("%s fits under %v", short, p)
				}
			}
		}
	}
}

func TestScriptsThatGiveNothing(t *testing.T) {
	for _, script := range [][]api.Read{nil, {}, {{}}, {{}, {}, {}}, {{Data: "</b>"}, {}, {Data: "<!--"}}} {
		for _, limit := range []int{math.MinInt, -1, 0, 1, math.MaxInt} {
			for _, number := range sinkErrs {
				checkRun(t, base(), script, api.Sink{Limit: limit, Err: number}, api.Outcome{})
			}
		}
	}
}

// A policy without rules leaves the text alone.
func TestNoRules(t *testing.T) {
	for _, p := range []api.Policy{
		{Depth: 1, Window: 32},
		{Rules: []api.Rule{}, Schemes: []string{}, Drop: []string{}, Depth: 256, Window: 4096},
	} {
		checkClean(t, p, "<p>x<b>y</p><svg>z</svg><script>w</script>&", "xyz&amp;")
		checkFits(t, p, eventtest.ReadNodes("[x]"), true)
		checkFits(t, p, nil, true)
		checkFits(t, p, eventtest.ReadNodes("<b>"), false)
	}
	p := api.Policy{Drop: []string{"svg"}, Depth: 1, Window: 32}
	checkClean(t, p, "x<svg>y</svg>z", "xz")
}

const kept = "[x]<a href=u title=v>.[y].<b><p><table>.<tbody>..<tr>...<td>....[z]"

func TestArgumentsStayAsTheyAre(t *testing.T) {
	p := eventtest.RoomyPolicy(base())
	script := eventtest.RoomyList([]api.Read{{Data: "<a href=u id=v>x\xe2"}, {}, {Data: "\x82\xac</a><svg>y</svg><b"}}, api.Read{Data: "behind", Err: 9})
	nodes := eventtest.RoomyNodes(eventtest.ReadNodes(kept))
	wantPolicy, wantScript, wantNodes := eventtest.WholePolicy(p), eventtest.WholeList(script), eventtest.WholeNodes(nodes)
	check := func(call string) {
		t.Helper()
		if !reflect.DeepEqual(eventtest.WholePolicy(p), wantPolicy) || !slices.Equal(eventtest.WholeList(script), wantScript) {
			t.Fatalf("%s changes what it is handed", call)
		}
		if !eventtest.SameNodes(eventtest.WholeNodes(nodes), wantNodes) {
			t.Fatalf("%s changes the nodes that it is handed", call)
		}
	}
	const out = "<a href=\"u\">x\u20ac</a>"
	checkRun(t, p, script, noLimit, api.Outcome{Out: out})
	check("Run")
	checkRun(t, p, script, api.Sink{Limit: 3, Err: 1}, api.Outcome{Out: out[:3], Code: api.CodeWrite, Err: 1})
	check("Run into a sink that fails")
	checkRun(t, p, script[:1], noLimit, api.Outcome{Out: "<a href=\"u\">x\ufffd</a>"})
	checkRun(t, p, script[:0], noLimit, api.Outcome{})
	check("Run of the front of the script")
	script[1].Err, wantScript[1].Err = 4, 4
	checkRun(t, p, script, noLimit, api.Outcome{Out: "<a href=\"u\">x</a>", Code: api.CodeRead, Err: 4})
	check("Run of a read that fails")
	checkClean(t, p, "<p>x<behind>y</p>", "<p>xy</p>")
	check("Clean")
	checkFits(t, p, nodes, true)
	checkFits(t, p, nodes[:1], true)
	checkFits(t, p, nodes[:0], true)
	check("Fits")
	nodes[3].Depth, wantNodes[3].Depth = 4, 4
	checkFits(t, p, nodes, false)
	check("Fits of a list that is not shaped")
	p.Depth, wantPolicy.Depth = 0, 0
	sanitize.Clean(p, "x")
	sanitize.Run(p, script, noLimit)
	sanitize.Fits(p, nodes)
	check("a call with a policy that is not valid")
}

// slowScript is a script whose first read gives enough for a sink to fail, and
// whose others take long to decode.
func slowScript() []api.Read {
	slow := api.Read{Data: strings.Repeat("\xff", 1<<21)}
	return []api.Read{{Data: "<p>word</p>"}, slow, slow, {Err: 3}}
}

// Nothing of a call goes on when it has answered, however it ends.
func TestBothSidesHaveEnded(t *testing.T) {
	stack := make([]byte, 1<<20)
	for i, sink := range []api.Sink{{}, {Limit: 3}, {Limit: 5, Err: 4}, {Limit: 20, Err: 4}, {Limit: -1}} {
		sanitize.Run(base(), slowScript(), sink)
		running := string(stack[:runtime.Stack(stack, true)])
		if strings.Contains(running, "scrub/sanitize.(") {
			t.Errorf("behind call %d there still runs\n%s", i, running)
		}
	}
}

// A side that waits for the other one for ever is seen by the bubble.
func TestNobodyWaitsForEver(t *testing.T) {
	script := append(inPieces(strings.Repeat("<b>x</b>", 20), 3), api.Read{Data: "&am", Err: 6}, api.Read{Data: "y"})
	for limit := -1; limit < 170; limit++ {
		synctest.Test(t, func(t *testing.T) {
			sanitize.Run(base(), script, api.Sink{Limit: limit, Err: limit % 2})
			sanitize.Run(base(), script[:10], api.Sink{Limit: limit})
			sanitize.Run(base(), nil, api.Sink{Limit: limit})
		})
	}
}

// Calls side by side do not disturb each other, since nothing is kept.
func TestCallsSideBySide(t *testing.T) {
	p, nodes := everything(8, 64), eventtest.ReadNodes(kept)
	inputs := []string{"<p>x&am", "<table>y<pre>\n\nz", "\xe2\x82<svg>", "<a href=u>" + strings.Repeat("<b>x</b>", 50)}
	var want []string
	for _, input := range inputs {
		want = append(want, fullOutput(p, input, false))
	}
	var calls sync.WaitGroup
	for i := range 64 {
		calls.Go(func() {
			at := i % len(inputs)
			for range 20 {
				whole := sanitize.Run(p, inPieces(inputs[at], 1+i%5), noLimit)
				front := sanitize.Run(p, inPieces(inputs[at], 2), api.Sink{Limit: 1})
				if whole.Out != want[at] || !strings.HasPrefix(want[at], front.Out) || !sanitize.Fits(p, nodes) {
					t.Errorf("%q gives %v and %v", inputs[at], whole, front)
					return
				}
			}
		})
	}
	calls.Wait()
}
