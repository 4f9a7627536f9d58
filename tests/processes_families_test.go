package tests

import (
	"fmt"
	"strings"
	"testing"

	"loop.example/g00019/impl"
)

// obeys is the module of processes that do what letters ask of them, and say all other letters.
const obeys = `module m. obeys() -> receive {ends, V} -> exit(V); {throws, V} -> hd(V); X -> try does(X) catch C:V -> say({C, V}) end end, obeys().
does({link, P}) -> link(P); does({unlink, P}) -> unlink(P); does({monitor, P}) -> say(monitor(P)); does({demonitor, R}) -> demonitor(R);
does({exit, P, V, to}) -> exit(P, V); does({trap, X}) -> trap_exit(X); does({prio, X}) -> priority(X); does({name, N, P}) -> register(N, P); does({unname, N}) -> unregister(N);
does({to, P, V}) -> P ! V; does({later, T, P, V}) -> send_after(T, P, V); does({cancel, R}) -> say(cancel_timer(R)); does({born, one}) -> spawn(fun obeys/0); does({born, linked}) -> spawn_link(fun obeys/0);
does({born, watched}) -> say(spawn_monitor(fun obeys/0)); does({wait, T}) -> receive now -> say(now) after T -> say(late) end; does({work, N}) -> works(N);
does({table, T, K}) -> tab_new(T, K); does({put, T, V}) -> tab_put(T, {V, self()}); does({get, T, V}) -> say(tab_get(T, V)); does({who, N}) -> say(whereis(N)); does(X) -> say(X).
works(0) -> 0; works(N) -> works(N - 1).`

// family is acts by chance on such processes.
type family struct {
	liver
	most int // the greatest Pid that is named
}

func (r family) who() string { return fmt.Sprintf("#p%d", 1+r.Intn(r.most)) }

func (r family) why() string { return r.of("normal", "kill", "why", "stop", "killed") }

func (r family) command() string {
	ref := fmt.Sprintf("#r%d", 1+r.Intn(8))
	switch r.Intn(16) {
	case 0, 1, 2, 3:
		return "{link, " + r.who() + "}"
	case 4:
		return r.of("{unlink, "+r.who()+"}", "{trap, false}", "{trap, true}", "{trap, true}")
	case 5, 6:
		return "{monitor, " + r.who() + "}"
	case 7:
		return r.of("{demonitor, "+ref+"}", "{cancel, "+ref+"}", "{unname, a}")
	case 8:
		return "{exit, " + r.who() + ", " + r.why() + ", to}"
	case 9:
		return r.of("{prio, high}", "{prio, low}", "{prio, normal}", "{wait, 2}", "{wait, 4}", "{wait, infinity}", "{work, 20}")
	case 10:
		return r.of("{name, a, "+r.who()+"}", "{name, b, "+r.who()+"}", "{who, a}", "{who, b}")
	case 11:
		return r.of("{to, "+r.who()+", now}", "{to, a, hello}", "{to, {b, local}, hello}", "{to, "+r.who()+", {trap, true}}")
	case 12:
		return r.of("{later, 2, "+r.who()+", hello}", "{later, 4, a, now}", "{later, 2, b, hello}")
	case 13:
		return r.of("{born, one}", "{born, linked}", "{born, watched}")
	case 14:
		return r.of("{table, t, set}", "{put, t, 1}", "{get, t, 1}", "{table, u, bag}", "{put, u, 1}")
	}
	return r.of("{ends, "+r.why()+"}", "{throws, x}", "{link, "+r.who()+"}", "hello")
}

func (r family) acts() []impl.Act {
	acts := actsOf(strings.Repeat("spawn obeys; ", 6) + "run 6")
	for len(acts) < impl.MaxActs {
		switch r.Intn(12) {
		case 0, 1:
			acts = append(acts, impl.Act{Kind: impl.AcRun, N: 1 + r.Intn(4)})
		case 2:
			acts = append(acts, impl.Act{Kind: impl.AcTick, N: r.Intn(4)})
		case 3:
			if r.Intn(6) == 0 {
				acts = append(acts, impl.Act{Kind: impl.AcExit, N: 1 + r.Intn(r.most), V: term(r.why())})
			}
		case 4:
			if r.Intn(4) == 0 {
				acts = append(acts, impl.Act{Kind: impl.AcSpawn, Name: "obeys", V: list()})
			}
		default:
			acts = append(acts, impl.Act{Kind: impl.AcSend, N: 1 + r.Intn(r.most), V: term(r.command())})
		}
	}
	return acts
}

// P16: families by chance, with many links and monitors: each end is told once to those that are linked and watch.
func TestFamiliesByChanceP16(t *testing.T) {
	t.Parallel()
	r := family{liver{newChance(105)}, 8}
	counted := map[string]int{}
	for range 400 {
		acts := r.acts()
		report := nodeRun(t, obeys, acts)
		some := acts[:75]
		once, twice := nodeRun(t, obeys, some), r.cut(some)
		if len(twice) <= impl.MaxActs {
			cut, code := impl.NodeRun(obeys, twice)
			if code != impl.OK || !sameReport(once, cut) {
				t.Fatalf("%s\nis\n%s\nwhen cut it is\n%s", actsText(some), reportText(once), reportText(cut))
			}
			counted["cut"]++
		}
		toldOnce(t, report)
		tallyLives(counted, report)
	}
	tallied(t, counted, 20, "born living linked waits traps named letters high low {down {exit end:normal end:noproc end:killed end:why end:stop end:error badarg cut late hello")
}

// toldOnce asks that nobody says twice what an end tells: an exit of one to another over a link or a signal, a down of one Ref.
func toldOnce(t *testing.T, r impl.Report) {
	t.Helper()
	downs := map[string]bool{}
	for _, e := range r.Events {
		if e.Kind != impl.EvSay || e.V.Kind != impl.TmTuple || len(e.V.Kids) != 4 || !same(e.V.Kids[0], atom("down")) {
			continue
		}
		text, _ := impl.TermShow(e.V.Kids[1])
		if downs[text] {
			t.Fatalf("%s is told twice\n%s", text, told(r))
		}
		downs[text] = true
	}
}
