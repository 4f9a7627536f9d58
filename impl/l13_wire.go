package impl

const MaxDigest = 4294967295
const MaxCookie = 100
const MaxSlots = 32
const MaxNamed = 16
const MaxBody = 1000
const MaxWindow = 16
const MaxWay = 100
const MaxLinkActs = 400

const HdIdle = 0
const HdStatus = 1
const HdChallenge = 2
const HdReply = 3
const HdAck = 4
const HdUp = 5
const HdDown = 6

const PkData = 1
const PkAck = 2

const LkSend = 1
const LkTick = 2
const LkTake = 3
const LkLose = 4
const LkTwice = 5
const LkSpoil = 6

// Hand is one end of a hand shake.
type Hand struct {
	State  int
	Name   string
	Cookie string
	Flags  int
	Mine   int
	Calls  string
	Peer   string
	Both   int
}

// LinkAct is something that happens to a link.
type LinkAct struct {
	Kind int
	N    int
	S    string
}

// Packet is something on its way.
type Packet struct {
	Back bool
	Data string
}

// LinkReport is what is seen of a link.
type LinkReport struct {
	Given  int
	Acked  int
	Packed int
	Taken  []string
	Way    []Packet
}

// Digest is a number of a cookie and a number.
func Digest(cookie string, n int) int { return 0 }

// HandOpen begins a hand shake.
func HandOpen(name string, cookie string, flags int, mine int) (Hand, string, int) {
	return Hand{}, "", 0
}

// HandStep is what becomes of an end that hears something.
func HandStep(h Hand, data string) (Hand, []string, int) { return Hand{}, []string{}, 0 }

// WirePack is a term as bytes, with a cache of atoms.
func WirePack(cache []string, t Term) (string, []string, int) { return "", []string{}, 0 }

// WireUnpack reads them back.
func WireUnpack(cache []string, data string) (Term, []string, int) { return Term{}, []string{}, 0 }

// Seal is a packet.
func Seal(kind int, n int, body string) (string, int) { return "", 0 }

// Unseal reads a packet.
func Unseal(data string) (int, int, string, int) { return 0, 0, "", 0 }

// LinkRun is what becomes of a link.
func LinkRun(window int, acts []LinkAct) (LinkReport, int) { return LinkReport{}, 0 }
