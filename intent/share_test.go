package intent

import (
	"bytes"
	"slices"
	"testing"

	"commonhold/api"
)

// behind: what lies in spare room that has to stay.
var behind = []byte{7, 8, 9}

// roomy: bytes with others behind them, in their spare room.
func roomy(b []byte) []byte { return append(bytes.Clone(b), behind...)[:len(b)] }

// roomyIntent: the same intent, each list of which has spare room with something in it.
func roomyIntent(x api.Intent) api.Intent {
	r := make([]api.Range, 0, len(x.Reads)+1)
	for _, y := range x.Reads {
		r = append(r, api.Range{Low: roomy(y.Low), High: roomy(y.High)})
	}
	w := make([]api.Write, 0, len(x.Writes)+1)
	for _, y := range x.Writes {
		w = append(w, api.Write{Key: roomy(y.Key), Value: roomy(y.Value), Gone: y.Gone})
	}
	x.Reads = append(r, read("spare", "room"))[:len(r)]
	x.Writes = append(w, set("spare", "room"))[:len(w)]
	return x
}

// roomStays: is what lies in spare room still there?
func roomStays(b []byte) bool { return bytes.Equal(b[len(b):len(b)+len(behind)], behind) }

func checkStays(t *testing.T, what string, given, was api.Intent) {
	t.Helper()
	stays := same(given, was)
	stays = stays && sameRange(given.Reads[:len(given.Reads)+1][len(given.Reads)], read("spare", "room"))
	stays = stays && sameWrite(given.Writes[:len(given.Writes)+1][len(given.Writes)], set("spare", "room"))
	for _, l := range lists(given) {
		stays = stays && roomStays(*l)
	}
	if !stays {
		t.Errorf("%s changed what was handed in: %v", what, was)
	}
}

// lists: all lists of bytes of an intent.
func lists(x api.Intent) []*[]byte {
	var l []*[]byte
	for i := range x.Reads {
		l = append(l, &x.Reads[i].Low, &x.Reads[i].High)
	}
	for i := range x.Writes {
		l = append(l, &x.Writes[i].Key, &x.Writes[i].Value)
	}
	return l
}

// spoil writes over all of a list's memory.
func spoil(b []byte) {
	b = b[:cap(b)]
	for i := range b {
		b[i] ^= 85
	}
}

// spoilIntent writes over all of an intent's memory.
func spoilIntent(x api.Intent) {
	for _, l := range lists(x) {
		spoil(*l)
	}
	clear(x.Reads[:cap(x.Reads)])
	clear(x.Writes[:cap(x.Writes)])
}

func allOnes() []api.Intent {
	l := goodOnes()
	for _, x := range badOnes() {
		l = append(l, x)
	}
	for _, x := range longOnes() {
		l = append(l, x)
	}
	return append(l, sizedOf(api.MaxBody+1))
}

// P17.1, P17.2: what is handed in stays as it is, whatever comes of it.
func TestMayAndEncodeChangeNothing(t *testing.T) {
	for _, x := range allOnes() {
		given := roomyIntent(x)
		May(given)
		checkStays(t, "May", given, x)
		Encode(given)
		checkStays(t, "Encode", given, x)
	}
}

// P17.2: what comes out is new, each time, and nothing of what was handed in is kept.
func TestEncodeSharesNothing(t *testing.T) {
	for _, x := range goodOnes() {
		given, want := roomyIntent(x), modelBytes(x)
		first, _ := Encode(given)
		second, _ := Encode(given)
		spoil(first)
		checkStays(t, "writing over Encode's answer", given, x)
		if !bytes.Equal(second, want) {
			t.Errorf("two answers share memory: %v", x)
		}
		spoilIntent(given)
		if !bytes.Equal(second, want) {
			t.Errorf("Encode's answer shares memory with %v", x)
		}
		checkEncode(t, x, want)
	}
}

// P17.3: what is handed in stays as it is, and what comes out shares nothing with it, nor with another answer.
func TestDecodeSharesNothing(t *testing.T) {
	for _, x := range goodOnes() {
		want := modelBytes(x)
		given := roomy(want)
		first, _ := Decode(given)
		second, _ := Decode(given)
		spoilIntent(first)
		if !bytes.Equal(given, want) || !roomStays(given) {
			t.Errorf("writing over Decode's answer changes what was handed in: %v", x)
		}
		if !same(second, x) {
			t.Errorf("two answers share memory: %v", x)
		}
		spoil(given)
		if !same(second, x) {
			t.Errorf("Decode's answer shares memory with what was handed in: %v", x)
		}
	}
	for _, x := range allOnes() {
		want := modelBytes(x)
		for n := 0; n <= len(want); n += 1 + len(want)/50 {
			given := roomy(want[:n])
			Decode(given)
			if !bytes.Equal(given, want[:n]) || !roomStays(given) {
				t.Errorf("Decode changes what was handed in: %v", want[:n])
			}
		}
	}
}

// P17.3: no list of an answer shares memory with another one of it, spare room too.
func TestDecodeListsShareNothing(t *testing.T) {
	for _, x := range goodOnes() {
		b := modelBytes(x)
		decoded, _ := Decode(b)
		want := copied(x)
		answers, wants := lists(decoded), lists(want)
		step := 1 + len(answers)/40
		for i := 0; i < len(answers); i += step {
			was := bytes.Clone(*answers[i])
			spoil(*answers[i])
			for j := range answers {
				if j != i && !bytes.Equal(*answers[j], *wants[j]) {
					t.Fatalf("lists %d and %d of an answer share memory: %v", i, j, x)
				}
			}
			spoil(*answers[i])
			if !bytes.Equal(*answers[i], was) {
				t.Fatalf("list %d is not as it was", i)
			}
		}
		// Lists that are made longer do not run into each other.
		for _, l := range answers {
			*l = slices.Grow(*l, 4)
			spoil((*l)[len(*l):cap(*l)])
		}
		for j := range answers {
			if !bytes.Equal(*answers[j], *wants[j]) {
				t.Fatalf("list %d of an answer has another one behind it: %v", j, x)
			}
		}
	}
}

// Nothing is kept: the same is answered again, whatever was asked between.
func TestSameAgain(t *testing.T) {
	l := goodOnes()
	for range 2 {
		for _, x := range l {
			checkEncode(t, x, modelBytes(x))
			checkDecode(t, modelBytes(x), x)
			decodeRefuses(t, "cut bytes", modelBytes(x)[1:])
		}
		slices.Reverse(l)
	}
}
