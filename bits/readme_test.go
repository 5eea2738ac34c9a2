package bits_test

import (
	"testing"

	"polder/api"
	"polder/bits"
)

// The example of README.md
func TestReadmeExample(t *testing.T) {
	b, e := bits.New(10, false)
	if e != api.OK {
		t.Fatalf("New: %d", e)
	}
	if b, e = bits.Set(b, 0, 3, true); e != api.OK {
		t.Fatalf("Set: %d", e)
	}
	if at, e := bits.Block(b, 2); at != 4 || e != api.OK {
		t.Errorf("Block: %d, %d", at, e)
	}
}
