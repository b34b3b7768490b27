package gen

import (
	"os"
	"runtime/debug"
	"testing"
)

// TestMain lets memory be collected seldom: most tests make many small programs, of which little stays.
func TestMain(m *testing.M) {
	debug.SetGCPercent(1000)
	os.Exit(m.Run())
}
