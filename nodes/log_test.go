package nodes

import (
	"testing"

	"accord/api"
)

func TestLogsAreTheirOwn(t *testing.T) { // who changes what was told, or the room behind it, changes no log
	n := at(2, api.Prepared)
	logs := n.Logs()
	if len(logs) != 4 || len(logs[0])+len(logs[1])+len(logs[3]) != 0 || len(logs[2]) != 1 {
		t.Fatalf("the logs are %v", logs)
	}
	for _, log := range append(logs, n.Log(2)) {
		for i := range log[:cap(log)] {
			log[:cap(log)][i] = api.Record{Trans: 9, State: 9}
		}
	}
	n.write(2, 1, api.Committed)
	if got := n.Log(2); got[0].State != api.Prepared || got[1].State != api.Committed {
		t.Errorf("the log has become %v", got)
	}
}
