// Package words holds package api against the document's section 'Words' and promise P5. It stands aside because package api stays as it was given.
package words

import (
	"testing"

	"sealring/api"
)

func TestP5Errors(t *testing.T) {
	for i, e := range []api.Errno{
		api.OK, api.ErrArg, api.ErrLarge, api.ErrShort, api.ErrForm, api.ErrSum, api.ErrNone, api.ErrFull, api.ErrState,
		api.ErrLogin, api.ErrPin, api.ErrLocked, api.ErrDenied, api.ErrType, api.ErrBuffer, api.ErrBusy, api.ErrSyntax,
	} {
		if int(e) != i {
			t.Errorf("error %d has the number %d", i, e)
		}
	}
}

func TestP5Kinds(t *testing.T) {
	for name, list := range map[string][]int{
		"calls": {
			api.KOpen, api.KClose, api.KCloseAll, api.KLogin, api.KLogout, api.KSetPin, api.KReset, api.KCreate,
			api.KCopy, api.KDestroy, api.KGet, api.KSet, api.KFind, api.KMake, api.KPublic, api.KBegin, api.KUpdate,
			api.KFinal, api.KCheck, api.KWrap, api.KUnwrap, api.KAgree, api.KRandom,
		},
		"attributes": {
			api.AClass, api.ALabel, api.AId, api.AValue, api.AToken, api.APrivate, api.AModify, api.ASensitive,
			api.AExtract, api.AAlways, api.ANever, api.ALocal, api.ASign, api.AVerify, api.ACrypt, api.AWrap,
			api.AUnwrap, api.ADerive,
		},
		"operations": {
			api.MDigest, api.MMac, api.MMacCheck, api.MSign, api.MCheck, api.MStream, api.MSeal, api.MOpen,
		},
		"classes": {api.CData, api.CSecret, api.CPublic, api.CPrivate},
		"roles":   {api.RUser, api.ROfficer},
	} {
		for i, k := range list {
			if k != i+1 {
				t.Errorf("%s: number %d is %d", name, i+1, k)
			}
		}
	}
}

func TestP5Limits(t *testing.T) {
	for _, c := range []struct {
		name      string
		got, want int
	}{
		{"MaxItems", api.MaxItems, 200},
		{"MaxBody", api.MaxBody, 4096},
		{"MaxText", api.MaxText, 65536},
		{"MaxLeaves", api.MaxLeaves, 65536},
		{"MaxDraw", api.MaxDraw, 4096},
		{"MaxTries", api.MaxTries, 100},
		{"MaxBatch", api.MaxBatch, 20},
		{"MaxShares", api.MaxShares, 20},
		{"MaxAttrs", api.MaxAttrs, 24},
		{"MaxName", api.MaxName, 32},
		{"MaxValue", api.MaxValue, 64},
		{"MaxObjects", api.MaxObjects, 16},
		{"MaxHandle", api.MaxHandle, 1073741824},
		{"MinPin", api.MinPin, 4},
		{"MaxPin", api.MaxPin, 16},
		{"MaxRounds", api.MaxRounds, 8},
		{"MaxWrong", api.MaxWrong, 3},
		{"MaxSessions", api.MaxSessions, 16},
		{"MaxData", api.MaxData, 2048},
		{"MaxWork", api.MaxWork, 9},
		{"MaxClients", api.MaxClients, 8},
		{"MaxLine", api.MaxLine, 8192},
		{"MaxScript", api.MaxScript, 100},
		{"MaxWorkers", api.MaxWorkers, 16},
		{"MaxTasks", api.MaxTasks, 100},
	} {
		if c.got != c.want {
			t.Errorf("%s is %d; want %d", c.name, c.got, c.want)
		}
	}
}
