package volume

import (
	"errors"
	"strconv"

	"jackstay/api"
	"jackstay/shard"
)

// refusal is an error of a node.
type refusal struct {
	node int
	why  api.Errno
}

// Error is its text.
func (r *refusal) Error() string {
	return "node " + strconv.Itoa(r.node) + ": " + r.why.Error()
}

// why is the number of the error, of a node's refusal or of none.
func why(err error) api.Errno {
	var r *refusal
	if errors.As(err, &r) {
		return r.why
	}
	return api.OK
}

// first is the first error of some, if there is one.
func first(errs ...error) error {
	for _, err := range errs {
		if err != nil {
			return err
		}
	}
	return nil
}

// shard is a node's shard.
func (v *Volume) shard(node int) (*shard.Shard, error) {
	if !v.made() {
		return nil, &refusal{node, api.ErrNil}
	}
	if node < 0 || node >= api.MaxNodes {
		return nil, &refusal{node, api.ErrNone}
	}
	return v.shards[node], nil
}

// thawed refuses a node whose shard is frozen.
func (v *Volume) thawed(node int) error {
	if v.shards[node].Frozen() {
		return &refusal{node, api.ErrState}
	}
	return nil
}

// spare refuses a node with more than so many ops that are not durable.
func (v *Volume) spare(node, most int) error {
	if v.shards[node].Dirty() > most {
		return &refusal{node, api.ErrMany}
	}
	return nil
}
