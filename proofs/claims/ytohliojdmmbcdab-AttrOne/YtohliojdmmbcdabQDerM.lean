/- Items as texts: what is read of bytes, and that what was written is read as it was. -/
import Derived.Test.YtohliojdmmbcdabQDerWr
namespace Go.Proofs.Ytohliojdmmbcdab
/-- An item with a body of n bytes from start on. -/
def finS (b : List Nat) (n start : Nat) : Sum Nat (It × Nat) :=
  if 4096 < n then .inl 2 else if b.length < start + n then .inl 3 else .inr (⟨b.getD 0 0, (b.drop start).take n⟩, start + n)
/-- The first item of bytes, and of how many bytes it is. -/
def firstS (b : List Nat) : Sum Nat (It × Nat) :=
  if b.length < 2 then .inl 3
  else if b.getD 1 0 < 128 then finS b (b.getD 1 0) 2
  else if b.getD 1 0 = 129 then if b.length < 3 then .inl 3 else if b.getD 2 0 < 128 then .inl 4 else finS b (b.getD 2 0) 3
  else if b.getD 1 0 = 130 then if b.length < 4 then .inl 3 else if b.getD 2 0 * 256 + b.getD 3 0 < 256 then .inl 4 else finS b (b.getD 2 0 * 256 + b.getD 3 0) 4
  else .inl 4
end Go.Proofs.Ytohliojdmmbcdab
