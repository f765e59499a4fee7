/- The contract of sealringref.block: H behind one more block, by the document's answer. -/
import Derived.Test.YtmpniingbioggabDoorHRd
import Derived.Test.YtmpniingbioggabDoorHRW
import Derived.Test.YtmpniingbioggabDoorUp3
import Derived.Test.YtmpniingbioggabDoorUpS
import Derived.Test.YtmpniingbioggabDoorHLaid
import Derived.Deep.RegionWith
namespace Go.Proofs.YtmpniingbioggabDoor
open Go.RowKit
set_option linter.unusedSimpArgs false
attribute [local go_sem] YieldsP execOp
attribute [local simp] MP.eq_p
/-- What the first k of four bytes make. -/
def accX (bs : List Nat) (i : Nat) : Nat → BitVec 32
  | 0 => 0
  | k + 1 => BitVec.ofNat 32 ((accX bs i k).toNat * 256 + bs.getD (i + k) 0)
theorem turnB {f : FuncId} {n : Int} {g : BitVec 32 → BitVec 32} (h : ∀ (x : BitVec 32) (w : World), Calls Tryd.prog f #[uw x, .int .u64 n] w fun e w' => e = .returned (uw (g x)) ∧ w' = w) (x : BitVec 32) (w : World) :
    Calls Tryd.prog f #[uw x, .int .u64 n] w fun e w' => e = .returned (uw (g x)) ∧ Below w.heap.size w w' :=
  (h x w).mono fun _ _ ⟨he, hw⟩ => ⟨he, by rw [hw]; exact Below.refl _ _⟩
def lenW : Value → Nat
  | .slice _ n _ => n
  | _ => 0
theorem wrap_small (n : Nat) (h : n < 100) : IntKind.i64.wrap ((n : Nat) : Int) = (n : Int) := by
  simp only [IntKind.wrap, IntKind.bits, IntKind.signed]
  simp
  omega
theorem u_quo (x : BitVec 32) (d : Int) (n : Nat) (h : d = ((2 ^ n : Nat) : Int)) : IntKind.u32.wrap ((U x).tdiv d) = U (wshr x n) := by
  rw [Int.tdiv_eq_ediv_of_nonneg (U_nonneg x), h, u_shr]
  exact wrap32 _ (BitVec.isLt _)
theorem accX_step (bs : List Nat) (i k : Nat) : (U (accX bs i k) * 256 + ((bs.getD (i + k) 0 : Nat) : Int)) % 4294967296 = U (accX bs i (k + 1)) := by
  simp only [accX, U, BitVec.toNat_ofNat]
  omega
theorem accX_all (bs : List Nat) (lb : ∀ j, bs.getD j 0 < 256) (k : Nat) : accX bs (4 * k) 4 = wd bs k := by
  have h0 := lb (4 * k)
  have h1 := lb (4 * k + 1)
  have h2 := lb (4 * k + 2)
  have h3 := lb (4 * k + 3)
  have e1 : (accX bs (4 * k) 1).toNat = bs.getD (4 * k) 0 := by
    show ((BitVec.ofNat 32 0).toNat * 256 + bs.getD (4 * k + 0) 0) % 2 ^ 32 = _
    rw [Nat.add_zero, show (BitVec.ofNat 32 0).toNat = 0 from rfl]
    omega
  have e2 : (accX bs (4 * k) 2).toNat = bs.getD (4 * k) 0 * 256 + bs.getD (4 * k + 1) 0 := by
    show ((accX bs (4 * k) 1).toNat * 256 + bs.getD (4 * k + 1) 0) % 2 ^ 32 = _
    rw [e1]
    omega
  have e3 : (accX bs (4 * k) 3).toNat = (bs.getD (4 * k) 0 * 256 + bs.getD (4 * k + 1) 0) * 256 + bs.getD (4 * k + 2) 0 := by
    show ((accX bs (4 * k) 2).toNat * 256 + bs.getD (4 * k + 2) 0) % 2 ^ 32 = _
    rw [e2]
    omega
  show BitVec.ofNat 32 ((accX bs (4 * k) 3).toNat * 256 + bs.getD (4 * k + 3) 0) = BitVec.ofNat 32 (bs.getD (4 * k) 0 * 16777216 + bs.getD (4 * k + 1) 0 * 65536 + bs.getD (4 * k + 2) 0 * 256 + bs.getD (4 * k + 3) 0)
  exact congrArg (BitVec.ofNat 32) (by omega)
end Go.Proofs.YtmpniingbioggabDoor
