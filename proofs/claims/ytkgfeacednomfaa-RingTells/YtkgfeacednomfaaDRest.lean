/- The contract of sealringref.Rest. -/
import Derived.Test.YtkgfeacednomfaaDParts
namespace Go.Proofs.Ytkgfeacednomfaa
open Go.RowKit
set_option maxHeartbeats 400000 in
theorem drest_fun (u v : Value) (xs ys : List Nat) (hx : P.Dg xs) (hy : P.Dg ys) (hM : 0 < P.dv ys) (lx : xs.length < 1048576) (ly : ys.length < 1048576) (w : World) (su : Sl w u xs) (sv : Sl w v ys) :
    Calls Try.prog 29 #[u, v] w fun e w' => (∃ v', e = .returned v' ∧ Sl w' v' (P.dg (P.dv xs % P.dv ys))) ∧ Below w.heap.size w w' := by
  have D : Hid _ := dparts_fun u v xs ys hx hy hM lx ly w su sv
  clear su sv
  go_enter Try.func29, Try.ntmps29
  go_wp2_with fail
  refine Calls.mono D.out ?_
  rintro e w1 ⟨⟨v1, v2, rfl, h1, h2⟩, hb1⟩
  have H2 : Hid _ := h2
  have B1 : Hid _ := hb1
  clear h1 h2 hb1
  go_wp2_with fail
  go_ret
  exact ⟨⟨v2, rfl, H2.out⟩, B1.out⟩
end Go.Proofs.Ytkgfeacednomfaa
