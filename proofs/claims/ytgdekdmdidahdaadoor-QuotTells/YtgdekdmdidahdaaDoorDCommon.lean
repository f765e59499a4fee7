/- The contracts of sealringref.Rest and Common. -/
import Derived.Test.YtgdekdmdidahdaaDoorDParts
import Derived.Deep.LoopGhost
namespace Go.Proofs.YtgdekdmdidahdaaDoor
open Go.RowKit
set_option maxHeartbeats 400000 in
theorem drest_fun (u v : Value) (xs ys : List Nat) (hx : P.Dg xs) (hy : P.Dg ys) (hM : 0 < P.dv ys) (lx : xs.length < 1048576) (ly : ys.length < 1048576) (w : World) (su : Sl w u xs) (sv : Sl w v ys) :
    Calls Tryd.prog 29 #[u, v] w fun e w' => (∃ v', e = .returned v' ∧ Sl w' v' (P.dg (P.dv xs % P.dv ys))) ∧ Below w.heap.size w w' := by
  have D : Hid _ := dparts_fun u v xs ys hx hy hM lx ly w su sv
  clear su sv
  go_enter Tryd.func29, Tryd.ntmps29
  go_wp2_with fail
  refine Calls.mono D.out ?_
  rintro e w1 ⟨⟨v1, v2, rfl, h1, h2⟩, hb1⟩
  have H2 : Hid _ := h2
  have B1 : Hid _ := hb1
  clear h1 h2 hb1
  go_wp2_with fail
  go_ret
  exact ⟨⟨v2, rfl, H2.out⟩, B1.out⟩
set_option maxHeartbeats 1000000 in
theorem dcommon_fun (u v : Value) (X Y L : Nat) (hL : L < 1048576) (hX : X < 65536 ^ L) (hY : Y < 65536 ^ L) (w : World) (su : Sl w u (P.dg X)) (sv : Sl w v (P.dg Y)) :
    Calls Tryd.prog 12 #[u, v] w fun e w' => (∃ v', e = .returned v' ∧ Sl w' v' (P.dg (Nat.gcd X Y))) ∧ Below w.heap.size w w' := by
  have SU : Hid _ := su
  have SV : Hid _ := sv
  have HX : Hid _ := hX
  have HY : Hid _ := hY
  clear su sv hX hY
  go_enter Tryd.func12, Tryd.ntmps12
  go_wp2_with fail
  go_loopg [0, 1] Y (fun k a b wr => ∃ x y, k = y ∧ Hid (x < 65536 ^ L) ∧ Hid (y < 65536 ^ L) ∧ Hid (Nat.gcd x y = Nat.gcd X Y) ∧ Hid (Sl wr a (P.dg x)) ∧ Hid (Sl wr b (P.dg y)) ∧ Hid (Below w.heap.size w wr))
  case atStart => exact ⟨X, Y, rfl, HX, HY, (rfl : Nat.gcd X Y = Nat.gcd X Y), SU, SV, Below.refl _ _⟩
  case round =>
    obtain ⟨x, y, rfl, hx, hy, hg, sa, sb, hb⟩ := hrel
    obtain ⟨ay, cy, rfl⟩ := Sl.parts (xs := P.dg gk) sb.out
    by_cases h0 : gk = 0
    · subst h0
      have e0 : (P.dg 0).length = 0 := by rw [P.dg_zero]; rfl
      have HG : Hid (x = Nat.gcd X Y) := by have := hg.out; rwa [Nat.gcd_zero_right] at this
      go_wp2_with fail
      go_ret
      exact ⟨⟨_, rfl, by rw [← HG.out]; exact sa.out⟩, hb.out⟩
    · have e0 : (P.dg gk).length > 0 := by rw [P.dg_pos h0]; simp
      have e1 : ((P.dg gk).length : Int) > 0 := by omega
      have lx := P.dg_len L hx.out
      have ly := P.dg_len L hy.out
      have R : Hid _ := fun w' h h' => drest_fun u0 (.slice ay (P.dg gk).length cy) (P.dg x) (P.dg gk) (P.dg_Dg _) (P.dg_Dg _) (by rw [P.dv_dg]; omega) (by omega) (by omega) w' h h'
      clear lx ly
      go_wp2_with fail
      refine (R.out _ sa.out sb.out).mono ?_
      rintro e w1 ⟨⟨v1, rfl, h1⟩, hb1⟩
      rw [P.dv_dg, P.dv_dg] at h1
      have S1 : Hid _ := h1
      have B1 : Hid _ := hb1
      clear h1 hb1
      go_wp2_with fail
      go_roundg (x % gk)
      case measure => exact Nat.mod_lt _ (by omega)
      case rel =>
        refine ⟨gk, x % gk, rfl, hy, (Nat.lt_trans (Nat.mod_lt _ (by omega)) hy.out : x % gk < 65536 ^ L), ?_, Sl.up (xs := P.dg gk) sb.out B1.out, S1, hb.out.trans (B1.out.mono hb.out.size)⟩
        have := hg.out
        rw [Nat.gcd_comm, Nat.gcd_rec] at this
        show Nat.gcd gk (x % gk) = Nat.gcd X Y
        rw [Nat.gcd_comm]
        exact this
end Go.Proofs.YtgdekdmdidahdaaDoor
