/- The contract of quot.Mod: what is left. -/
import Derived.Test.YtkgfeacednomfaaDivMod
namespace Go.Proofs.Ytkgfeacednomfaa
open Go.RowKit
attribute [local go_sem] World.cell?_alloc_some frozen?_alloc_cells frozen_out

set_option maxHeartbeats 400000 in
theorem mod_walk (l h m ql qh r : Nm) (c : Int)
    (SD : ∀ w, Calls Try.prog 81 #[Wv l h, N m] w fun e w' => e = .returned (.tuple #[Wv ql qh, N r, .int .i64 c]) ∧ Below w.heap.size w w') (w : World) :
    Calls Try.prog 66 #[Wv l h, N m] w fun e w' => e = .returned (.tuple #[N r, .int .i64 c]) ∧ Below w.heap.size w w' := by
  go_enter Try.func66, Try.ntmps66
  go_wp2_with fail
  refine (SD _).mono ?_
  rintro e w1 ⟨rfl, hb1⟩
  have z1 := hb1.size
  try simp at z1
  obtain ⟨qw11_0_1, qw11_1_1, qw11_2_1, qw11_3_1, qw11_z_1⟩ := Cells4.up (W := _) (k := w.heap.size + 1 + 1) (a := .int .u64 0) (b := .int .u64 0) (c := .int .u64 0) (d := .int .u64 0) (by constructor <;> first | assumption | simp [go_sem]) hb1
  have b1 : Hid (Below w.heap.size w w1) := by
    refine Below.trans ?_ (hb1.mono (by first | omega | (simp <;> omega)))
    repeat (first | exact Below.refl _ _ | refine Below.drew ?_ | refine Below.setCell ?_ (by first | omega | (simp <;> omega)) _ | refine Below.alloc ?_ (by first | omega | (simp <;> omega)) _)
  clear hb1
  go_wp2_with fail
  refine bodyPost_ret (v := .tuple #[N r, .int .i64 c]) (by simp (maxDischargeDepth := 8) [results, Try.results66, go_sem, qw11_0_1, qw11_1_1, qw11_2_1, qw11_3_1]) rfl ⟨rfl, ?_⟩
  repeat (first | refine Below.setCell ?_ (by first | omega | (simp <;> omega)) _ | refine Below.drew ?_ | refine Below.alloc ?_ (by first | omega | (simp <;> omega)) _ | exact b1.out)
/-- quot.Mod, where m is not 0, and where it is. -/
theorem mod_fun (l h m : Nm) (ol : l.ok) (oh : h.ok) (om : m.ok) (nz : m ≠ ⟨0, 0, 0, 0⟩) (w : World) :
    Calls Try.prog 66 #[Wv l h, N m] w fun e w' => e = .returned (.tuple #[N (Nm.of ((V l h % m.val.toNat : Nat) : Int)), .int .i64 0]) ∧ Below w.heap.size w w' :=
  mod_walk l h m _ _ _ _ (divmod_fun l h m ol oh om nz) w
theorem mod_zero (l h : Nm) (w : World) :
    Calls Try.prog 66 #[Wv l h, N ⟨0, 0, 0, 0⟩] w fun e w' => e = .returned (.tuple #[N ⟨0, 0, 0, 0⟩, .int .i64 1]) ∧ Below w.heap.size w w' :=
  mod_walk l h _ _ _ _ _ (divmod_zero l h) w
end Go.Proofs.Ytkgfeacednomfaa
