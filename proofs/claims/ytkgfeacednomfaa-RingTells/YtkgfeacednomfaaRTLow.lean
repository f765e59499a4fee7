/- The contract of RingTells' own function: what is left of digits, as a number. -/
import Derived.Test.YtkgfeacednomfaaDPow
import Derived.Test.YtkgfeacednomfaaDWords
import Derived.Test.YtkgfeacednomfaaUpMV
import Derived.Test.YtkgfeacednomfaaUpMS
namespace Go.Proofs.Ytkgfeacednomfaa
open Go.RowKit
set_option linter.unusedSimpArgs false
theorem cell1 {w : World} {g ty : Nat} {x : Value} {f : Nat × Nat} (h : w.heap[g]? = some (.cells #[x] ty f)) : w.cell? ⟨g, 0, none⟩ = some x := by simp [World.cell?, h]
theorem lt_of_cellV {w : World} {g j : Nat} {x : Value} (h : w.cell? ⟨g, j, none⟩ = some x) : g < w.heap.size := by
  simp only [World.cell?] at h
  cases hh : w.heap[g]? with
  | none => rw [hh] at h; simp at h
  | some o => exact (Array.getElem?_eq_some_iff.1 hh).1
set_option maxRecDepth 20000 in
set_option maxHeartbeats 1000000 in
theorem ownLow_fun (X M : Nat) (hX : X < 65536 ^ 64) (hM : 0 < M) (hM2 : M < 2 ^ 256) (u k : Value) (g : Nat) (w : World) (su : Sl w u (P.dg X)) (c0 : w.cell? ⟨g, 0, none⟩ = some k) (sk : Sl w k (P.dg M)) :
    Calls Try.prog 28 #[u, .pointer (some ⟨g, 0, none⟩)] w fun e w' => e = .returned (N (Nm.of ((X % M : Nat) : Int))) ∧ Below w.heap.size w w' := by
  have m1 : M < 65536 ^ 64 := Nat.lt_trans hM2 (by decide)
  have RM : Hid _ := rest_n X M hX hM m1
  have lt : X % M < 2 ^ 256 := Nat.lt_trans (Nat.mod_lt _ hM) hM2
  have TN : Hid (∀ u w, Sl w u (P.dg (X % M)) → Calls Try.prog 15 #[u] w fun e w' => e = .returned (N (Nm.of ((X % M : Nat) : Int))) ∧ Below w.heap.size w w') := by
    refine (fun u w h => ?_ : ∀ u w, Sl w u (P.dg (X % M)) → _)
    have := toNum_fun u _ (P.dg_Dg (X % M)) (dshort (Nat.lt_trans lt (by decide))) w h
    rwa [P.dv_dg, Nat.mod_eq_of_lt lt] at this
  have SU : Hid (Sl w u (P.dg X)) := su
  have SK : Hid (Sl w k (P.dg M)) := sk
  have gl : g < w.heap.size := lt_of_cellV c0
  have ne : ¬ g = w.heap.size := by omega
  have c1 := (((Below.refl w.heap.size w).alloc (Nat.le_refl _) (.cells #[.int .u64 0, .int .u64 0, .int .u64 0, .int .u64 0] 24)).cell (p := ⟨g, 0, none⟩) gl).trans c0
  clear su sk hX hM hM2 m1 lt
  generalize Nm.of ((X % M : Nat) : Int) = r at *
  go_enter Try.func28, Try.ntmps28
  go_wp2_with fail
  have NB : Hid (Below w.heap.size w (w.alloc (.cells #[.int .u64 0, .int .u64 0, .int .u64 0, .int .u64 0] 24))) := (Below.refl _ _).alloc (Nat.le_refl _) _
  refine (RM.out _ _ _ (Sl.up (xs := P.dg X) SU.out NB.out) (Sl.up (xs := P.dg M) SK.out NB.out)).mono ?_
  rintro e w1 ⟨⟨v1, rfl, s1⟩, hb1⟩
  have X1 : Hid (w1.heap[w.heap.size]? = some (.cells #[.int .u64 0, .int .u64 0, .int .u64 0, .int .u64 0] 24 (0, 0))) := (hb1.block _ (by simp)).trans (heap_alloc_new w _)
  have B1 : Hid (Below w.heap.size w w1) := NB.out.trans (hb1.mono (by simp))
  have S1 : Hid (Sl w1 v1 (P.dg (X % M))) := s1
  clear s1 hb1 NB RM c0 c1
  go_wp2_with fail
  refine (TN.out _ _ S1.out).mono ?_
  rintro e w2 ⟨rfl, hb2⟩
  have X2 : Hid (w2.heap[w.heap.size]? = _) := (hb2.block _ (Array.getElem?_eq_some_iff.1 X1.out).1).trans X1.out
  have B2 : Hid (Below w.heap.size w w2) := B1.out.trans (hb2.mono B1.out.size)
  obtain ⟨j0, j1, j2, j3⟩ : w2.cell? ⟨w.heap.size, 0, none⟩ = some (.int .u64 0) ∧ w2.cell? ⟨w.heap.size, 1, none⟩ = some (.int .u64 0) ∧ w2.cell? ⟨w.heap.size, 2, none⟩ = some (.int .u64 0) ∧ w2.cell? ⟨w.heap.size, 3, none⟩ = some (.int .u64 0) := by simp [World.cell?, X2.out]
  obtain ⟨y0, y1, y2, y3⟩ : w2.frozen? ⟨w.heap.size, 0, none⟩ = false ∧ w2.frozen? ⟨w.heap.size, 1, none⟩ = false ∧ w2.frozen? ⟨w.heap.size, 2, none⟩ = false ∧ w2.frozen? ⟨w.heap.size, 3, none⟩ = false := by simp [World.frozen?, X2.out]
  clear hb2 S1 B1 X1
  go_wp2_with fail
  refine bodyPost_ret (v := N r) (by simp (maxDischargeDepth := 8) [results, Try.results28, go_sem, j0, j1, j2, j3]) rfl ⟨rfl, ?_⟩
  exact (((B2.out.setCell (Nat.le_refl _) _).setCell (Nat.le_refl _) _).setCell (Nat.le_refl _) _).setCell (Nat.le_refl _) _
end Go.Proofs.Ytkgfeacednomfaa
