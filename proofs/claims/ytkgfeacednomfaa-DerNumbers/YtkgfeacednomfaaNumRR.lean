/- The contract of sealringref.ReadNumber. -/
import Derived.Test.YtkgfeacednomfaaNumTx
import Derived.Test.YtkgfeacednomfaaDOfBits
import Derived.Test.YtkgfeacednomfaaDWords
import Derived.Test.YtkgfeacednomfaaHexRR
namespace Go.Proofs.Ytkgfeacednomfaa
open Go.RowKit
set_option linter.unusedSimpArgs false
attribute [local go_sem] YieldsP execOp
attribute [local simp] MP.eq_p MP.sl_p MP.sl2_p
set_option maxHeartbeats 1000000 in
theorem rReadNumber_none (w : World) :
    Calls Try.prog 48 #[.string (sOf [])] w fun e w' => NumIs [] e ∧ Below w.heap.size w w' := by
  have E2 : Hid (readNumS [] = .inl 3) := (rfl : readNumS [] = .inl 3)
  rw [show sOf [] = ⟨#[]⟩ from rfl]
  go_enter Try.func48, Try.ntmps48
  go_wp2_with fail
  refine bodyPost_ret (v := .tuple #[N ⟨0, 0, 0, 0⟩, i64 3]) (by simp (maxDischargeDepth := 8) [results, Try.results48, go_sem]) rfl ⟨.inl ⟨3, E2.out, rfl⟩, ?_⟩
  exact (Below.refl _ _).alloc (Nat.le_refl _) _
set_option maxRecDepth 20000 in
set_option maxHeartbeats 1000000 in
theorem rReadNumber_high (cs : List Nat) (low : ∀ x ∈ cs, x < 256) (hl : 1 ≤ cs.length) (p1 : 128 ≤ cs.getD 0 0) (w : World) :
    Calls Try.prog 48 #[.string (sOf cs)] w fun e w' => NumIs cs e ∧ Below w.heap.size w w' := by
  have E2 : Hid (readNumS cs = .inl 4) := by
    have : readNumS cs = .inl 4 := by
      unfold readNumS
      rw [if_neg (by omega), if_pos (.inl p1)]
    exact this
  have sz : (sOf cs).size = cs.length := sOf_size cs
  have g0 := sOf_get low 0
  have g1 := sOf_get low 1
  have l0 := getD_low low 0
  have l1 := getD_low low 1
  obtain ⟨ne1, ne2⟩ := ba_some (t := sOf cs) (by omega)
  have s0 : 0 < (sOf cs).size := by omega
  have s1 : (0 : Int) < ((sOf cs).size : Int) := by omega
  generalize cs.getD 0 0 = t at *
  generalize sOf cs = s at *
  have t1 : (t : Int) ≥ 128 := by omega
  clear p1 g1 l1 low
  go_enter Try.func48, Try.ntmps48
  go_wp2_with fail
  refine bodyPost_ret (v := .tuple #[N ⟨0, 0, 0, 0⟩, i64 4]) (by simp (maxDischargeDepth := 8) [results, Try.results48, go_sem]) rfl ⟨.inl ⟨4, E2.out, rfl⟩, ?_⟩
  exact (Below.refl _ _).alloc (Nat.le_refl _) _
set_option maxRecDepth 20000 in
set_option maxHeartbeats 1000000 in
theorem rReadNumber_form (cs : List Nat) (low : ∀ x ∈ cs, x < 256) (hl : 2 ≤ cs.length) (p1 : cs.getD 0 0 = 0) (p2 : cs.getD 1 0 < 128) (w : World) :
    Calls Try.prog 48 #[.string (sOf cs)] w fun e w' => NumIs cs e ∧ Below w.heap.size w w' := by
  have E2 : Hid (readNumS cs = .inl 4) := by
    have : readNumS cs = .inl 4 := by
      unfold readNumS
      rw [if_neg (by omega), if_pos (.inr ⟨p1, by omega, p2⟩)]
    exact this
  have sz : (sOf cs).size = cs.length := sOf_size cs
  have g0 := sOf_get low 0
  have g1 := sOf_get low 1
  have l0 := getD_low low 0
  have l1 := getD_low low 1
  obtain ⟨ne1, ne2⟩ := ba_some (t := sOf cs) (by omega)
  have s0 : 0 < (sOf cs).size := by omega
  have s1 : (0 : Int) < ((sOf cs).size : Int) := by omega
  have s2 : 1 < (sOf cs).size := by omega
  have s3 : (1 : Int) < ((sOf cs).size : Int) := by omega
  rw [p1] at g0
  generalize cs.getD 1 0 = t at *
  generalize sOf cs = s at *
  have t1 : (t : Int) < 128 := by omega
  clear p1 p2 low
  go_enter Try.func48, Try.ntmps48
  go_wp2_with fail
  refine bodyPost_ret (v := .tuple #[N ⟨0, 0, 0, 0⟩, i64 4]) (by simp (maxDischargeDepth := 8) [results, Try.results48, go_sem]) rfl ⟨.inl ⟨4, E2.out, rfl⟩, ?_⟩
  exact (Below.refl _ _).alloc (Nat.le_refl _) _
set_option maxRecDepth 20000 in
set_option maxHeartbeats 1000000 in
theorem rReadNumber_long (cs : List Nat) (low : ∀ x ∈ cs, x < 256) (hl : 34 ≤ cs.length) (p1 : cs.getD 0 0 < 128) (p2 : cs.getD 0 0 ≠ 0 ∨ 128 ≤ cs.getD 1 0) (w : World) :
    Calls Try.prog 48 #[.string (sOf cs)] w fun e w' => NumIs cs e ∧ Below w.heap.size w w' := by
  have E2 : Hid (readNumS cs = .inl 2) := by
    have : readNumS cs = .inl 2 := by
      unfold readNumS
      rw [if_neg (by omega), if_neg (by omega), if_pos (by split <;> omega)]
    exact this
  have sz : (sOf cs).size = cs.length := sOf_size cs
  have g0 := sOf_get low 0
  have g1 := sOf_get low 1
  have l0 := getD_low low 0
  have l1 := getD_low low 1
  obtain ⟨ne1, ne2⟩ := ba_some (t := sOf cs) (by omega)
  have s0 : 0 < (sOf cs).size := by omega
  have s1 : (0 : Int) < ((sOf cs).size : Int) := by omega
  have s2 : 1 < (sOf cs).size := by omega
  have s3 : (1 : Int) < ((sOf cs).size : Int) := by omega
  have s4 : ((sOf cs).size : Int) > 33 := by omega
  generalize cs.getD 0 0 = t at *
  generalize cs.getD 1 0 = u at *
  generalize sOf cs = s at *
  have t1 : ¬ (t : Int) ≥ 128 := by omega
  clear low
  by_cases q : t = 0
  · subst q
    have u1 : ¬ (u : Int) < 128 := by omega
    clear p1 p2
    go_enter Try.func48, Try.ntmps48
    go_wp2_with fail
    refine bodyPost_ret (v := .tuple #[N ⟨0, 0, 0, 0⟩, i64 2]) (by simp (maxDischargeDepth := 8) [results, Try.results48, go_sem]) rfl ⟨.inl ⟨2, E2.out, rfl⟩, ?_⟩
    exact (Below.refl _ _).alloc (Nat.le_refl _) _
  · have t2 : ¬ (t : Int) = 0 := by omega
    have t3 : ((t : Int) == 0) = false := beq_eq_false_iff_ne.2 t2
    clear p1 p2 t2 q
    go_enter Try.func48, Try.ntmps48
    go_wp2_with fail
    refine bodyPost_ret (v := .tuple #[N ⟨0, 0, 0, 0⟩, i64 2]) (by simp (maxDischargeDepth := 8) [results, Try.results48, go_sem]) rfl ⟨.inl ⟨2, E2.out, rfl⟩, ?_⟩
    exact (Below.refl _ _).alloc (Nat.le_refl _) _
end Go.Proofs.Ytkgfeacednomfaa
