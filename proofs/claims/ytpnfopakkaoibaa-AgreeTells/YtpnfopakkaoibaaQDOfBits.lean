/- The contract of sealringref.OfBits, at 256 bits. -/
import Derived.Test.YtpnfopakkaoibaaQDRestToDNumP
import Derived.Test.YtpnfopakkaoibaaQDMinusToDParts
import Derived.Test.YtpnfopakkaoibaaQDDigPToFeN
namespace Go.Proofs.Ytpnfopakkaoibaa
open Go.RowKit
attribute [local go_sem] YieldsP execOp
attribute [local simp] MP.eq_p MP.sl_p MP.sl2_p
theorem bitsum_lt {V : Nat → Nat} {bs : List Nat} (hV0 : V 256 = 0) (hV : ∀ k, k < 256 → V k = V (k + 1) + V (k + 1) + bs.getD k 0) (h1 : ∀ k, k < 256 → bs.getD k 0 ≤ 1) : ∀ j, j ≤ 256 → V (256 - j) < 2 ^ j
  | 0, _ => by rw [Nat.sub_zero, hV0]; decide
  | j + 1, hj => by
    have ih := bitsum_lt hV0 hV h1 j (by omega)
    have := hV (256 - (j + 1)) (by omega)
    have := h1 (256 - (j + 1)) (by omega)
    rw [show 256 - (j + 1) + 1 = 256 - j by omega] at *
    rw [Nat.pow_succ]
    omega
theorem bitsum_len {V : Nat → Nat} {bs : List Nat} (hV0 : V 256 = 0) (hV : ∀ k, k < 256 → V k = V (k + 1) + V (k + 1) + bs.getD k 0) (h1 : ∀ k, k < 256 → bs.getD k 0 ≤ 1) (k : Nat) (hk : k ≤ 256) : V k < 2 ^ 256 := by
  have := bitsum_lt hV0 hV h1 (256 - k) (by omega)
  rw [show 256 - (256 - k) = k by omega] at this
  exact Nat.lt_of_lt_of_le this (Nat.pow_le_pow_right (by decide) (by omega))
set_option maxHeartbeats 2000000 in
theorem ofBits_fun (B : Nat) (bs : List Nat) (V : Nat → Nat) (hV0 : V 256 = 0) (hV : ∀ k, k < 256 → V k = V (k + 1) + V (k + 1) + bs.getD k 0) (h1 : ∀ k, k < 256 → bs.getD k 0 ≤ 1) (w : World)
    (hc : ∀ j, j < 256 → w.cell? ⟨B, j, none⟩ = some (.int .i64 ((bs.getD j 0 : Nat) : Int))) :
    Calls Try.prog 32 #[.slice (some ⟨B, 0, none⟩) 256 256] w fun e w' => (∃ v', e = .returned v' ∧ Sl w' v' (P.dg (V 0))) ∧ Below w.heap.size w w' := by
  have ln : ∀ n, n < 2 ^ 256 + 2 ^ 256 → (P.dg n).length < 1073741824 := fun n h => Nat.lt_of_le_of_lt (P.dg_len 17 (Nat.lt_of_lt_of_le h (by decide))) (by decide)
  have PA : Hid (∀ k, k < 256 → ∀ u v w, Sl w u (P.dg (V (k + 1))) → Sl w v (P.dg (V (k + 1))) → Calls Try.prog 49 #[u, v] w fun e w' => (∃ v', e = .returned v' ∧ Sl w' v' (P.dg (V (k + 1) + V (k + 1)))) ∧ Below w.heap.size w w') := by
    intro k hk u v w su sv
    have l1 := bitsum_len hV0 hV h1 (k + 1) (by omega)
    have := dplus_fun u v _ _ (P.dg_Dg (V (k + 1))) (P.dg_Dg (V (k + 1))) (ln _ (by omega)) (ln _ (by omega)) w su sv
    rwa [P.dv_dg] at this
  have PB : Hid (∀ k, k < 256 → ∀ u v w, Sl w u (P.dg (V (k + 1) + V (k + 1))) → Sl w v [bs.getD k 0] → Calls Try.prog 49 #[u, v] w fun e w' => (∃ v', e = .returned v' ∧ Sl w' v' (P.dg (V k))) ∧ Below w.heap.size w w') := by
    intro k hk u v w su sv
    have l1 := bitsum_len hV0 hV h1 (k + 1) (by omega)
    have q := h1 k hk
    have := dplus_fun u v _ _ (P.dg_Dg (V (k + 1) + V (k + 1))) (P.Dg.one (show bs.getD k 0 < 65536 by omega)) (ln _ (by omega)) (by simp) w su sv
    rwa [P.dv_dg, show P.dv [bs.getD k 0] = bs.getD k 0 by simp [P.dv], ← hV k hk] at this
  have HC : Hid (∀ j, j < 256 → w.cell? ⟨B, j, none⟩ = some (.int .i64 ((bs.getD j 0 : Nat) : Int))) := hc
  have Z0 : Hid (V 256 = 0) := hV0
  have H1 : Hid (∀ k, k < 256 → bs.getD k 0 ≤ 1) := h1
  clear hc ln hV hV0 h1
  go_enter Try.func32, Try.ntmps32
  go_wp2_with fail
  go_loopw [3, 4] (fun l i wr => ∃ (k : Nat), k ≤ 256 ∧ i = .int .i64 ((k : Int) - 1) ∧ Hid (Sl wr l (P.dg (V k))) ∧ Hid (Below w.heap.size w wr)) (fun _ i _ => (intOf i + 1).toNat)
  case atStart => exact ⟨256, by omega, rfl, .inl ⟨rfl, by rw [Z0.out, P.dg_zero]⟩, Below.refl _ _⟩
  case round =>
    obtain ⟨k, hk, rfl, sl, b3⟩ := hrel
    by_cases h0 : 0 < k
    · obtain ⟨k, rfl⟩ : ∃ j, k = j + 1 := ⟨k - 1, by omega⟩
      rw [show ((k + 1 : Nat) : Int) - 1 = k by omega]
      have i0 : (k : Int) ≥ 0 := by omega
      have i2 : (k : Int) < 256 := by omega
      have cx := HC.out k (by omega)
      have TI := PA.out k (by omega)
      have PL := PB.out k (by omega)
      have xl := H1.out k (by omega)
      generalize bs.getD k 0 = x at *
      have CX : Hid _ := (b3.out.cell (p := ⟨B, k, none⟩) (lt_of_cell cx)).trans cx
      clear cx
      go_wp2_with fail
      refine wp_region_monoE [MP.sl (P.dg (V (k + 1))), MP.sl (P.dg (V (k + 1))), MP.sl (P.dg (V (k + 1) + V (k + 1))), MP.eq (.slice (some ⟨B, 0, none⟩) 256 256), MP.eq (.int .i64 (k : Int)), MP.eq (.pointer (some ⟨B, k, none⟩)), MP.eq (.int .i64 (x : Int)), MP.sl [x], MP.sl (P.dg (V k)), MP.sl (P.dg (V k))] (by kernel_rfl) (by kernel_rfl) rfl ?_
      apply Exists.intro
      refine ⟨fun vals => ?_, ?_, fun vals4 w4 hb4 hF => ?_⟩
      · simp only [putsV, dstL, List.length_cons, List.length_nil, Nat.zero_add, Nat.reduceAdd, List.getElem?_cons_zero, List.getElem?_cons_succ, Option.bind_some, Act.put, List.setIfInBounds_toArray, List.set_cons_succ, List.set_cons_zero]
        rfl
      · refine ⟨?_, ?_, ?_, ?_, ?_, ?_, ?_, ?_, ?_, ?_, trivial⟩
        · intro vals W hW hw hd
          refine ⟨rfl, ?_⟩
          have h9 : vals 9 = u3 := (hw.out 9 (by kernel_rfl)).trans rfl
          simp [go_sem, h9]
          exact ⟨Sl.up (xs := P.dg (V (k + 1))) sl.out hW.out, Below.refl _ _⟩
        · intro vals W hW hw hd
          refine ⟨rfl, ?_⟩
          have h9 : vals 9 = u3 := (hw.out 9 (by kernel_rfl)).trans rfl
          simp [go_sem, h9]
          exact ⟨Sl.up (xs := P.dg (V (k + 1))) sl.out hW.out, Below.refl _ _⟩
        · intro vals W hW hw hd
          simp [Region.binds] at hd
          refine ⟨rfl, ?_⟩
          simp [go_sem]
          exact (TI _ _ _ (by simp [hd]) (by simp [hd])).mono fun e w' ⟨⟨v', he, hs⟩, hb⟩ => ⟨v', he, hs, hb⟩
        · intro vals W hW hw hd
          refine ⟨rfl, ?_⟩
          simp [go_sem]
          exact Below.refl _ _
        · intro vals W hW hw hd
          refine ⟨rfl, ?_⟩
          simp [go_sem]
          exact Below.refl _ _
        · intro vals W hW hw hd
          simp [Region.binds] at hd
          refine ⟨rfl, ?_⟩
          simp [go_sem, hd, i0, i2]
          exact Below.refl _ _
        · intro vals W hW hw hd
          simp [Region.binds] at hd
          refine ⟨rfl, ?_⟩
          have u0 := (hW.out.cell (p := ⟨B, k, none⟩) (lt_of_cell CX.out)).trans CX.out
          simp [go_sem, hd, u0]
          exact Below.refl _ _
        · intro vals W hW hw hd
          simp [Region.binds] at hd
          refine ⟨rfl, ?_⟩
          simp [go_sem, hd]
          exact ⟨Sl.one W x _ rfl, (Below.refl _ _).alloc (Nat.le_refl _) _⟩
        · intro vals W hW hw hd
          simp [Region.binds] at hd
          refine ⟨rfl, ?_⟩
          simp [go_sem]
          exact (PL _ _ _ (by simp [hd]) (by simp [hd])).mono fun e w' ⟨⟨v', he, hs⟩, hb⟩ => ⟨v', he, hs, hb⟩
        · intro vals W hW hw hd
          simp [Region.binds] at hd
          refine ⟨rfl, ?_⟩
          simp [go_sem]
          exact ⟨by simp [hd], Below.refl _ _⟩
      obtain ⟨_, _, _, _, _, _, _, _, _, f9, _⟩ := hF
      simp only [MP.sl_p] at f9
      have S9 : Hid (Sl w4 (vals4 9) (P.dg (V k))) := f9
      have b4 : Hid (Below w.heap.size w w4) := b3.out.trans (hb4.out.mono b3.out.size)
      clear f9 hb4 b3 CX TI PL sl
      go_wp2_with fail
      go_roundw
      case rel => exact ⟨k, by omega, by go_num, S9, b4⟩
      case measure => simp [intOf]
    · have k0 : k = 0 := by omega
      subst k0
      rw [show ((0 : Nat) : Int) - 1 = -1 by omega]
      go_wp2_with fail
      go_ret
      exact ⟨⟨_, rfl, sl.out⟩, b3.out⟩
end Go.Proofs.Ytpnfopakkaoibaa
