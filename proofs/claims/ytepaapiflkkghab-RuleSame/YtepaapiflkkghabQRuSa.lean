/- RuleSame, out of what package rule must keep. -/
import Derived.Test.YtepaapiflkkghabQRuGToRuI
import Derived.Test.YtepaapiflkkghabQRlK
import Derived.Test.YtepaapiflkkghabQAtL
import Derived.Test.YtepaapiflkkghabQDerWToAtA
import Derived.Deep.CutRange
namespace Go.Proofs.Ytepaapiflkkghab
open Go.RowKit
attribute [local go_sem] World.cell?_alloc_some cell_alloc2 cell_alloc3 cell_alloc4 frozen?_alloc_cells frozen_out
set_option linter.unusedSimpArgs false
/-- May a kind be changed at all? -/
def fixB (k : Int) : Bool := decide (k = 1 ∨ (4 ≤ k ∧ k ≤ 6) ∨ (10 ≤ k ∧ k ≤ 12))
/-- One element of an object over it: as it is, or refused. -/
theorem same_trn {o : List Ar} {k : Int} {v : List Nat} (hv : valA o = true) (hg : getA o k = some v) : trnE o [⟨k, v⟩] false = (if fixB k = true ∨ oneF (crdF o) 7 = false then 12 else 0) ∧ crdF ([⟨k, v⟩] ++ o) = crdF o := by
  have hp := val_parts hv
  have hG := ((fltA_zero o).1 hp.1).2
  have hk := good_of_get hG.1 hg
  obtain ⟨i, hi⟩ : ∃ i : Nat, k = (i : Int) := ⟨k.toNat, by omega⟩
  have hc : crdF o i = some v := by
    unfold crdF
    rw [if_pos ⟨by omega, by omega⟩, ← hi]
    exact hg
  have hs : crdF ([⟨k, v⟩] ++ o) = crdF o := by
    funext j
    unfold crdF
    by_cases hj : 1 ≤ j ∧ j ≤ 18
    · rw [if_pos hj, if_pos hj, getA_app]
      by_cases e : k = (j : Int)
      · rw [getA, if_pos e, Option.some_or, ← e]
        exact hg.symm
      · rw [getA, if_neg e]
        rfl
    · rw [if_neg hj, if_neg hj]
  refine ⟨?_, hs⟩
  have hf : fltA [⟨k, v⟩] = 0 := by
    refine (fltA_zero _).2 ⟨by simp, fun x hx => ?_, by simp⟩
    obtain rfl := List.mem_singleton.1 hx
    exact hk
  unfold trnE
  rw [if_neg (by rw [hv]; decide), if_neg (fun h => h hf)]
  by_cases h7 : oneF (crdF o) 7 = false
  · rw [if_pos ⟨h7, rfl⟩, if_pos (.inr h7)]
  · rw [if_neg (fun h => h7 h.1)]
    have hcs : (crdF o k.toNat).isSome = true := by rw [hi, Int.toNat_natCast, hc]; rfl
    have ho : ∀ m : Nat, k = (m : Int) → oneF (crdF o) m = decide (v = [1]) := fun m hm => by
      have : i = m := by omega
      unfold oneF
      rw [← this, hc]
      rfl
    have hn : nayB (crdF o) false ⟨k, v⟩ = fixB k := by
      unfold nayB fixB
      by_cases h8 : k = 8
      · have := ho 8 (by omega)
        subst h8
        rw [this]
        by_cases e : v = [0]
        · rw [e]; rfl
        · simp [e]
      · by_cases h9 : k = 9
        · have := ho 9 (by omega)
          subst h9
          rw [this]
          by_cases e : v = [1]
          · rw [e]; rfl
          · simp [e]
        · simp only [h8, h9, decide_false, Bool.false_and, Bool.or_false, Bool.not_false, Bool.and_true, Bool.true_or]
          rw [← Bool.decide_or, ← Bool.decide_or]
          exact decide_eq_decide.2 (by omega)
    by_cases hx : fixB k = true
    · have : badT (crdF o) false [⟨k, v⟩] = 12 := by rw [badT, if_neg (by rw [hcs]; decide), if_pos (hn.trans hx)]
      rw [if_pos (by rw [this]; decide), this, if_pos (.inl hx)]
    · have : badT (crdF o) false [⟨k, v⟩] = 0 := by rw [badT, if_neg (by rw [hcs]; decide), if_neg (by rw [hn]; exact hx), badT]
      rw [if_neg (fun h => h this), hs, if_pos hp.2.2, if_neg (fun h => h.elim hx h7)]
theorem same_ovr {o : List Ar} {k : Int} {v : List Nat} (hv : valA o = true) (hg : getA o k = some v) : ovrA o [⟨k, v⟩] = o := by
  have hp := val_parts hv
  have h2 := (same_trn hv hg).2
  have e : ovrA o [⟨k, v⟩] = risA o := risA_congr fun j h1 h3 => by
    have := congrFun h2 j.toNat
    unfold crdF at this
    rw [if_pos ⟨by omega, by omega⟩, if_pos ⟨by omega, by omega⟩, show ((j.toNat : Nat) : Int) = j by omega] at this
    exact this
  rw [e, ← hp.2.1]
/-- The template of sealringkeep.rules. -/
def rlT : List Ar := [⟨1, [1]⟩, ⟨4, []⟩]
set_option maxRecDepth 10000 in
theorem rlT_mad : madE rlT false = 0 := by decide
set_option maxRecDepth 10000 in
theorem rlT_len : (madL rlT false).length = 7 := by decide
set_option maxRecDepth 20000 in
set_option maxHeartbeats 2000000 in
theorem rules_alive (MC : RlMakeC) (w : World) : Calls Try.prog 8 #[] w fun e w' => e = .returned (.bool true) ∧ Below w.heap.size w w' := by
  have s1 := by_one w 1
  have b1 : Hid (Below w.heap.size w (w.alloc (.cells #[.int .u8 1] 5))) := (Below.refl _ _).alloc (Nat.le_refl _) _
  have k2 : Hid (Kn ((w.alloc (.cells #[.int .u8 1] 5)).alloc (.cells #[.int .i64 1, .slice (some ⟨w.heap.size, 0, none⟩) 1 1, .int .i64 4, .slice none 0 0] 38)) [((w.alloc (.cells #[.int .u8 1] 5)).heap.size, [.int .i64 1, .slice (some ⟨w.heap.size, 0, none⟩) 1 1, .int .i64 4, .slice none 0 0])]) := (Kn.nil _).al [.int .i64 1, .slice (some ⟨w.heap.size, 0, none⟩) 1 1, .int .i64 4, .slice none 0 0] 38 rfl
  have A : Ats ((w.alloc (.cells #[.int .u8 1] 5)).alloc (.cells #[.int .i64 1, .slice (some ⟨w.heap.size, 0, none⟩) 1 1, .int .i64 4, .slice none 0 0] 38)) (.slice (some ⟨(w.alloc (.cells #[.int .u8 1] 5)).heap.size, 0, none⟩) 2 2) rlT :=
    ⟨_, 2, rfl, Nat.le_refl _, (fun h => by cases h), fun _ => ⟨_, 0, rfl, fun j y hy => by
      have hj := (List.getElem?_eq_some_iff.1 hy).1
      match j, hj, hy with
      | 0, _, hy =>
        obtain rfl := Option.some.inj hy
        exact ⟨Kn.get k2.out 0 0 rfl rfl, _, Kn.get k2.out 0 1 rfl rfl, s1.up ((Below.refl _ _).alloc (Nat.le_refl _) _) (Nat.le_refl _)⟩
      | 1, _, hy =>
        obtain rfl := Option.some.inj hy
        exact ⟨Kn.get k2.out 0 2 rfl rfl, _, Kn.get k2.out 0 3 rfl rfl, By.nil _⟩⟩⟩
  have b2 : Hid (Below w.heap.size w ((w.alloc (.cells #[.int .u8 1] 5)).alloc (.cells #[.int .i64 1, .slice (some ⟨w.heap.size, 0, none⟩) 1 1, .int .i64 4, .slice none 0 0] 38))) := b1.out.alloc b1.out.size _
  have lo : lowA rlT := fun x hx => by
    simp only [rlT, List.mem_cons, List.not_mem_nil, or_false] at hx
    rcases hx with rfl | rfl
    · exact ⟨⟨by simp only; omega, by simp only; omega⟩, fun y hy => by obtain rfl := List.mem_singleton.1 hy; decide⟩
    · exact ⟨⟨by simp only; omega, by simp only; omega⟩, fun y hy => absurd hy List.not_mem_nil⟩
  have zd : zedA rlT := fun x hx => by
    simp only [rlT, List.mem_cons, List.not_mem_nil, or_false] at hx
    rcases hx with rfl | rfl <;> simp
  have M := MC _ rlT false _ lo (by simp [rlT]) zd A
  rw [rlT_mad, show (w.alloc (.cells #[.int .u8 1] 5)).heap.size = w.heap.size + 1 from by simp] at M
  have hl := rlT_len
  generalize madL rlT false = L at *
  have HL : Hid (L.length = 7) := hl
  clear s1 b1 k2 A lo zd MC hl
  go_enter Try.func8, Try.ntmps8
  go_wp2_with (first | refine wp_bs1 rfl _ rfl 1 rfl ?_)
  refine M.mono ?_
  rintro e w3 ⟨⟨r, rfl, hr⟩, hb⟩
  have b3 : Hid (Below w.heap.size w w3) := b2.out.trans (hb.mono b2.out.size)
  obtain ⟨ra, rc, rfl⟩ := ats_parts hr
  rw [HL.out]
  clear hb hr M b2
  go_wp2_with fail
  go_ret
  exact ⟨rfl, b3.out⟩
set_option maxRecDepth 20000 in
set_option maxHeartbeats 4000000 in
theorem same_walk (v : Value) (t O N : List Ar) (E F : Nat) (b ok m fx : Bool) (k : Int) (X : List Nat) (w : World) (HV : Hid (Ats w v t)) (hfx : Hid (fixB k = fx))
    (hF : Hid (E = 0 → ok = true → F = if fx = true ∨ m = false then 12 else 0)) (hN : Hid (N = if F = 0 then O else []))
    (RA : Calls Try.prog 8 #[] w fun e w' => e = .returned (.bool true) ∧ Below w.heap.size w w')
    (M1 : ∀ W, Ats W v t → Calls Try.prog 5 #[v, .bool b] W fun e w' => (∃ r, e = .returned (.tuple #[r, .int .i64 (E : Int)]) ∧ Ats w' r O) ∧ Below W.heap.size W w')
    (G1 : ∀ r W, Ats W r O → Calls Try.prog 9 #[r, .int .i64 k] W fun e w' => (∃ u, e = .returned (.tuple #[u, .bool ok]) ∧ By w' u X) ∧ Below W.heap.size W w')
    (C1 : E = 0 → ok = true → ∀ r z W, Ats W r O → Ats W z [⟨k, X⟩] → Calls Try.prog 10 #[r, z] W fun e w' => (∃ n, e = .returned (.tuple #[n, .int .i64 (F : Int)]) ∧ Ats w' n N) ∧ Below W.heap.size W w')
    (I1 : ∀ r W, Ats W r O → Calls Try.prog 11 #[r, .int .i64 7] W fun e w' => e = .returned (.bool m) ∧ Below W.heap.size W w')
    (S1 : ∀ p q W, Ats W p O → Ats W q O → Calls Try.prog 12 #[p, q] W fun e w' => e = .returned (.bool true) ∧ Below W.heap.size W w') :
    Calls Try.prog 4 #[v, .bool b, .int .i64 k] w fun e w' => e = .returned (.bool true) ∧ Below w.heap.size w w' := by
  go_enter Try.func4, Try.ntmps4
  go_wp2_with fail
  refine RA.mono ?_
  rintro e w1 ⟨rfl, hb⟩
  have b1 : Hid (Below w.heap.size w w1) := hb
  have M2 := M1 w1 (HV.out.up hb (Nat.le_refl _))
  clear hb RA M1
  go_wp2_with fail
  refine M2.mono ?_
  rintro e w2 ⟨⟨r, rfl, hr⟩, hb⟩
  have b2 : Hid (Below w.heap.size w w2) := b1.out.trans (hb.mono b1.out.size)
  have R2 : Hid (Ats w2 r O) := hr
  have G2 := G1 r w2 hr
  clear hb hr b1 M2 G1
  go_wp2_with fail
  refine G2.mono ?_
  rintro e w3 ⟨⟨x, rfl, hx⟩, hb⟩
  have b3 : Hid (Below w.heap.size w w3) := b2.out.trans (hb.mono b2.out.size)
  have R3 : Hid (Ats w3 r O) := R2.out.up hb (Nat.le_refl _)
  have X3 : Hid (By w3 x X) := hx
  clear hb hx b2 R2 G2
  by_cases hE : E = 0
  · subst hE
    cases ok with
    | false =>
      clear hF hN C1 I1 S1
      go_wp2_with fail
      go_ret
      exact ⟨rfl, b3.out⟩
    | true =>
      have hF2 : Hid _ := hF.out rfl rfl
      have C2 := C1 rfl rfl
      clear hF C1
      obtain ⟨xa, xc, ex⟩ := X3.out.len
      subst ex
      obtain ⟨q, hq⟩ : ∃ q, Hid (X.length = q) := ⟨_, rfl⟩
      rw [hq.out] at X3 ⊢
      have ba : Below w3.heap.size w3 (w3.alloc (.cells #[.int .i64 k, .slice xa q xc] 38)) := (Below.refl _ _).alloc (Nat.le_refl _) _
      have kn := (Kn.nil w3).al [.int .i64 k, .slice xa q xc] 38 rfl
      have A4 : Ats (w3.alloc (.cells #[.int .i64 k, .slice xa q xc] 38)) (.slice (some ⟨w3.heap.size, 0, none⟩) 1 1) [⟨k, X⟩] := ats_one (x := ⟨k, X⟩) (Kn.get kn 0 0 rfl rfl) (Kn.get kn 0 1 rfl rfl) (X3.out.up ba (Nat.le_refl _))
      have C3 := C2 r _ _ (R3.out.up ba (Nat.le_refl _)) A4
      have b4 : Hid (Below w.heap.size w (w3.alloc (.cells #[.int .i64 k, .slice xa q xc] 38))) := b3.out.trans (ba.mono b3.out.size)
      have R4 : Hid (Ats (w3.alloc (.cells #[.int .i64 k, .slice xa q xc] 38)) r O) := R3.out.up ba (Nat.le_refl _)
      clear ba kn A4 C2 b3 R3 X3 hq
      go_wp2_with (first | refine wp_buildAt rfl _ _ rfl k _ _ _ rfl rfl ?_ | refine wp_bsA rfl _ rfl k _ _ _ rfl ?_ | fail)
      refine C3.mono ?_
      rintro e w5 ⟨⟨n, rfl, hn⟩, hb⟩
      have bk : Hid (Below w.heap.size w w5) := b4.out.trans (hb.mono b4.out.size)
      have R : Hid (Ats w5 r O) := R4.out.up hb (Nat.le_refl _)
      have Z : Hid (Ats w5 n N) := hn
      clear hb hn b4 R4 C3
      go_upto_region 8 with fail
      go_cut [13] from 43 (fun s wx => s = .bool fx ∧ Hid (Ats wx r O) ∧ Hid (Ats wx n N) ∧ Hid (Below w.heap.size w wx))
      case first =>
        clear hF2 hN I1 S1
        by_cases k1 : k = 1
        · have q1 : (k == 1) = true := beq_iff_eq.2 k1
          obtain rfl : true = fx := by rw [← hfx.out]; exact (decide_eq_true (.inl k1)).symm
          clear hfx k1
          go_wp2_with fail
          go_meet
          case rel => exact ⟨rfl, R, Z, bk⟩
        have q1 : (k == 1) = false := beq_eq_false_iff_ne.2 k1
        by_cases k4 : k ≥ 4
        · by_cases k6 : k ≤ 6
          · obtain rfl : true = fx := by rw [← hfx.out]; exact (decide_eq_true (.inr (.inl ⟨k4, k6⟩))).symm
            clear hfx k1
            go_wp2_with fail
            go_meet
            case rel => exact ⟨rfl, R, Z, bk⟩
          · by_cases k10 : k ≥ 10
            · by_cases k12 : k ≤ 12
              · obtain rfl : true = fx := by rw [← hfx.out]; exact (decide_eq_true (.inr (.inr ⟨k10, k12⟩))).symm
                clear hfx k1
                go_wp2_with fail
                go_meet
                case rel => exact ⟨rfl, R, Z, bk⟩
              · obtain rfl : false = fx := by rw [← hfx.out]; exact (decide_eq_false (by omega)).symm
                clear hfx k1
                go_wp2_with fail
                go_meet
                case rel => exact ⟨rfl, R, Z, bk⟩
            · obtain rfl : false = fx := by rw [← hfx.out]; exact (decide_eq_false (by omega)).symm
              clear hfx k1
              go_wp2_with fail
              go_meet
              case rel => exact ⟨rfl, R, Z, bk⟩
        · have k10 : ¬ k ≥ 10 := by omega
          obtain rfl : false = fx := by rw [← hfx.out]; exact (decide_eq_false (by omega)).symm
          clear hfx k1
          go_wp2_with fail
          go_meet
          case rel => exact ⟨rfl, R, Z, bk⟩
      case rest =>
        clear R Z bk hfx
        obtain ⟨rfl, R, Z, bk⟩ := hcut
        cases fx with
        | true =>
          obtain rfl : F = 12 := hF2.out.trans (if_pos (.inl rfl))
          rw [hN.out, if_neg (by decide)] at Z
          clear hF2 hN I1 S1
          obtain ⟨na, nc, rfl⟩ := ats_parts Z.out
          rw [show ([] : List Ar).length = 0 from rfl]
          clear Z R
          go_wp2_with fail
          go_ret
          exact ⟨rfl, bk.out⟩
        | false =>
          have I2 := I1 r _ R.out
          clear I1
          go_wp2_with fail
          refine I2.mono ?_
          rintro e w7 ⟨rfl, hb⟩
          have bn : Hid (Below w.heap.size w w7) := bk.out.trans (hb.mono bk.out.size)
          have rn : Hid (Ats w7 r O) := R.out.up hb (Nat.le_refl _)
          have zn : Hid (Ats w7 n N) := Z.out.up hb (Nat.le_refl _)
          clear hb bk R Z I2
          have bk := bn
          have R := rn
          have Z := zn
          clear bn rn zn
          cases m with
          | false =>
            obtain rfl : F = 12 := hF2.out.trans (if_pos (.inr rfl))
            rw [hN.out, if_neg (by decide)] at Z
            clear hF2 hN S1
            obtain ⟨na, nc, rfl⟩ := ats_parts Z.out
            rw [show ([] : List Ar).length = 0 from rfl]
            clear Z R
            go_wp2_with fail
            go_ret
            exact ⟨rfl, bk.out⟩
          | true =>
            obtain rfl : F = 0 := hF2.out.trans (if_neg (fun h => h.elim (fun h => by cases h) fun h => by cases h))
            rw [hN.out, if_pos rfl] at Z
            have S2 := S1 n r _ Z.out R.out
            clear hF2 hN S1 Z R
            go_wp2_with fail
            refine S2.mono ?_
            rintro e w8 ⟨rfl, hb⟩
            have b8 : Hid (Below w.heap.size w w8) := bk.out.trans (hb.mono bk.out.size)
            clear hb bk S2
            go_wp2_with fail
            go_ret
            exact ⟨rfl, b8.out⟩
  · have e1 : ((E : Int) != 0) = true := bne_iff_ne.2 (by omega)
    clear hF hN C1 I1 S1 hE
    go_wp2_with fail
    go_ret
    exact ⟨rfl, b3.out⟩
theorem madL_low {t : List Ar} {b : Bool} (h : lowA t) : lowA (madL t b) := fun x hx => by
  have lo : ∀ x ∈ t, lowB x.v := fun x hx => (h x hx).2
  obtain ⟨k, hk, h1, h2⟩ := atsF_mem.1 hx
  refine ⟨by rw [h1]; omega, madF_low lo k x.v h2⟩
theorem madL_len (t : List Ar) (b : Bool) : (madL t b).length ≤ 19 := atsF_len (madF t b) 19
theorem val_zed {l : List Ar} (h : valA l = true) : zedA l := fun x hx => by
  have := ((fltA_zero l).1 (val_parts h).1).2.1 x hx
  have := fit_len this.2.2
  omega
theorem mad_zed {t : List Ar} {b : Bool} : zedA (madL t b) := by
  by_cases h : madE t b = 0
  · exact val_zed (mad_val h)
  · have e : madF t b = nonF := if_neg h
    intro x hx
    unfold madL at hx
    obtain ⟨k, _, _, h2⟩ := atsF_mem.1 hx
    rw [e] at h2
    cases h2
/-- RuleSame. -/
theorem ruleSame_of (MC : RlMakeC) (CC : RlChangeC) (GC : AtGetC) (IC : AtIsC) (t : List Ar) (lt : lowA t) (hl : t.length ≤ 140737488351232) (zt : zedA t) (b : Bool) (k : Int) (hk : -9223372036854775808 ≤ k ∧ k ≤ 9223372036854775807) (w : World) {v : Value} (h : Ats w v t) :
    Calls Try.prog 4 #[v, .bool b, .int .i64 k] w fun e w' => e = .returned (.bool true) ∧ Below w.heap.size w w' := by
  have lo := madL_low (b := b) lt
  have hn : (madL t b).length ≤ 4611686018427387904 := Nat.le_trans (madL_len t b) (by omega)
  have hv : madE t b = 0 → valA (madL t b) = true := fun h => mad_val h
  refine same_walk v t (madL t b) (trnL (madL t b) [⟨k, (getA (madL t b) k).getD []⟩] false) (madE t b) (trnE (madL t b) [⟨k, (getA (madL t b) k).getD []⟩] false) b (getA (madL t b) k).isSome (oneF (crdF (madL t b)) 7) (fixB k) k ((getA (madL t b) k).getD []) w h rfl (fun h0 hok => ?_) ?_ (rules_alive MC w)
    (fun W hW => MC v t b W lt (by omega) zt hW) (fun r W hW => GC r _ k W lo hn mad_zed hk.1 hk.2 hW) (fun h0 hok r z W h1 h2 => ?_) (fun r W hW => ?_) (fun p q W hp hq => sameK_fun _ hn lo p q W hp hq)
  · cases hg : getA (madL t b) k with
    | none => rw [hg] at hok; cases hok
    | some x => exact (same_trn (hv h0) hg).1
  · show _ = _
    by_cases hz : trnE (madL t b) [⟨k, (getA (madL t b) k).getD []⟩] false = 0
    · unfold trnL
      rw [if_pos hz, if_pos hz]
      cases hg : getA (madL t b) k with
      | none =>
        rw [hg] at hz
        have := badT_zero (trn_zero hz).2.2.2.1 _ List.mem_cons_self
        have hgd := ((fltA_zero _).1 (trn_zero hz).2.1).2.1 _ List.mem_cons_self
        have h1 := this.1
        unfold crdF at h1
        have hr : 1 ≤ k ∧ k ≤ 18 := ⟨hgd.1, hgd.2.1⟩
        simp only at h1
        rw [if_pos ⟨by omega, by omega⟩, show ((k.toNat : Nat) : Int) = k by omega, hg] at h1
        cases h1
      | some x => exact same_ovr (trn_zero hz).1 hg
    · unfold trnL
      rw [if_neg hz, if_neg hz]
  · refine CC r z _ _ W lo (fun x hx => ?_) hn mad_zed (by simp) (fun x hx => ?_) h1 h2
    · obtain rfl := List.mem_singleton.1 hx
      refine ⟨hk, ?_⟩
      cases hg : getA (madL t b) k with
      | none => exact fun y hy => absurd hy List.not_mem_nil
      | some x =>
        obtain ⟨y, hy, _, rfl⟩ := getA_mem hg
        exact (lo y hy).2
    · obtain rfl := List.mem_singleton.1 hx
      cases hg : getA (madL t b) k with
      | none => exact Nat.zero_le _
      | some x =>
        obtain ⟨y, hy, _, rfl⟩ := getA_mem hg
        exact mad_zed y hy
  · have := IC r _ 7 W lo hn (by omega) (by omega) hW
    have e : decide ((getA (madL t b) 7).getD [] = [1]) = oneF (crdF (madL t b)) 7 := by
      unfold oneF crdF
      rw [if_pos (by decide)]
      rfl
    rw [e] at this
    exact this
end Go.Proofs.Ytepaapiflkkghab
