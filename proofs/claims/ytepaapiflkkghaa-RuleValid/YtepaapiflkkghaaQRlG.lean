/- Package rule, as it landed: Make, Change, Copy. -/
import Derived.Test.YtepaapiflkkghaaQRlF
import Derived.Test.YtepaapiflkkghaaQAtLmToAtIs
namespace Go.Proofs.Ytepaapiflkkghaa
open Go.RowKit
attribute [local go_sem] World.cell?_alloc_some cell_alloc2 cell_alloc3 cell_alloc4 frozen?_alloc_cells frozen_out
set_option linter.unusedSimpArgs false
theorem run_storeF (P : Program) (w : World) (a : Addr) (m : Mode) (f : Fn) (ts cs : Array Value) : (store a (.func f ts cs) m).run P w = stored P w a (.func f ts cs) m := run_store P w a _ m rfl
attribute [local go_sem] run_storeF
theorem zero_askf (w : World) : (zeroValue 61).run Try.prog w = .ok .nilFunc w := I.zero_of (by kernel_rfl) w
/-- whole, of a template that may make an object. -/
theorem whole_fun (t : List Ar) (lo : lowA t) (hs : t.length ≤ 4611686018427387904) (hz : zedA t) (hf : fltA t = 0) {x : List Nat} (h1 : getA t 1 = some x) (h4 : getA t 4 ≠ none) (hb : badM (x.getD 0 0) t = 0) (b : Bool) (v : Value) (w : World) (hv : Ats w v t) :
    Calls Try.prog 40 #[v, .int .u8 ((x.getD 0 0 : Nat) : Int), .bool b] w fun e w' => (∃ u, e = .returned u ∧ Ats w' u (atsF (mdeF t b) 19)) ∧ Below w.heap.size w w' := by
  have hg := ((fltA_zero t).1 hf).2.1
  obtain ⟨-, hc, c1, c4⟩ := cls_get hg h1
  generalize x.getD 0 0 = c at *
  rw [mde_whl hc c1 c4 hb]
  have hl : lowF (mdeF t b) := by
    unfold mdeF
    exact locF_low (ovF_low (dftF_low _ _) (crdF_low fun y hy => (lo y hy).2))
  refine whole_walk t _ hl c _ ⟨c1, c4⟩ rfl ?_ b v w hv (fun j k hk => whl_val hc c1 c4 (by rw [h1]; intro h; cases h) h4 hb hk) fun k W _ h => get_fun v t k W hs hz h
  exact List.length_pos_of_mem (kndN_mem.2 ⟨Nat.le_refl 1, by decide, by
    have hc4 : c = 1 ∨ c = 2 ∨ c = 3 ∨ c = 4 := by omega
    rcases hc4 with rfl | rfl | rfl | rfl <;> rfl⟩)
set_option maxHeartbeats 2000000 in
theorem make_b1 (v : Value) (f : Nat) (f0 : f ≠ 0) (b : Bool) (w : World)
    (C1 : Calls Try.prog 33 #[v] w fun e w' => e = .returned (.int .i64 ((f : Nat) : Int)) ∧ Below w.heap.size w w') :
    Calls Try.prog 10 #[v, .bool b] w fun e w' => e = .returned (.tuple #[.slice none 0 0, .int .i64 ((f : Nat) : Int)]) ∧ Below w.heap.size w w' := by
  have e1 : ((f : Int) == 0) = false := beq_eq_false_iff_ne.2 (by omega)
  clear f0
  go_enter Try.func10, Try.ntmps10
  go_wp2_with fail
  refine C1.mono ?_
  rintro e w1 ⟨rfl, hb⟩
  have b1 : Hid (Below w.heap.size w w1) := hb
  clear hb C1
  go_wp2_with fail
  go_ret2
  exact ⟨rfl, b1.out⟩
set_option maxHeartbeats 2000000 in
theorem make_b2 (v : Value) (c : Nat) (b : Bool) (w : World)
    (C1 : Calls Try.prog 33 #[v] w fun e w' => e = .returned (.int .i64 0) ∧ Below w.heap.size w w')
    (L1 : Hid (∀ W, Below w.heap.size w W → Calls Try.prog 34 #[v] W fun e w' => e = .returned (.tuple #[.int .u8 (c : Int), .bool false]) ∧ Below W.heap.size W w')) :
    Calls Try.prog 10 #[v, .bool b] w fun e w' => e = .returned (.tuple #[.slice none 0 0, .int .i64 1]) ∧ Below w.heap.size w w' := by
  go_enter Try.func10, Try.ntmps10
  go_wp2_with fail
  refine C1.mono ?_
  rintro e w1 ⟨rfl, hb⟩
  have b1 : Hid (Below w.heap.size w w1) := hb
  clear hb C1
  go_wp2_with fail
  refine (L1.out _ b1.out).mono ?_
  rintro e w2 ⟨rfl, hb⟩
  have b2 : Hid (Below w.heap.size w w2) := b1.out.trans (hb.mono b1.out.size)
  clear hb L1 b1
  go_wp2_with fail
  go_ret2
  exact ⟨rfl, b2.out⟩
set_option maxRecDepth 20000 in
set_option maxHeartbeats 4000000 in
theorem make_b3 (v : Value) (c k : Nat) (k0 : k ≠ 0) (b : Bool) (w : World)
    (C1 : Calls Try.prog 33 #[v] w fun e w' => e = .returned (.int .i64 0) ∧ Below w.heap.size w w')
    (L1 : Hid (∀ W, Below w.heap.size w W → Calls Try.prog 34 #[v] W fun e w' => e = .returned (.tuple #[.int .u8 (c : Int), .bool true]) ∧ Below W.heap.size W w'))
    (K1 : Hid (∀ W q, Below w.heap.size w W → FixAt W q [10, 11, 12] → Calls Try.prog 37 #[v, .int .u8 (c : Int), .func (.func 36) #[] #[.pointer (some ⟨q, 0, none⟩)]] W fun e w' => e = .returned (.int .i64 ((k : Nat) : Int)) ∧ Below W.heap.size W w')) :
    Calls Try.prog 10 #[v, .bool b] w fun e w' => e = .returned (.tuple #[.slice none 0 0, .int .i64 (k : Int)]) ∧ Below w.heap.size w w' := by
  have e1 : ((k : Int) == 0) = false := beq_eq_false_iff_ne.2 (by omega)
  clear k0
  go_enter Try.func10, Try.ntmps10
  go_wp2_with fail
  refine C1.mono ?_
  rintro e w1 ⟨rfl, hb⟩
  have b1 : Hid (Below w.heap.size w w1) := hb
  clear hb C1
  go_wp2_with fail
  refine (L1.out _ b1.out).mono ?_
  rintro e w2 ⟨rfl, hb⟩
  have b2 : Hid (Below w.heap.size w w2) := b1.out.trans (hb.mono b1.out.size)
  clear hb L1 b1
  go_wp2_with fail
  have ba : Below w2.heap.size w2 (w2.alloc (.cells #[.int .i64 10, .int .i64 11, .int .i64 12] 3)) := (Below.refl _ _).alloc (Nat.le_refl _) _
  have M1 := among_fun _ [10, 11, 12] (w2.alloc (.cells #[.int .i64 10, .int .i64 11, .int .i64 12] 3)) (ki_made w2 [10, 11, 12])
  refine M1.mono ?_
  rintro e w3 ⟨rfl, ha, hb⟩
  have b3 : Hid (Below w.heap.size w w3) := b2.out.trans ((ba.trans (hb.mono ba.size)).mono b2.out.size)
  have FX : Hid (FixAt (w3.alloc (.cells #[amoV (w2.alloc (.cells #[.int .i64 10, .int .i64 11, .int .i64 12] 3)).heap.size] 61)) w3.heap.size [10, 11, 12]) := ⟨_, (Kn.nil w3).al [amoV (w2.alloc (.cells #[.int .i64 10, .int .i64 11, .int .i64 12] 3)).heap.size] 61 rfl, ha.up ((Below.refl _ _).alloc (Nat.le_refl _) _)⟩
  have b4 : Hid (Below w.heap.size w (w3.alloc (.cells #[amoV (w2.alloc (.cells #[.int .i64 10, .int .i64 11, .int .i64 12] 3)).heap.size] 61))) := b3.out.alloc b3.out.size _
  generalize (w2.alloc (.cells #[.int .i64 10, .int .i64 11, .int .i64 12] 3)).heap.size = pp at *
  clear ha hb b2 b3 M1 ba
  go_wp2_with (simp only [zero_askf])
  refine (K1.out _ _ b4.out FX.out).mono ?_
  rintro e w5 ⟨rfl, hb⟩
  have b5 : Hid (Below w.heap.size w w5) := b4.out.trans (hb.mono b4.out.size)
  clear hb b4 FX K1
  go_wp2_with fail
  go_ret2
  exact ⟨rfl, b5.out⟩
def mk4E (t4 z : Bool) (r : Nat) : Nat := match t4, z with | false, _ => 3 | true, false => 4 | true, true => r
def mk4L (t4 z : Bool) (l : List Ar) : List Ar := match t4, z with | true, true => l | _, _ => []
set_option maxRecDepth 20000 in
set_option maxHeartbeats 4000000 in
theorem make_b4 (v : Value) (c n : Nat) (b t4 z : Bool) (xs : List Nat) (hn : Hid (xs.length = n)) (r : Nat) (L0 L : List Ar) (w : World)
    (C1 : Calls Try.prog 33 #[v] w fun e w' => e = .returned (.int .i64 0) ∧ Below w.heap.size w w')
    (L1 : Hid (∀ W, Below w.heap.size w W → Calls Try.prog 34 #[v] W fun e w' => e = .returned (.tuple #[.int .u8 (c : Int), .bool true]) ∧ Below W.heap.size W w'))
    (K1 : Hid (∀ W q, Below w.heap.size w W → FixAt W q [10, 11, 12] → Calls Try.prog 37 #[v, .int .u8 (c : Int), .func (.func 36) #[] #[.pointer (some ⟨q, 0, none⟩)]] W fun e w' => e = .returned (.int .i64 0) ∧ Below W.heap.size W w'))
    (G1 : Hid (∀ W, Below w.heap.size w W → Calls Try.prog 29 #[v, .int .i64 4] W fun e w' => (∃ u, e = .returned (.tuple #[u, .bool t4]) ∧ By w' u xs) ∧ Below W.heap.size W w'))
    (Z1 : Hid (∀ W, Calls Try.prog 38 #[.int .u8 (c : Int), .int .i64 (n : Int)] W fun e w' => e = .returned (.bool z) ∧ Below W.heap.size W w'))
    (O1 : Hid (t4 = true → ∀ W, Below w.heap.size w W → Calls Try.prog 40 #[v, .int .u8 (c : Int), .bool b] W fun e w' => (∃ u, e = .returned u ∧ Ats w' u L0) ∧ Below W.heap.size W w'))
    (X1 : Hid (t4 = true → ∀ W u, Ats W u L0 → Calls Try.prog 39 #[u] W fun e w' => (∃ q, e = .returned (.tuple #[q, .int .i64 (r : Int)]) ∧ Ats w' q L) ∧ Below W.heap.size W w')) :
    Calls Try.prog 10 #[v, .bool b] w fun e w' => (∃ q, e = .returned (.tuple #[q, .int .i64 ((mk4E t4 z r : Nat) : Int)]) ∧ Ats w' q (mk4L t4 z L)) ∧ Below w.heap.size w w' := by
  go_enter Try.func10, Try.ntmps10
  go_wp2_with fail
  refine C1.mono ?_
  rintro e w1 ⟨rfl, hb⟩
  have b1 : Hid (Below w.heap.size w w1) := hb
  clear hb C1
  go_wp2_with fail
  refine (L1.out _ b1.out).mono ?_
  rintro e w2 ⟨rfl, hb⟩
  have b2 : Hid (Below w.heap.size w w2) := b1.out.trans (hb.mono b1.out.size)
  clear hb L1 b1
  go_wp2_with fail
  have ba : Below w2.heap.size w2 (w2.alloc (.cells #[.int .i64 10, .int .i64 11, .int .i64 12] 3)) := (Below.refl _ _).alloc (Nat.le_refl _) _
  have M1 := among_fun _ [10, 11, 12] (w2.alloc (.cells #[.int .i64 10, .int .i64 11, .int .i64 12] 3)) (ki_made w2 [10, 11, 12])
  refine M1.mono ?_
  rintro e w3 ⟨rfl, ha, hb⟩
  have b3 : Hid (Below w.heap.size w w3) := b2.out.trans ((ba.trans (hb.mono ba.size)).mono b2.out.size)
  have FX : Hid (FixAt (w3.alloc (.cells #[amoV (w2.alloc (.cells #[.int .i64 10, .int .i64 11, .int .i64 12] 3)).heap.size] 61)) w3.heap.size [10, 11, 12]) := ⟨_, (Kn.nil w3).al [amoV (w2.alloc (.cells #[.int .i64 10, .int .i64 11, .int .i64 12] 3)).heap.size] 61 rfl, ha.up ((Below.refl _ _).alloc (Nat.le_refl _) _)⟩
  have b4 : Hid (Below w.heap.size w (w3.alloc (.cells #[amoV (w2.alloc (.cells #[.int .i64 10, .int .i64 11, .int .i64 12] 3)).heap.size] 61))) := b3.out.alloc b3.out.size _
  generalize (w2.alloc (.cells #[.int .i64 10, .int .i64 11, .int .i64 12] 3)).heap.size = pp at *
  clear ha hb b2 b3 M1 ba
  go_wp2_with (simp only [zero_askf])
  refine (K1.out _ _ b4.out FX.out).mono ?_
  rintro e w5 ⟨rfl, hb⟩
  have b5 : Hid (Below w.heap.size w w5) := b4.out.trans (hb.mono b4.out.size)
  clear hb b4 FX K1
  go_wp2_with fail
  refine (G1.out _ b5.out).mono ?_
  rintro e w6 ⟨⟨u, rfl, hu⟩, hb⟩
  have b6 : Hid (Below w.heap.size w w6) := b5.out.trans (hb.mono b5.out.size)
  obtain ⟨ua, uc, rfl, -⟩ := hu
  rw [hn.out]
  clear hb b5 G1
  cases t4 with
  | false =>
    go_wp2_with fail
    go_ret2
    exact ⟨⟨_, rfl, Ats.nil _⟩, b6.out⟩
  | true =>
    go_wp2_with fail
    refine (Z1.out _).mono ?_
    rintro e w7 ⟨rfl, hb⟩
    have b7 : Hid (Below w.heap.size w w7) := b6.out.trans (hb.mono b6.out.size)
    clear hb b6 Z1
    cases z with
    | false =>
      go_wp2_with fail
      go_ret2
      exact ⟨⟨_, rfl, Ats.nil _⟩, b7.out⟩
    | true =>
      go_wp2_with fail
      refine (O1.out (by first | exact trivial | rfl) _ b7.out).mono ?_
      rintro e w8 ⟨⟨u, rfl, hu⟩, hb⟩
      have b8 : Hid (Below w.heap.size w w8) := b7.out.trans (hb.mono b7.out.size)
      have X2 := X1.out (by first | exact trivial | rfl) w8 u hu
      clear hb hu b7 O1 X1
      go_wp2_with fail
      refine X2.mono ?_
      rintro e w9 ⟨⟨q, rfl, hq⟩, hb⟩
      have b9 : Hid (Below w.heap.size w w9) := b8.out.trans (hb.mono b8.out.size)
      have Q9 : Hid (Ats w9 q L) := hq
      clear hb hq b8 X2
      go_wp2_with fail
      go_ret2
      exact ⟨⟨_, rfl, Q9.out⟩, b9.out⟩
theorem mad_flt {t : List Ar} {b : Bool} (h : fltA t ≠ 0) : madE t b = fltA t := if_pos h
theorem mad_cls {t : List Ar} {b : Bool} (h : fltA t = 0) (h1 : clsF (crdF t) = 0) : madE t b = 1 := by
  unfold madE
  rw [if_neg (by omega), if_pos h1]
theorem mad_bad {t : List Ar} {b : Bool} (h : fltA t = 0) (h1 : clsF (crdF t) ≠ 0) (hb : badM (clsF (crdF t)) t ≠ 0) : madE t b = badM (clsF (crdF t)) t := by
  unfold madE
  rw [if_neg (by omega), if_neg h1, if_pos hb]
theorem mad_end {t : List Ar} {b : Bool} (h : fltA t = 0) (h1 : clsF (crdF t) ≠ 0) (hb : badM (clsF (crdF t)) t = 0) : madE t b = if crdF t 4 = none then 3 else if sizB (clsF (crdF t)) ((crdF t 4).getD []).length = false then 4 else if objF (mdeF t b) = true then 0 else 12 := by
  unfold madE
  rw [if_neg (by omega), if_neg h1, if_neg (by omega)]
theorem madL_no {t : List Ar} {b : Bool} (h : madE t b ≠ 0) : madL t b = [] := by
  unfold madL madF
  rw [if_neg h]
  rfl
theorem madL_yes {t : List Ar} {b : Bool} (h : madE t b = 0) : madL t b = atsF (mdeF t b) 19 := by
  unfold madL madF
  rw [if_pos h]
theorem zed_fit {l : List Ar} (h : ∀ x ∈ l, x.good) : zedA l := fun x hx => by
  have := fit_len (h x hx).2.2
  omega
/-- Make. -/
theorem rlMakeC : RlMakeC := fun v t b w lo hs hz h => by -- function 10
  by_cases hf : fltA t = 0
  · have hc := atCheckC v t w lo h
    rw [hf] at hc
    have hg := ((fltA_zero t).1 hf).2.1
    cases e1 : getA t 1 with
    | none =>
      have em : madE t b = 1 := mad_cls hf (cls_none e1)
      refine (make_b2 v (((getA t 1).getD []).getD 0 0) b w hc fun W hW => ?_).mono ?_
      · have := clsO_fun t lo hs hz v W (h.up hW (Nat.le_refl _)) fun x e => by rw [e1] at e; cases e
        rw [e1] at this ⊢
        exact this
      · rintro e w' ⟨rfl, hb⟩
        rw [em, madL_no (by rw [em]; decide)]
        exact ⟨⟨_, rfl, Ats.nil _⟩, hb⟩
    | some x =>
      obtain ⟨x1, hcl, c1, c4⟩ := cls_get hg e1
      have hcn : clsF (crdF t) ≠ 0 := by omega
      have HL : ∀ W, Below w.heap.size w W → Calls Try.prog 34 #[v] W fun e w' => e = .returned (.tuple #[.int .u8 ((x.getD 0 0 : Nat) : Int), .bool true]) ∧ Below W.heap.size W w' := fun W hW => by
        have := clsO_fun t lo hs hz v W (h.up hW (Nat.le_refl _)) fun y e => by rw [e1] at e; obtain rfl := Option.some.inj e; omega
        rw [e1] at this
        exact this
      have HK : ∀ W q, Below w.heap.size w W → FixAt W q [10, 11, 12] → Calls Try.prog 37 #[v, .int .u8 ((x.getD 0 0 : Nat) : Int), .func (.func 36) #[] #[.pointer (some ⟨q, 0, none⟩)]] W fun e w' => e = .returned (.int .i64 ((badM (clsF (crdF t)) t : Nat) : Int)) ∧ Below W.heap.size W w' := fun W q hW hq => by
        have := walk1_fun [10, 11, 12] (by decide) q t ((fltA_zero t).1 hf).1 (x.getD 0 0) (by omega) v W (h.up hW (Nat.le_refl _)) hq
        rw [wlk_mad _ hg] at this
        rw [hcl]
        exact this
      by_cases hb : badM (clsF (crdF t)) t = 0
      · rw [hb] at HK
        have em := mad_end (b := b) hf hcn hb
        have e4 : crdF t 4 = getA t 4 := rfl
        rw [e4, hcl] at em
        have HZ : ∀ W, Calls Try.prog 38 #[.int .u8 ((x.getD 0 0 : Nat) : Int), .int .i64 ((((getA t 4).getD []).length : Nat) : Int)] W fun e w' => e = .returned (.bool (sizB (x.getD 0 0) ((getA t 4).getD []).length)) ∧ Below W.heap.size W w' := fun W => size_fun _ _ c1 c4 W
        have HG := fun W (hW : Below w.heap.size w W) => atGetC v t 4 W lo hs hz (by decide) (by decide) (h.up hW (Nat.le_refl _))
        have HO : getA t 4 ≠ none → ∀ W, Below w.heap.size w W → Calls Try.prog 40 #[v, .int .u8 ((x.getD 0 0 : Nat) : Int), .bool b] W fun e w' => (∃ u, e = .returned u ∧ Ats w' u (atsF (mdeF t b) 19)) ∧ Below W.heap.size W w' := fun h4 W hW => whole_fun t lo hs hz hf e1 h4 (by rw [← hcl]; exact hb) b v W (h.up hW (Nat.le_refl _))
        have HX : getA t 4 ≠ none → ∀ W u, Ats W u (atsF (mdeF t b) 19) → Calls Try.prog 39 #[u] W fun e w' => (∃ q, e = .returned (.tuple #[q, .int .i64 (((if objF (mdeF t b) = true then 0 else 12) : Nat) : Int)]) ∧ Ats w' q (if objF (mdeF t b) = true then atsF (mdeF t b) 19 else [])) ∧ Below W.heap.size W w' := fun h4 W u hu => by
          have hfit : FitF (mdeF t b) := mde_fitP hg hcn h4
          have := objL_fun (atsF (mdeF t b) 19) (fun y hy => ?_) (Nat.le_trans (atsF_len _ _) (by decide)) (zed_fit ((fltA_zero _).1 (atsF_flt hfit)).2.1) u W hu
          · rw [val_atsF hfit] at this
            exact this
          · have hgy := ((fltA_zero _).1 (atsF_flt hfit)).2.1 y hy
            refine ⟨⟨by have := hgy.1; omega, by have := hgy.2.1; omega⟩, atsF_low ?_ 19 y hy⟩
            unfold mdeF
            exact locF_low (ovF_low (dftF_low _ _) (crdF_low fun z hz => (lo z hz).2))
        have hs4 : (getA t 4).isSome = true → getA t 4 ≠ none := fun hh e => by rw [e] at hh; cases hh
        refine (make_b4 v (x.getD 0 0) _ b (getA t 4).isSome _ ((getA t 4).getD []) rfl _ _ _ w hc HL HK HG HZ (fun hh => HO (hs4 hh)) fun hh => HX (hs4 hh)).mono ?_
        rintro e w' ⟨⟨q, rfl, hq⟩, hb2⟩
        have ek : mk4E (getA t 4).isSome (sizB (x.getD 0 0) ((getA t 4).getD []).length) (if objF (mdeF t b) = true then 0 else 12) = madE t b := by
          rw [em]
          cases h4 : getA t 4 with
          | none => rfl
          | some y =>
            rw [if_neg (show ¬ some y = none from fun e => by cases e)]
            cases hz4 : sizB (x.getD 0 0) ((some y).getD []).length with
            | false => rfl
            | true => rfl
        have el : mk4L (getA t 4).isSome (sizB (x.getD 0 0) ((getA t 4).getD []).length) (if objF (mdeF t b) = true then atsF (mdeF t b) 19 else []) = madL t b := by
          by_cases h0 : madE t b = 0
          · rw [madL_yes h0]
            rw [h0] at em
            cases h4 : getA t 4 with
            | none => rw [h4, if_pos rfl] at em; cases em
            | some y =>
              rw [h4, if_neg (show ¬ some y = none from fun e => by cases e)] at em
              cases hz4 : sizB (x.getD 0 0) ((some y).getD []).length with
              | false => rw [hz4, if_pos rfl] at em; cases em
              | true =>
                rw [hz4, if_neg (by decide)] at em
                by_cases ho : objF (mdeF t b) = true
                · rw [if_pos ho]
                  rfl
                · rw [if_neg ho] at em
                  cases em
          · rw [madL_no h0]
            rw [em] at h0
            cases h4 : getA t 4 with
            | none => rfl
            | some y =>
              rw [h4, if_neg (show ¬ some y = none from fun e => by cases e)] at h0
              cases hz4 : sizB (x.getD 0 0) ((some y).getD []).length with
              | false => rfl
              | true =>
                rw [hz4, if_neg (by decide)] at h0
                by_cases ho : objF (mdeF t b) = true
                · rw [if_pos ho] at h0
                  exact absurd rfl h0
                · rw [if_neg ho]
                  rfl
        rw [ek]
        rw [el] at hq
        exact ⟨⟨q, rfl, hq⟩, hb2⟩
      · have em := mad_bad (b := b) hf hcn hb
        refine (make_b3 v (x.getD 0 0) _ hb b w hc HL HK).mono ?_
        rintro e w' ⟨rfl, hb2⟩
        rw [em, madL_no (by rw [em]; exact hb)]
        exact ⟨⟨_, rfl, Ats.nil _⟩, hb2⟩
  · have em : madE t b = fltA t := mad_flt hf
    refine (make_b1 v _ hf b w (atCheckC v t w lo h)).mono ?_
    rintro e w' ⟨rfl, hb⟩
    rw [em, madL_no (by rw [em]; exact hf)]
    exact ⟨⟨_, rfl, Ats.nil _⟩, hb⟩
end Go.Proofs.Ytepaapiflkkghaa
