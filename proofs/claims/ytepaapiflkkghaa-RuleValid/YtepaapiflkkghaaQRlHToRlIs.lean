/- Texts that were joined: RlH, RlIs. -/
import Derived.Test.YtepaapiflkkghaaQRlG
import Derived.Test.YtepaapiflkkghaaQAtLmToAtIs
/- Package rule, as it landed: over, Change, Copy. -/
namespace Go.Proofs.Ytepaapiflkkghaa
open Go.RowKit
attribute [local go_sem] World.cell?_alloc_some cell_alloc2 cell_alloc3 cell_alloc4 frozen?_alloc_cells frozen_out
attribute [local go_sem] run_storeF
set_option linter.unusedSimpArgs false
set_option maxHeartbeats 2000000 in
theorem over_b1 (va : Option Addr) (vn vc : Nat) (u : Value) (op : Bool) (p : Nat) (w : World)
    (V1 : Hid (∀ W, Below w.heap.size w W → Calls Try.prog 14 #[.slice va vn vc] W fun e w' => e = .returned (.bool false) ∧ Below W.heap.size W w')) :
    Calls Try.prog 54 #[.slice va vn vc, u, .bool op, amoV p] w fun e w' => e = .returned (.tuple #[.slice none 0 0, .int .i64 1]) ∧ Below w.heap.size w w' := by
  have s0 : Hid (Kn ((w.alloc (.cells #[.slice va vn vc] 22)).alloc (.cells #[amoV p] 61)) [(w.heap.size + 1, [amoV p]), (w.heap.size, [.slice va vn vc])]) := ((Kn.nil w).al [.slice va vn vc] 22 rfl).al [amoV p] 61 (by simp)
  have b0 : Hid (Below w.heap.size w ((w.alloc (.cells #[.slice va vn vc] 22)).alloc (.cells #[amoV p] 61))) := ((Below.refl _ _).alloc (Nat.le_refl _) _).alloc (by simp) _
  have u0 := Kn.get s0.out 1 0 rfl rfl
  go_enter Try.func54, Try.ntmps54
  go_wp2_with fail
  refine (V1.out _ b0.out).mono ?_
  rintro e w1 ⟨rfl, hb⟩
  have b1 : Hid (Below w.heap.size w w1) := b0.out.trans (hb.mono b0.out.size)
  have s1 : Hid (Kn w1 [(w.heap.size + 1, [amoV p]), (w.heap.size, [.slice va vn vc])]) := s0.out.up hb
  clear hb V1 b0 s0 u0
  go_wp2_with fail
  go_ret2
  exact ⟨rfl, b1.out⟩
set_option maxHeartbeats 2000000 in
theorem over_b2 (va : Option Addr) (vn vc : Nat) (u : Value) (op : Bool) (p f : Nat) (f0 : f ≠ 0) (w : World)
    (V1 : Hid (∀ W, Below w.heap.size w W → Calls Try.prog 14 #[.slice va vn vc] W fun e w' => e = .returned (.bool true) ∧ Below W.heap.size W w'))
    (C1 : Hid (∀ W, Below w.heap.size w W → Calls Try.prog 33 #[u] W fun e w' => e = .returned (.int .i64 ((f : Nat) : Int)) ∧ Below W.heap.size W w')) :
    Calls Try.prog 54 #[.slice va vn vc, u, .bool op, amoV p] w fun e w' => e = .returned (.tuple #[.slice none 0 0, .int .i64 (f : Int)]) ∧ Below w.heap.size w w' := by
  have e1 : ((f : Int) == 0) = false := beq_eq_false_iff_ne.2 (by omega)
  clear f0
  have s0 : Hid (Kn ((w.alloc (.cells #[.slice va vn vc] 22)).alloc (.cells #[amoV p] 61)) [(w.heap.size + 1, [amoV p]), (w.heap.size, [.slice va vn vc])]) := ((Kn.nil w).al [.slice va vn vc] 22 rfl).al [amoV p] 61 (by simp)
  have b0 : Hid (Below w.heap.size w ((w.alloc (.cells #[.slice va vn vc] 22)).alloc (.cells #[amoV p] 61))) := ((Below.refl _ _).alloc (Nat.le_refl _) _).alloc (by simp) _
  have u0 := Kn.get s0.out 1 0 rfl rfl
  go_enter Try.func54, Try.ntmps54
  go_wp2_with fail
  refine (V1.out _ b0.out).mono ?_
  rintro e w1 ⟨rfl, hb⟩
  have b1 : Hid (Below w.heap.size w w1) := b0.out.trans (hb.mono b0.out.size)
  have s1 : Hid (Kn w1 [(w.heap.size + 1, [amoV p]), (w.heap.size, [.slice va vn vc])]) := s0.out.up hb
  clear hb V1 b0 s0 u0
  go_wp2_with fail
  refine (C1.out _ b1.out).mono ?_
  rintro e w2 ⟨rfl, hb⟩
  have b2 : Hid (Below w.heap.size w w2) := b1.out.trans (hb.mono b1.out.size)
  have s2 : Hid (Kn w2 [(w.heap.size + 1, [amoV p]), (w.heap.size, [.slice va vn vc])]) := s1.out.up hb
  clear hb C1 b1 s1
  go_wp2_with fail
  go_ret2
  exact ⟨rfl, b2.out⟩
set_option maxHeartbeats 2000000 in
theorem over_b3 (va : Option Addr) (vn vc : Nat) (u : Value) (p : Nat) (w : World)
    (V1 : Hid (∀ W, Below w.heap.size w W → Calls Try.prog 14 #[.slice va vn vc] W fun e w' => e = .returned (.bool true) ∧ Below W.heap.size W w'))
    (C1 : Hid (∀ W, Below w.heap.size w W → Calls Try.prog 33 #[u] W fun e w' => e = .returned (.int .i64 0) ∧ Below W.heap.size W w')) :
    Calls Try.prog 54 #[.slice va vn vc, u, .bool false, amoV p] w fun e w' => e = .returned (.tuple #[.slice none 0 0, .int .i64 12]) ∧ Below w.heap.size w w' := by
  have s0 : Hid (Kn ((w.alloc (.cells #[.slice va vn vc] 22)).alloc (.cells #[amoV p] 61)) [(w.heap.size + 1, [amoV p]), (w.heap.size, [.slice va vn vc])]) := ((Kn.nil w).al [.slice va vn vc] 22 rfl).al [amoV p] 61 (by simp)
  have b0 : Hid (Below w.heap.size w ((w.alloc (.cells #[.slice va vn vc] 22)).alloc (.cells #[amoV p] 61))) := ((Below.refl _ _).alloc (Nat.le_refl _) _).alloc (by simp) _
  have u0 := Kn.get s0.out 1 0 rfl rfl
  go_enter Try.func54, Try.ntmps54
  go_wp2_with fail
  refine (V1.out _ b0.out).mono ?_
  rintro e w1 ⟨rfl, hb⟩
  have b1 : Hid (Below w.heap.size w w1) := b0.out.trans (hb.mono b0.out.size)
  have s1 : Hid (Kn w1 [(w.heap.size + 1, [amoV p]), (w.heap.size, [.slice va vn vc])]) := s0.out.up hb
  clear hb V1 b0 s0 u0
  go_wp2_with fail
  refine (C1.out _ b1.out).mono ?_
  rintro e w2 ⟨rfl, hb⟩
  have b2 : Hid (Below w.heap.size w w2) := b1.out.trans (hb.mono b1.out.size)
  have s2 : Hid (Kn w2 [(w.heap.size + 1, [amoV p]), (w.heap.size, [.slice va vn vc])]) := s1.out.up hb
  clear hb C1 b1 s1
  go_wp2_with fail
  go_ret2
  exact ⟨rfl, b2.out⟩
set_option maxHeartbeats 4000000 in
theorem over_b4 (va : Option Addr) (vn vc : Nat) (u : Value) (p c k : Nat) (k0 : k ≠ 0) (w : World)
    (V1 : Hid (∀ W, Below w.heap.size w W → Calls Try.prog 14 #[.slice va vn vc] W fun e w' => e = .returned (.bool true) ∧ Below W.heap.size W w'))
    (C1 : Hid (∀ W, Below w.heap.size w W → Calls Try.prog 33 #[u] W fun e w' => e = .returned (.int .i64 0) ∧ Below W.heap.size W w'))
    (L1 : Hid (∀ W, Below w.heap.size w W → Calls Try.prog 34 #[.slice va vn vc] W fun e w' => e = .returned (.tuple #[.int .u8 (c : Int), .bool true]) ∧ Below W.heap.size W w'))
    (K1 : Hid (∀ W, Below w.heap.size w W → Kn W [(w.heap.size + 1, [amoV p]), (w.heap.size, [.slice va vn vc])] → Calls Try.prog 37 #[u, .int .u8 (c : Int), .func (.func 64) #[] #[.pointer (some ⟨w.heap.size + 1, 0, none⟩), .pointer (some ⟨w.heap.size, 0, none⟩)]] W fun e w' => e = .returned (.int .i64 ((k : Nat) : Int)) ∧ Below W.heap.size W w')) :
    Calls Try.prog 54 #[.slice va vn vc, u, .bool true, amoV p] w fun e w' => e = .returned (.tuple #[.slice none 0 0, .int .i64 (k : Int)]) ∧ Below w.heap.size w w' := by
  have e1 : ((k : Int) == 0) = false := beq_eq_false_iff_ne.2 (by omega)
  clear k0
  have s0 : Hid (Kn ((w.alloc (.cells #[.slice va vn vc] 22)).alloc (.cells #[amoV p] 61)) [(w.heap.size + 1, [amoV p]), (w.heap.size, [.slice va vn vc])]) := ((Kn.nil w).al [.slice va vn vc] 22 rfl).al [amoV p] 61 (by simp)
  have b0 : Hid (Below w.heap.size w ((w.alloc (.cells #[.slice va vn vc] 22)).alloc (.cells #[amoV p] 61))) := ((Below.refl _ _).alloc (Nat.le_refl _) _).alloc (by simp) _
  have u0 := Kn.get s0.out 1 0 rfl rfl
  go_enter Try.func54, Try.ntmps54
  go_wp2_with fail
  refine (V1.out _ b0.out).mono ?_
  rintro e w1 ⟨rfl, hb⟩
  have b1 : Hid (Below w.heap.size w w1) := b0.out.trans (hb.mono b0.out.size)
  have s1 : Hid (Kn w1 [(w.heap.size + 1, [amoV p]), (w.heap.size, [.slice va vn vc])]) := s0.out.up hb
  clear hb V1 b0 s0 u0
  go_wp2_with fail
  refine (C1.out _ b1.out).mono ?_
  rintro e w2 ⟨rfl, hb⟩
  have b2 : Hid (Below w.heap.size w w2) := b1.out.trans (hb.mono b1.out.size)
  have s2 : Hid (Kn w2 [(w.heap.size + 1, [amoV p]), (w.heap.size, [.slice va vn vc])]) := s1.out.up hb
  clear hb C1 b1 s1
  have u2 := Kn.get s2.out 1 0 rfl rfl
  go_wp2_with fail
  refine (L1.out _ b2.out).mono ?_
  rintro e w3 ⟨rfl, hb⟩
  have b3 : Hid (Below w.heap.size w w3) := b2.out.trans (hb.mono b2.out.size)
  have s3 : Hid (Kn w3 [(w.heap.size + 1, [amoV p]), (w.heap.size, [.slice va vn vc])]) := s2.out.up hb
  clear hb L1 b2 s2 u2
  go_wp2_with fail
  refine (K1.out _ b3.out s3.out).mono ?_
  rintro e w4 ⟨rfl, hb⟩
  have b4 : Hid (Below w.heap.size w w4) := b3.out.trans (hb.mono b3.out.size)
  have s4 : Hid (Kn w4 [(w.heap.size + 1, [amoV p]), (w.heap.size, [.slice va vn vc])]) := s3.out.up hb
  clear hb K1 b3 s3
  go_wp2_with fail
  go_ret2
  exact ⟨rfl, b4.out⟩
set_option maxHeartbeats 4000000 in
theorem over_b5 (va : Option Addr) (vn vc : Nat) (u : Value) (p c r : Nat) (L0 L : List Ar) (w : World)
    (V1 : Hid (∀ W, Below w.heap.size w W → Calls Try.prog 14 #[.slice va vn vc] W fun e w' => e = .returned (.bool true) ∧ Below W.heap.size W w'))
    (C1 : Hid (∀ W, Below w.heap.size w W → Calls Try.prog 33 #[u] W fun e w' => e = .returned (.int .i64 0) ∧ Below W.heap.size W w'))
    (L1 : Hid (∀ W, Below w.heap.size w W → Calls Try.prog 34 #[.slice va vn vc] W fun e w' => e = .returned (.tuple #[.int .u8 (c : Int), .bool true]) ∧ Below W.heap.size W w'))
    (K1 : Hid (∀ W, Below w.heap.size w W → Kn W [(w.heap.size + 1, [amoV p]), (w.heap.size, [.slice va vn vc])] → Calls Try.prog 37 #[u, .int .u8 (c : Int), .func (.func 64) #[] #[.pointer (some ⟨w.heap.size + 1, 0, none⟩), .pointer (some ⟨w.heap.size, 0, none⟩)]] W fun e w' => e = .returned (.int .i64 0) ∧ Below W.heap.size W w'))
    (O1 : Hid (∀ W, Below w.heap.size w W → Calls Try.prog 66 #[.slice va vn vc, u] W fun e w' => (∃ z, e = .returned (.tuple #[z, .int .i64 0]) ∧ Ats w' z L0) ∧ Below W.heap.size W w'))
    (X1 : Hid (∀ W u, Ats W u L0 → Calls Try.prog 39 #[u] W fun e w' => (∃ q, e = .returned (.tuple #[q, .int .i64 (r : Int)]) ∧ Ats w' q L) ∧ Below W.heap.size W w')) :
    Calls Try.prog 54 #[.slice va vn vc, u, .bool true, amoV p] w fun e w' => (∃ q, e = .returned (.tuple #[q, .int .i64 (r : Int)]) ∧ Ats w' q L) ∧ Below w.heap.size w w' := by
  have s0 : Hid (Kn ((w.alloc (.cells #[.slice va vn vc] 22)).alloc (.cells #[amoV p] 61)) [(w.heap.size + 1, [amoV p]), (w.heap.size, [.slice va vn vc])]) := ((Kn.nil w).al [.slice va vn vc] 22 rfl).al [amoV p] 61 (by simp)
  have b0 : Hid (Below w.heap.size w ((w.alloc (.cells #[.slice va vn vc] 22)).alloc (.cells #[amoV p] 61))) := ((Below.refl _ _).alloc (Nat.le_refl _) _).alloc (by simp) _
  have u0 := Kn.get s0.out 1 0 rfl rfl
  go_enter Try.func54, Try.ntmps54
  go_wp2_with fail
  refine (V1.out _ b0.out).mono ?_
  rintro e w1 ⟨rfl, hb⟩
  have b1 : Hid (Below w.heap.size w w1) := b0.out.trans (hb.mono b0.out.size)
  have s1 : Hid (Kn w1 [(w.heap.size + 1, [amoV p]), (w.heap.size, [.slice va vn vc])]) := s0.out.up hb
  clear hb V1 b0 s0 u0
  go_wp2_with fail
  refine (C1.out _ b1.out).mono ?_
  rintro e w2 ⟨rfl, hb⟩
  have b2 : Hid (Below w.heap.size w w2) := b1.out.trans (hb.mono b1.out.size)
  have s2 : Hid (Kn w2 [(w.heap.size + 1, [amoV p]), (w.heap.size, [.slice va vn vc])]) := s1.out.up hb
  clear hb C1 b1 s1
  have u2 := Kn.get s2.out 1 0 rfl rfl
  go_wp2_with fail
  refine (L1.out _ b2.out).mono ?_
  rintro e w3 ⟨rfl, hb⟩
  have b3 : Hid (Below w.heap.size w w3) := b2.out.trans (hb.mono b2.out.size)
  have s3 : Hid (Kn w3 [(w.heap.size + 1, [amoV p]), (w.heap.size, [.slice va vn vc])]) := s2.out.up hb
  clear hb L1 b2 s2 u2
  go_wp2_with fail
  refine (K1.out _ b3.out s3.out).mono ?_
  rintro e w4 ⟨rfl, hb⟩
  have b4 : Hid (Below w.heap.size w w4) := b3.out.trans (hb.mono b3.out.size)
  have s4 : Hid (Kn w4 [(w.heap.size + 1, [amoV p]), (w.heap.size, [.slice va vn vc])]) := s3.out.up hb
  clear hb K1 b3 s3
  have u4 := Kn.get s4.out 1 0 rfl rfl
  go_wp2_with fail
  refine (O1.out _ b4.out).mono ?_
  rintro e w5 ⟨⟨z, rfl, hz⟩, hb⟩
  have b5 : Hid (Below w.heap.size w w5) := b4.out.trans (hb.mono b4.out.size)
  have X2 := X1.out w5 z hz
  clear hb hz b4 s4 u4 O1 X1
  go_wp2_with fail
  refine X2.mono ?_
  rintro e w6 ⟨⟨q, rfl, hq⟩, hb⟩
  have b6 : Hid (Below w.heap.size w w6) := b5.out.trans (hb.mono b5.out.size)
  have Q6 : Hid (Ats w6 q L) := hq
  clear hb hq b5 X2
  go_wp2_with fail
  go_ret2
  exact ⟨⟨_, rfl, Q6.out⟩, b6.out⟩
def ovrE (l t : List Ar) (cp op : Bool) : Nat :=
  if valA l = false then 1 else if fltA t ≠ 0 then fltA t else if op = false then 12 else if badT (crdF l) cp t ≠ 0 then badT (crdF l) cp t
  else if objF (crdF (t ++ l)) = true then 0 else 12
/-- over: a list over an object. -/
theorem over_fun (l t : List Ar) (lo : lowA l) (lt : lowA t) (ls : l.length ≤ 4611686018427387904) (lz : zedA l) (cp op : Bool) (v u : Value) (p : Nat) (w : World) (hv : Ats w v l) (hu : Ats w u t) (hp : AmoAt w p (fixN cp)) :
    Calls Try.prog 54 #[v, u, .bool op, amoV p] w fun e w' => (∃ q, e = .returned (.tuple #[q, .int .i64 ((ovrE l t cp op : Nat) : Int)]) ∧ Ats w' q (if ovrE l t cp op = 0 then ovrA l t else [])) ∧ Below w.heap.size w w' := by
  obtain ⟨a, c, rfl⟩ := ats_parts hv
  have HV := fun W (hW : Below w.heap.size w W) => rlValidC _ l W lo ls lz (hv.up hW (Nat.le_refl _))
  have HC := fun W (hW : Below w.heap.size w W) => atCheckC u t W lt (hu.up hW (Nat.le_refl _))
  have no : ∀ E : Nat, E ≠ 0 → ovrE l t cp op = E → (Calls Try.prog 54 #[.slice a l.length c, u, .bool op, amoV p] w fun e w' => e = .returned (.tuple #[.slice none 0 0, .int .i64 (E : Int)]) ∧ Below w.heap.size w w') →
      Calls Try.prog 54 #[.slice a l.length c, u, .bool op, amoV p] w fun e w' => (∃ q, e = .returned (.tuple #[q, .int .i64 ((ovrE l t cp op : Nat) : Int)]) ∧ Ats w' q (if ovrE l t cp op = 0 then ovrA l t else [])) ∧ Below w.heap.size w w' := fun E h0 he hc => by
    rw [he]
    refine hc.mono ?_
    rintro e w' ⟨rfl, hb⟩
    rw [if_neg h0]
    exact ⟨⟨_, rfl, Ats.nil _⟩, hb⟩
  cases hva : valA l with
  | false =>
    rw [hva] at HV
    exact no 1 (by decide) (by unfold ovrE; rw [if_pos hva]) (over_b1 a _ c u op p w HV)
  | true =>
    rw [hva] at HV
    have n1 : ¬ valA l = false := by rw [hva]; decide
    obtain ⟨fl, rl, -⟩ := val_parts hva
    have hg := ((fltA_zero l).1 fl).2.1
    by_cases ft : fltA t = 0
    · rw [ft] at HC
      have hgt := ((fltA_zero t).1 ft).2.1
      have t24 := ((fltA_zero t).1 ft).1
      cases op with
      | false => exact no 12 (by decide) (by unfold ovrE; rw [if_neg n1, if_neg (by omega), if_pos rfl]) (over_b3 a _ c u p w HV HC)
      | true =>
        obtain ⟨x, hx⟩ : ∃ x, getA l 1 = some x := by
          cases e : getA l 1 with
          | none => rw [val_none e] at hva; cases hva
          | some x => exact ⟨x, rfl⟩
        obtain ⟨x1, hcl, c1, c4⟩ := cls_get hg hx
        have HL : ∀ W, Below w.heap.size w W → Calls Try.prog 34 #[.slice a l.length c] W fun e w' => e = .returned (.tuple #[.int .u8 ((x.getD 0 0 : Nat) : Int), .bool true]) ∧ Below W.heap.size W w' := fun W hW => by
          have := clsO_fun l lo ls lz _ W (hv.up hW (Nat.le_refl _)) fun y e => by rw [hx] at e; obtain rfl := Option.some.inj e; omega
          rw [hx] at this
          exact this
        have HK : ∀ W, Below w.heap.size w W → Kn W [(w.heap.size + 1, [amoV p]), (w.heap.size, [.slice a l.length c])] → Calls Try.prog 37 #[u, .int .u8 ((x.getD 0 0 : Nat) : Int), .func (.func 64) #[] #[.pointer (some ⟨w.heap.size + 1, 0, none⟩), .pointer (some ⟨w.heap.size, 0, none⟩)]] W fun e w' => e = .returned (.int .i64 ((badT (crdF l) cp t : Nat) : Int)) ∧ Below W.heap.size W w' := fun W hW hk => by
          have := walk2_fun (fixN cp) (by cases cp <;> decide) l lo ls (w.heap.size + 1) w.heap.size t lt t24 (x.getD 0 0) (by omega) u W (hu.up hW (Nat.le_refl _)) ⟨⟨p, hk.drop 1, hp.up hW⟩, _, hk.drop 0, hv.up hW (Nat.le_refl _)⟩
          rw [← hcl, wlk_trn hva cp hgt] at this
          rw [← hcl]
          exact this
        by_cases hb : badT (crdF l) cp t = 0
        · rw [hb] at HK
          have eo : ovrE l t cp true = if objF (crdF (t ++ l)) = true then 0 else 12 := by
            unfold ovrE
            rw [if_neg n1, if_neg (by omega), if_neg (by decide), if_neg (by omega)]
          have HO : ∀ W, Below w.heap.size w W → Calls Try.prog 66 #[.slice a l.length c, u] W fun e w' => (∃ z, e = .returned (.tuple #[z, .int .i64 0]) ∧ Ats w' z (ovrA l t)) ∧ Below W.heap.size W w' := fun W hW => by
            have := atOverC _ u l t W lo lt (hv.up hW (Nat.le_refl _)) (hu.up hW (Nat.le_refl _))
            have f0 : fltO l t = 0 := by unfold fltO; rw [if_pos fl, ft]
            rw [f0] at this
            exact this
          have ho0 := ovrA_good hg hgt
          have HX : ∀ W z, Ats W z (ovrA l t) → Calls Try.prog 39 #[z] W fun e w' => (∃ q, e = .returned (.tuple #[q, .int .i64 (((if objF (crdF (t ++ l)) = true then 0 else 12) : Nat) : Int)]) ∧ Ats w' q (if objF (crdF (t ++ l)) = true then ovrA l t else [])) ∧ Below W.heap.size W w' := fun W z hz => by
            have := objL_fun (ovrA l t) (ovrA_lowA lo lt) (Nat.le_trans (risA_len _) (by decide)) (zed_fit ((fltA_zero _).1 ho0).2.1) z W hz
            rw [val_over hg hgt] at this
            exact this
          refine (over_b5 a _ c u p _ _ _ _ w HV HC HL HK HO HX).mono ?_
          rintro e w' ⟨⟨q, rfl, hq⟩, hb2⟩
          rw [eo]
          refine ⟨⟨q, rfl, ?_⟩, hb2⟩
          by_cases ho : objF (crdF (t ++ l)) = true
          · rw [if_pos ho] at hq
            rw [if_pos ho, if_pos rfl]
            exact hq
          · rw [if_neg ho] at hq
            rw [if_neg ho, if_neg (by decide)]
            exact hq
        · exact no _ hb (by unfold ovrE; rw [if_neg n1, if_neg (by omega), if_neg (by decide), if_pos hb]) (over_b4 a _ c u p _ _ hb w HV HC HL HK)
    · exact no _ ft (by unfold ovrE; rw [if_neg n1, if_pos ft]) (over_b2 a _ c u op p _ ft w HV HC)
set_option maxHeartbeats 2000000 in
theorem change_walk (v u : Value) (op : Bool) (E : Nat) (L : List Ar) (w : World)
    (I1 : Hid (∀ W, Below w.heap.size w W → Calls Try.prog 28 #[v, .int .i64 7] W fun e w' => e = .returned (.bool op) ∧ Below W.heap.size W w'))
    (O1 : Hid (∀ W p, Below w.heap.size w W → AmoAt W p [1, 4, 5, 6, 10, 11, 12] → Calls Try.prog 54 #[v, u, .bool op, amoV p] W fun e w' => (∃ q, e = .returned (.tuple #[q, .int .i64 (E : Int)]) ∧ Ats w' q L) ∧ Below W.heap.size W w')) :
    Calls Try.prog 20 #[v, u] w fun e w' => (∃ q, e = .returned (.tuple #[q, .int .i64 (E : Int)]) ∧ Ats w' q L) ∧ Below w.heap.size w w' := by
  have ba : Below w.heap.size w (w.alloc (.cells #[.int .i64 1, .int .i64 4, .int .i64 5, .int .i64 6, .int .i64 10, .int .i64 11, .int .i64 12] 3)) := (Below.refl _ _).alloc (Nat.le_refl _) _
  have M1 := among_fun _ [1, 4, 5, 6, 10, 11, 12] (w.alloc (.cells #[.int .i64 1, .int .i64 4, .int .i64 5, .int .i64 6, .int .i64 10, .int .i64 11, .int .i64 12] 3)) (ki_made w [1, 4, 5, 6, 10, 11, 12])
  go_enter Try.func20, Try.ntmps20
  go_wp2_with fail
  refine M1.mono ?_
  rintro e w1 ⟨rfl, ha, hb⟩
  have b1 : Hid (Below w.heap.size w w1) := ba.trans (hb.mono ba.size)
  have a1 : Hid (AmoAt w1 (w.alloc (.cells #[.int .i64 1, .int .i64 4, .int .i64 5, .int .i64 6, .int .i64 10, .int .i64 11, .int .i64 12] 3)).heap.size [1, 4, 5, 6, 10, 11, 12]) := ha
  generalize (w.alloc (.cells #[.int .i64 1, .int .i64 4, .int .i64 5, .int .i64 6, .int .i64 10, .int .i64 11, .int .i64 12] 3)).heap.size = p at *
  clear ha hb M1 ba
  go_wp2_with fail
  refine (I1.out _ b1.out).mono ?_
  rintro e w2 ⟨rfl, hb⟩
  have b2 : Hid (Below w.heap.size w w2) := b1.out.trans (hb.mono b1.out.size)
  have a2 : Hid (AmoAt w2 p [1, 4, 5, 6, 10, 11, 12]) := a1.out.up hb
  clear hb b1 a1 I1
  go_wp2_with fail
  refine (O1.out _ _ b2.out a2.out).mono ?_
  rintro e w3 ⟨⟨q, rfl, hq⟩, hb⟩
  have b3 : Hid (Below w.heap.size w w3) := b2.out.trans (hb.mono b2.out.size)
  have Q3 : Hid (Ats w3 q L) := hq
  clear hb hq b2 a2 O1
  go_wp2_with fail
  go_ret2
  exact ⟨⟨_, rfl, Q3.out⟩, b3.out⟩
set_option maxHeartbeats 2000000 in
theorem copy_walk (v u : Value) (E : Nat) (L : List Ar) (w : World)
    (O1 : Hid (∀ W p, Below w.heap.size w W → AmoAt W p [1, 4, 10, 11, 12] → Calls Try.prog 54 #[v, u, .bool true, amoV p] W fun e w' => (∃ q, e = .returned (.tuple #[q, .int .i64 (E : Int)]) ∧ Ats w' q L) ∧ Below W.heap.size W w')) :
    Calls Try.prog 22 #[v, u] w fun e w' => (∃ q, e = .returned (.tuple #[q, .int .i64 (E : Int)]) ∧ Ats w' q L) ∧ Below w.heap.size w w' := by
  have ba : Below w.heap.size w (w.alloc (.cells #[.int .i64 1, .int .i64 4, .int .i64 10, .int .i64 11, .int .i64 12] 3)) := (Below.refl _ _).alloc (Nat.le_refl _) _
  have M1 := among_fun _ [1, 4, 10, 11, 12] (w.alloc (.cells #[.int .i64 1, .int .i64 4, .int .i64 10, .int .i64 11, .int .i64 12] 3)) (ki_made w [1, 4, 10, 11, 12])
  go_enter Try.func22, Try.ntmps22
  go_wp2_with fail
  refine M1.mono ?_
  rintro e w1 ⟨rfl, ha, hb⟩
  have b1 : Hid (Below w.heap.size w w1) := ba.trans (hb.mono ba.size)
  have a1 : Hid (AmoAt w1 (w.alloc (.cells #[.int .i64 1, .int .i64 4, .int .i64 10, .int .i64 11, .int .i64 12] 3)).heap.size [1, 4, 10, 11, 12]) := ha
  generalize (w.alloc (.cells #[.int .i64 1, .int .i64 4, .int .i64 10, .int .i64 11, .int .i64 12] 3)).heap.size = p at *
  clear ha hb M1 ba
  go_wp2_with fail
  refine (O1.out _ _ b1.out a1.out).mono ?_
  rintro e w3 ⟨⟨q, rfl, hq⟩, hb⟩
  have b3 : Hid (Below w.heap.size w w3) := b1.out.trans (hb.mono b1.out.size)
  have Q3 : Hid (Ats w3 q L) := hq
  clear hb hq b1 a1 O1
  go_wp2_with fail
  go_ret2
  exact ⟨⟨_, rfl, Q3.out⟩, b3.out⟩
/-- Change. -/
theorem rlChangeC : RlChangeC := fun v u l t w lo lt ls lz _ _ hv hu => by -- function 20
  have eE : ovrE l t false (isA l 7) = trnE l t false := by
    unfold ovrE trnE
    rw [show oneF (crdF l) 7 = isA l 7 from oneF_is (k := 7) (by decide)]
    by_cases h1 : valA l = false
    · rw [if_pos h1, if_pos h1]
    · rw [if_neg h1, if_neg h1]
      by_cases h2 : fltA t ≠ 0
      · rw [if_pos h2, if_pos h2]
      · rw [if_neg h2, if_neg h2]
        cases e : isA l 7 with
        | false => rw [if_pos rfl, if_pos (show false = false ∧ false = false from ⟨rfl, rfl⟩)]
        | true => rw [if_neg (show ¬ true = false by decide), if_neg (show ¬ (true = false ∧ false = false) by decide)]
  refine change_walk v u (isA l 7) (trnE l t false) (trnL l t false) w (fun W hW => atIsC v l 7 W lo ls (by decide) (by decide) (hv.up hW (Nat.le_refl _))) fun W p hW hp => ?_
  have := over_fun l t lo lt ls lz false (isA l 7) v u p W (hv.up hW (Nat.le_refl _)) (hu.up hW (Nat.le_refl _)) hp
  rw [eE] at this
  exact this
/-- Copy. -/
theorem rlCopyC : RlCopyC := fun v u l t w lo lt ls lz _ _ hv hu => by -- function 22
  have eE : ovrE l t true true = trnE l t true := by
    unfold ovrE trnE
    by_cases h1 : valA l = false
    · rw [if_pos h1, if_pos h1]
    · rw [if_neg h1, if_neg h1]
      by_cases h2 : fltA t ≠ 0
      · rw [if_pos h2, if_pos h2]
      · rw [if_neg h2, if_neg h2, if_neg (show ¬ true = false by decide), if_neg (show ¬ (oneF (crdF l) 7 = false ∧ true = false) from fun h => by cases h.2)]
  refine copy_walk v u (trnE l t true) (trnL l t true) w fun W p hW hp => ?_
  have := over_fun l t lo lt ls lz true true v u p W (hv.up hW (Nat.le_refl _)) (hu.up hW (Nat.le_refl _)) hp
  rw [eE] at this
  exact this
end Go.Proofs.Ytepaapiflkkghaa

/- Package rule, as it landed: all its contracts. -/
