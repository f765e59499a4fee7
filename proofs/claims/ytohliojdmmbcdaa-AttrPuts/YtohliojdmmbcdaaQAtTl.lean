/- AttrTells, out of what package attr must keep and the document's side. -/
import Derived.Test.YtohliojdmmbcdaaQAtFf
import Derived.Test.YtohliojdmmbcdaaQAtFtToAtLm
import Derived.Test.YtohliojdmmbcdaaQAtP
namespace Go.Proofs.Ytohliojdmmbcdaa
open Go.RowKit
set_option linter.unusedSimpArgs false
set_option maxRecDepth 20000 in
set_option maxHeartbeats 4000000 in
theorem attrTells_walk (l a M : List Ar) (v u : Value) (k : Int) (f : Nat) (xs : List Nat) (is r mt : Bool) (w : World) (HV : Hid (Ats w v l)) (HU : Hid (Ats w u a)) (hM : f ≠ 0 → M = [])
    (h1 : ((sOf xs).toList == ([1] : List UInt8)) = r)
    (F1 : ∀ W, Ats W v l → Calls Try.prog 9 #[v] W fun e w' => e = .returned (.int .i64 (f : Int)) ∧ Below W.heap.size W w')
    (N1 : ∀ W, Ats W v l → Calls Try.prog 10 #[v] W fun e w' => (∃ q, e = .returned (.tuple #[q, .int .i64 (f : Int)]) ∧ Ats w' q M) ∧ Below W.heap.size W w')
    (C1 : ∀ W, Ats W v l → Calls Try.prog 11 #[v] W fun e w' => e = .returned (.agg (crdC (crdF l)).toArray) ∧ Below W.heap.size W w')
    (A1 : f = 0 → ∀ W, Calls Try.prog 12 #[.agg (crdC (crdF l)).toArray] W fun e w' => (∃ q, e = .returned q ∧ Ats w' q M) ∧ Below W.heap.size W w')
    (G1 : ∀ W, Ats W v l → Calls Try.prog 13 #[v, .int .i64 k] W fun e w' => (∃ x, e = .returned (.tuple #[x, .bool is]) ∧ By w' x xs) ∧ Below W.heap.size W w')
    (FO : ∀ W, Ats W v l → Calls Try.prog 14 #[v, .int .i64 k] W fun e w' => e = .returned (.tuple #[.string (sOf xs), .bool is]) ∧ Below W.heap.size W w')
    (CH : ∀ W, Ats W v l → Calls Try.prog 15 #[v] W fun e w' => e = .returned (.int .i64 (f : Int)) ∧ Below W.heap.size W w')
    (S1 : ∀ p q W, Ats W p M → Ats W q M → Calls Try.prog 16 #[p, q] W fun e w' => e = .returned (.bool true) ∧ Below W.heap.size W w')
    (IS : ∀ W, Ats W v l → Calls Try.prog 17 #[v, .int .i64 k] W fun e w' => e = .returned (.bool r) ∧ Below W.heap.size W w')
    (MA : ∀ W, Ats W v l → Ats W u a → Calls Try.prog 18 #[v, u] W fun e w' => e = .returned (.bool mt) ∧ Below W.heap.size W w')
    (FI : ∀ W, Ats W v l → Ats W u a → Calls Try.prog 19 #[v, u] W fun e w' => e = .returned (.bool mt) ∧ Below W.heap.size W w') :
    Calls Try.prog 3 #[v, u, .int .i64 k] w fun e w' => e = .returned (.bool true) ∧ Below w.heap.size w w' := by
  go_enter Try.func3, Try.ntmps3
  go_wp2_with fail
  refine (F1 w HV.out).mono ?_
  rintro e w1 ⟨rfl, hb⟩
  have b1 : Hid (Below w.heap.size w w1) := hb
  clear hb F1
  go_wp2_with fail
  refine (N1 w1 (HV.out.up b1.out (Nat.le_refl _))).mono ?_
  rintro e w2 ⟨⟨m, rfl, hm⟩, hb⟩
  have b2 : Hid (Below w.heap.size w w2) := b1.out.trans (hb.mono b1.out.size)
  have M2 : Hid (Ats w2 m M) := hm
  clear hb hm N1 b1
  by_cases hf : f = 0
  · subst hf
    replace A1 := A1 rfl
    clear hM
    go_wp2_with fail
    refine (C1 w2 (HV.out.up b2.out (Nat.le_refl _))).mono ?_
    rintro e w2' ⟨rfl, hb⟩
    have b2' : Hid (Below w.heap.size w w2') := b2.out.trans (hb.mono b2.out.size)
    have M2' : Hid (Ats w2' m M) := M2.out.up hb (Nat.le_refl _)
    clear hb M2 C1 b2
    generalize (crdC (crdF l)).toArray = cc at *
    go_wp2_with fail
    refine (A1 w2').mono ?_
    rintro e w3 ⟨⟨q, rfl, hq⟩, hb⟩
    have b3 : Hid (Below w.heap.size w w3) := b2'.out.trans (hb.mono b2'.out.size)
    have M3 : Hid (Ats w3 m M) := M2'.out.up hb (Nat.le_refl _)
    have Q3 : Hid (Ats w3 q M) := hq
    clear hb hq M2' A1 b2'
    go_wp2_with fail
    refine (G1 w3 (HV.out.up b3.out (Nat.le_refl _))).mono ?_
    rintro e w4 ⟨⟨x, rfl, hx⟩, hb⟩
    have b4 : Hid (Below w.heap.size w w4) := b3.out.trans (hb.mono b3.out.size)
    have M4 : Hid (Ats w4 m M) := M3.out.up hb (Nat.le_refl _)
    have Q4 : Hid (Ats w4 q M) := Q3.out.up hb (Nat.le_refl _)
    have X4 : Hid (By w4 x xs) := hx
    clear hx hb M3 Q3 G1 b3
    go_wp2_with fail
    refine (FO w4 (HV.out.up b4.out (Nat.le_refl _))).mono ?_
    rintro e w5 ⟨rfl, hb⟩
    have b5 : Hid (Below w.heap.size w w5) := b4.out.trans (hb.mono b4.out.size)
    have M5 : Hid (Ats w5 m M) := M4.out.up hb (Nat.le_refl _)
    have Q5 : Hid (Ats w5 q M) := Q4.out.up hb (Nat.le_refl _)
    have X5 : Hid (By w5 x xs) := X4.out.up hb (Nat.le_refl _)
    clear hb M4 Q4 X4 FO b4
    go_wp2_with fail
    refine (CH w5 (HV.out.up b5.out (Nat.le_refl _))).mono ?_
    rintro e w6 ⟨rfl, hb⟩
    have b6 : Hid (Below w.heap.size w w6) := b5.out.trans (hb.mono b5.out.size)
    have M6 : Hid (Ats w6 m M) := M5.out.up hb (Nat.le_refl _)
    have Q6 : Hid (Ats w6 q M) := Q5.out.up hb (Nat.le_refl _)
    have X6 : Hid (By w6 x xs) := X5.out.up hb (Nat.le_refl _)
    clear hb M5 Q5 X5 CH b5
    go_wp2_with fail
    refine (S1 _ _ w6 M6.out Q6.out).mono ?_
    rintro e w7 ⟨rfl, hb⟩
    have b7 : Hid (Below w.heap.size w w7) := b6.out.trans (hb.mono b6.out.size)
    have X7 : Hid (By w7 x xs) := X6.out.up hb (Nat.le_refl _)
    clear hb M6 Q6 X6 S1 b6
    go_wp2_with (refine wp_convG (by first | rfl | simp [Region.wanted, yielded]) (.tmp 54) rfl _ xs rfl X7.out ?_)
    refine (IS w7 (HV.out.up b7.out (Nat.le_refl _))).mono ?_
    rintro e w8 ⟨rfl, hb⟩
    have b8 : Hid (Below w.heap.size w w8) := b7.out.trans (hb.mono b7.out.size)
    clear hb X7 IS b7
    go_wp2_with fail
    refine (MA w8 (HV.out.up b8.out (Nat.le_refl _)) (HU.out.up b8.out (Nat.le_refl _))).mono ?_
    rintro e w9 ⟨rfl, hb⟩
    have b9 : Hid (Below w.heap.size w w9) := b8.out.trans (hb.mono b8.out.size)
    clear hb MA b8
    go_wp2_with fail
    refine (FI w9 (HV.out.up b9.out (Nat.le_refl _)) (HU.out.up b9.out (Nat.le_refl _))).mono ?_
    rintro e w10 ⟨rfl, hb⟩
    have b10 : Hid (Below w.heap.size w w10) := b9.out.trans (hb.mono b9.out.size)
    clear hb FI b9
    go_wp2_with fail
    go_ret
    exact ⟨by first | rfl | simp, b10.out⟩
  · have f1 : ((f : Int) == 0) = false := beq_eq_false_iff_ne.2 (by omega)
    obtain rfl := hM hf
    have b3 : Hid (Below w.heap.size w w2) := b2.out
    have M3 : Hid (Ats w2 m []) := M2.out
    have Q3 : Hid (Ats w2 (.slice none 0 0) []) := Ats.nil _
    clear hM hf C1 A1 b2 M2
    generalize hw3 : w2 = w3 at *
    clear hw3
    generalize hMM : ([] : List Ar) = M at *
    clear hMM
    go_wp2_with fail
    refine (G1 w3 (HV.out.up b3.out (Nat.le_refl _))).mono ?_
    rintro e w4 ⟨⟨x, rfl, hx⟩, hb⟩
    have b4 : Hid (Below w.heap.size w w4) := b3.out.trans (hb.mono b3.out.size)
    have M4 : Hid (Ats w4 m M) := M3.out.up hb (Nat.le_refl _)
    have Q4 : Hid (Ats w4 (.slice none 0 0) M) := Q3.out.up hb (Nat.le_refl _)
    have X4 : Hid (By w4 x xs) := hx
    clear hx hb M3 Q3 G1 b3
    go_wp2_with fail
    refine (FO w4 (HV.out.up b4.out (Nat.le_refl _))).mono ?_
    rintro e w5 ⟨rfl, hb⟩
    have b5 : Hid (Below w.heap.size w w5) := b4.out.trans (hb.mono b4.out.size)
    have M5 : Hid (Ats w5 m M) := M4.out.up hb (Nat.le_refl _)
    have Q5 : Hid (Ats w5 (.slice none 0 0) M) := Q4.out.up hb (Nat.le_refl _)
    have X5 : Hid (By w5 x xs) := X4.out.up hb (Nat.le_refl _)
    clear hb M4 Q4 X4 FO b4
    go_wp2_with fail
    refine (CH w5 (HV.out.up b5.out (Nat.le_refl _))).mono ?_
    rintro e w6 ⟨rfl, hb⟩
    have b6 : Hid (Below w.heap.size w w6) := b5.out.trans (hb.mono b5.out.size)
    have M6 : Hid (Ats w6 m M) := M5.out.up hb (Nat.le_refl _)
    have Q6 : Hid (Ats w6 (.slice none 0 0) M) := Q5.out.up hb (Nat.le_refl _)
    have X6 : Hid (By w6 x xs) := X5.out.up hb (Nat.le_refl _)
    clear hb M5 Q5 X5 CH b5
    go_wp2_with fail
    refine (S1 _ _ w6 M6.out Q6.out).mono ?_
    rintro e w7 ⟨rfl, hb⟩
    have b7 : Hid (Below w.heap.size w w7) := b6.out.trans (hb.mono b6.out.size)
    have X7 : Hid (By w7 x xs) := X6.out.up hb (Nat.le_refl _)
    clear hb M6 Q6 X6 S1 b6
    go_wp2_with (refine wp_convG (by first | rfl | simp [Region.wanted, yielded]) (.tmp 54) rfl _ xs rfl X7.out ?_)
    refine (IS w7 (HV.out.up b7.out (Nat.le_refl _))).mono ?_
    rintro e w8 ⟨rfl, hb⟩
    have b8 : Hid (Below w.heap.size w w8) := b7.out.trans (hb.mono b7.out.size)
    clear hb X7 IS b7
    go_wp2_with fail
    refine (MA w8 (HV.out.up b8.out (Nat.le_refl _)) (HU.out.up b8.out (Nat.le_refl _))).mono ?_
    rintro e w9 ⟨rfl, hb⟩
    have b9 : Hid (Below w.heap.size w w9) := b8.out.trans (hb.mono b8.out.size)
    clear hb MA b8
    go_wp2_with fail
    refine (FI w9 (HV.out.up b9.out (Nat.le_refl _)) (HU.out.up b9.out (Nat.le_refl _))).mono ?_
    rintro e w10 ⟨rfl, hb⟩
    have b10 : Hid (Below w.heap.size w w10) := b9.out.trans (hb.mono b9.out.size)
    clear hb FI b9
    go_wp2_with fail
    go_ret
    exact ⟨by first | rfl | simp, b10.out⟩
theorem attrTells_of (NC : AtNormC) (CC : AtCheckC) (MC : AtMatchC) (GC : AtGetC) (IC : AtIsC) (l : List Ar) (ll : lowA l) (hl : l.length ≤ 140737488351232) (zl : ∀ x ∈ l, x.v.length ≤ 140737488351232) (a : List Ar) (la : lowA a) (ha : a.length ≤ 140737488351232) (k : Int) (hk : -9223372036854775808 ≤ k ∧ k ≤ 9223372036854775807) (w : World) {v u : Value} (h1 : Ats w v l) (h2 : Ats w u a) :
    Calls Try.prog 3 #[v, u, .int .i64 k] w fun e w' => e = .returned (.bool true) ∧ Below w.heap.size w w' := by
  have lo : ∀ x ∈ l, lowB x.v := fun x hx => (ll x hx).2
  have ao : ∀ x ∈ a, lowB x.v := fun x hx => (la x hx).2
  have xl : lowB ((getA l k).getD []) := by
    cases hg : getA l k with
    | none => exact fun y hy => absurd hy List.not_mem_nil
    | some t =>
      obtain ⟨x, hx, _, rfl⟩ := getA_mem hg
      exact lo x hx
  have one : lowB [1] := fun y hy => by
    obtain rfl := List.mem_singleton.1 hy
    decide
  have hM : ∀ y ∈ (if fltA l = 0 then risA l else []), lowB y.v := fun y hy => by
    split at hy
    · exact (risA_low ll y hy).2
    · exact absurd hy List.not_mem_nil
  have hMl : (if fltA l = 0 then risA l else []).length ≤ 4611686018427387904 := by
    split
    · have := risA_len l
      omega
    · exact Nat.zero_le _
  refine attrTells_walk l a (if fltA l = 0 then risA l else []) v u k (fltA l) ((getA l k).getD []) (getA l k).isSome (decide ((getA l k).getD [] = [1])) (matA l a) w h1 h2 (fun h => if_neg h) ?_
    (fun W h => attrsFault_fun v l W h) (fun W h => NC v l W ll h) (fun W h => cardOf_fun l (by omega) v W h) (fun h0 W => ?_) (fun W h => GC v l k W ll (by omega) zl hk.1 hk.2 h) (fun W h => firstOf_fun l (by omega) k v W h) (fun W h => CC v l W ll h)
    (fun p q W hp hq => ?_) (fun W h => IC v l k W ll (by omega) hk.1 hk.2 h) (fun W h h' => MC v u l a W ll la (by omega) (by omega) h h') (fun W h h' => fits_fun l a v u (by omega) (by omega) lo ao W h h')
  · rw [← show (sOf [1]).toList = [1] from by simp [sOf]]
    exact sOf_beq xl one
  · rw [if_pos h0]
    exact attrs_fun l lo W
  · exact (sameR_fun _ _ hMl hM hM p q W hp hq).mono fun e w' ⟨⟨t, he, ht⟩, hb⟩ => ⟨by rw [he, ht.2 rfl], hb⟩
end Go.Proofs.Ytohliojdmmbcdaa
