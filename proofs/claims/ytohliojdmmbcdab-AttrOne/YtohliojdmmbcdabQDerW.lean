/- Items: what a slice of them holds; the contract of der.Write. -/
import Derived.Test.YtohliojdmmbcdabQBs
namespace Go.Proofs.Ytohliojdmmbcdab
open Go.RowKit
structure It where
  tag : Nat
  body : List Nat
/-- The LENGTH of n bytes. -/
def lenB (n : Nat) : List Nat := if n < 128 then [n] else if n < 256 then [129, n] else [130, n / 256, n % 256]
def It.text (x : It) : List Nat := x.tag :: (lenB x.body.length ++ x.body)
def texts (l : List It) : List Nat := l.flatMap It.text
theorem lenB_len (n : Nat) : (lenB n).length ≤ 3 := by
  unfold lenB
  by_cases h1 : n < 128
  · simp [h1]
  · by_cases h2 : n < 256 <;> simp [h1, h2]
theorem It.text_len (x : It) : x.text.length ≤ 4 + x.body.length := by
  have := lenB_len x.body.length
  simp [It.text]
  omega
theorem texts_snoc (l : List It) (x : It) : texts (l ++ [x]) = texts l ++ x.text := by simp [texts]
theorem texts_take_succ {l : List It} {k : Nat} {x : It} (h : l[k]? = some x) : texts (l.take (k + 1)) = texts (l.take k) ++ x.text := by
  have : l.take (k + 1) = l.take k ++ [x] := by rw [List.take_add_one, h]; rfl
  rw [this, texts_snoc]
theorem texts_len : ∀ l : List It, (∀ x ∈ l, x.body.length ≤ 4096) → (texts l).length ≤ 4100 * l.length
  | [], _ => by simp [texts]
  | x :: l, h => by
    have ih := texts_len l (fun y hy => h y (by simp [hy]))
    have h1 := x.text_len
    have h2 := h x (by simp)
    have e : (texts (x :: l)).length = x.text.length + (texts l).length := by simp [texts]
    rw [e, List.length_cons]
    omega
theorem Try.uItems : Try.prog.underlying 31 = some (.slice 35) := by kernel_rfl
/-- The slice v holds the items l. -/
def Its (w : World) (v : Value) (l : List It) : Prop :=
  ∃ a c, v = .slice a l.length c ∧ l.length ≤ c ∧ (a = none → c = 0) ∧ (0 < l.length → ∃ b o, a = some ⟨b, o, none⟩ ∧ ∀ j x, l[j]? = some x → w.cell? ⟨b, o + j * 2, none⟩ = some (b8 x.tag) ∧ ∃ u, w.cell? ⟨b, o + j * 2 + 1, none⟩ = some u ∧ By w u x.body)
theorem Its.up {W w1 : World} {v : Value} {l : List It} {B : Nat} (h : Its W v l) (hb : Below B W w1) (hB : W.heap.size ≤ B) : Its w1 v l := by
  obtain ⟨a, c, e, h1, h2, h3⟩ := h
  refine ⟨a, c, e, h1, h2, fun hp => ?_⟩
  obtain ⟨b, o, e2, hc⟩ := h3 hp
  refine ⟨b, o, e2, fun j x hx => ?_⟩
  obtain ⟨t1, u, t2, t3⟩ := hc j x hx
  exact ⟨(hb.cell (p := ⟨b, _, none⟩) (Nat.lt_of_lt_of_le (lt_of_cellB t1) hB)).trans t1, u, (hb.cell (p := ⟨b, _, none⟩) (Nat.lt_of_lt_of_le (lt_of_cellB t2) hB)).trans t2, t3.up hb hB⟩
set_option maxHeartbeats 400000 in
theorem lengthSize_fun (n : Nat) (w : World) :
    Calls Try.prog 21 #[.int .i64 (n : Int)] w fun e w' => e = .returned (.int .i64 (((lenB n).length : Nat) : Int)) ∧ w' = w := by
  by_cases h1 : n < 128
  · have i1 : (n : Int) < 128 := by omega
    have e : (lenB n).length = 1 := by simp [lenB, h1]
    rw [e]
    go_enter Try.func21, Try.ntmps21
    go_wp2_with fail
    go_ret
    exact ⟨rfl, rfl⟩
  · have i1 : ¬ (n : Int) < 128 := by omega
    by_cases h2 : n < 256
    · have i2 : (n : Int) < 256 := by omega
      have e : (lenB n).length = 2 := by simp [lenB, h1, h2]
      rw [e]
      go_enter Try.func21, Try.ntmps21
      go_wp2_with fail
      go_ret
      exact ⟨rfl, rfl⟩
    · have i2 : ¬ (n : Int) < 256 := by omega
      have e : (lenB n).length = 3 := by simp [lenB, h1, h2]
      rw [e]
      go_enter Try.func21, Try.ntmps21
      go_wp2_with fail
      go_ret
      exact ⟨rfl, rfl⟩
theorem grown_alloc {w w' : World} {o : Obj} {row : Option Nat} (h : (w.alloc o).grownBy w' row) : w.grownBy w' row :=
  ⟨h.os, h.tape, h.output, Nat.le_trans (by simp) h.size, fun k hk hne => (h.block k (Nat.lt_of_lt_of_le hk (by simp)) hne).trans ((World.grownBy_alloc w o row).block k hk hne)⟩
set_option maxRecDepth 20000 in
set_option maxHeartbeats 1000000 in
theorem appendLength_fun (B : Nat) (v : Value) (xs : List Nat) (n : Nat) (hn : n ≤ 65535) (hx : xs.length ≤ 1073741824) (w : World) (ho : Ob w B v xs) (hB : B ≤ w.heap.size) :
    Calls Try.prog 16 #[v, .int .i64 (n : Int)] w fun e w' => ∃ v', e = .returned v' ∧ Ob w' B v' (xs ++ lenB n) ∧ w.grownBy w' v.ownBlock := by
  have HO : Hid (Ob w B v xs) := ho
  have HX : Hid (xs.length ≤ 1073741824) := hx
  clear ho hx
  have n0 : (0 : Int) ≤ (n : Int) := by omega
  have n1 : (n : Int) ≤ 65535 := by omega
  by_cases h1 : n < 128
  · have e : lenB n = [n] := by simp [lenB, h1]
    have m1 : (n : Int) % 256 = (n : Int) := by omega
    clear hn h1
    have LS : Hid _ := lengthSize_fun n
    rw [e] at LS ⊢
    clear e
    go_enter Try.func16, Try.ntmps16
    go_wp2_with fail
    refine (LS.out _).mono ?_
    rintro e w' ⟨rfl, hw'⟩
    have hw2 := hw'.symm
    subst hw2
    clear hw' LS
    go_wp2_with (at_builtin; refine wp_appB rfl _ _ rfl B _ _ xs [n] w rfl HO.out ((Below.refl _ _).alloc (Nat.le_refl _) _) rfl (By.one (by simp [b8])) (by have := HX.out; simp; omega) hB ?_)
    intro v' w1 o1 g1 b1
    have O1 : Hid _ := o1
    have G1 : Hid _ := g1
    clear o1 g1 b1
    go_wp2_with fail
    go_ret
    exact ⟨_, rfl, O1.out, grown_alloc G1.out⟩
  · by_cases h2 : n < 256
    · have e : lenB n = [129, n] := by simp [lenB, h1, h2]
      have m1 : (n : Int) % 256 = (n : Int) := by omega
      clear hn h1 h2
      have LS : Hid _ := lengthSize_fun n
      rw [e] at LS ⊢
      clear e
      go_enter Try.func16, Try.ntmps16
      go_wp2_with fail
      refine (LS.out _).mono ?_
      rintro e w' ⟨rfl, hw'⟩
      have hw2 := hw'.symm
      subst hw2
      clear hw' LS
      go_wp2_with (at_builtin; refine wp_appB rfl _ _ rfl B _ _ xs [129, n] w rfl HO.out ((Below.refl _ _).alloc (Nat.le_refl _) _) rfl (By.two (by simp [b8]) (by simp [b8])) (by have := HX.out; simp; omega) hB ?_)
      intro v' w1 o1 g1 b1
      have O1 : Hid _ := o1
      have G1 : Hid _ := g1
      clear o1 g1 b1
      go_wp2_with fail
      go_ret
      exact ⟨_, rfl, O1.out, grown_alloc G1.out⟩
    · have e : lenB n = [130, n / 256, n % 256] := by simp [lenB, h1, h2]
      have m1 : (n : Int) / 256 % 256 = ((n / 256 : Nat) : Int) := by omega
      have m2 : (n : Int) % 256 % 256 = ((n % 256 : Nat) : Int) := by omega
      clear hn h1 h2
      have LS : Hid _ := lengthSize_fun n
      rw [e] at LS ⊢
      clear e
      go_enter Try.func16, Try.ntmps16
      go_wp2_with fail
      refine (LS.out _).mono ?_
      rintro e w' ⟨rfl, hw'⟩
      have hw2 := hw'.symm
      subst hw2
      clear hw' LS
      go_wp2_with (at_builtin; refine wp_appB rfl _ _ rfl B _ _ xs [130, n / 256, n % 256] w rfl HO.out ((Below.refl _ _).alloc (Nat.le_refl _) _) rfl (By.three (by simp [b8]) (by simp [b8]) (by simp [b8])) (by have := HX.out; simp; omega) hB ?_)
      intro v' w1 o1 g1 b1
      have O1 : Hid _ := o1
      have G1 : Hid _ := g1
      clear o1 g1 b1
      go_wp2_with fail
      go_ret
      exact ⟨_, rfl, O1.out, grown_alloc G1.out⟩
end Go.Proofs.Ytohliojdmmbcdab
