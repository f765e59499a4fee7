/- Slices of digits by the row of their elements; the contracts of sealringref.digit and trim. -/
import Derived.Test.YtkgfeacednomfaaRows
import Derived.Test.YtkgfeacednomfaaNum
import Derived.Test.YtkgfeacednomfaaDMath
import Derived.Test.YtkgfeacednomfaaStore
import Derived.WalkKit
import Derived.WalkSpells
import Derived.WalkLawsBesides
import Derived.LoopN
namespace Go.Proofs.Ytkgfeacednomfaa
open Go.RowKit
/-- The slice v holds the numbers xs: they lie one behind the other in a block. -/
def Sl (w : World) (v : Value) (xs : List Nat) : Prop :=
  (v = .slice none 0 0 ∧ xs = []) ∨ ∃ b o c, v = .slice (some ⟨b, o, none⟩) xs.length c ∧ xs.length ≤ c ∧ ∀ j, j < xs.length → w.cell? ⟨b, o + j, none⟩ = some (.int .i64 ((xs.getD j 0 : Nat) : Int))
theorem Sl.up {W w1 : World} {v : Value} {xs : List Nat} (h : Sl W v xs) (hb : Below W.heap.size W w1) : Sl w1 v xs := by
  rcases h with h | ⟨b, o, c, e, hl, hc⟩
  · exact .inl h
  · exact .inr ⟨b, o, c, e, hl, fun j hj => (hb.cell (p := ⟨b, o + j, none⟩) (lt_of_cell (hc j hj))).trans (hc j hj)⟩
theorem Sl.parts {w : World} {v : Value} {xs : List Nat} (h : Sl w v xs) : ∃ a c, v = .slice a xs.length c := by
  rcases h with ⟨rfl, rfl⟩ | ⟨b, o, c, rfl, _⟩
  · exact ⟨none, 0, rfl⟩
  · exact ⟨_, c, rfl⟩
set_option maxHeartbeats 400000 in
theorem digit_in (b o c : Nat) (n : Nat) (v : Int) (i : Nat) (hi : i < n) (w : World) (hc : w.cell? ⟨b, o + i, none⟩ = some (.int .i64 v)) :
    Calls Try.prog 57 #[.slice (some ⟨b, o, none⟩) n c, .int .i64 i] w fun e w' => e = .returned (.int .i64 v) ∧ Below w.heap.size w w' := by
  have h1 : ¬ ((i : Int) < 0) := by omega
  have h2 : ¬ ((i : Int) ≥ n) := by omega
  go_enter Try.func57, Try.ntmps57
  go_wp2_with fail
  go_ret
  exact ⟨rfl, Below.refl _ _⟩
set_option maxHeartbeats 400000 in
theorem digit_out (a : Option Addr) (n c : Nat) (i : Nat) (hi : n ≤ i) (w : World) :
    Calls Try.prog 57 #[.slice a n c, .int .i64 i] w fun e w' => e = .returned (.int .i64 0) ∧ Below w.heap.size w w' := by
  have h1 : ¬ ((i : Int) < 0) := by omega
  have h2 : (i : Int) ≥ n := by omega
  go_enter Try.func57, Try.ntmps57
  go_wp2_with fail
  go_ret
  exact ⟨rfl, Below.refl _ _⟩
/-- sealringref.digit: the digit there, or 0. -/
theorem digit_fun (v : Value) (xs : List Nat) (i : Nat) (w : World) (h : Sl w v xs) :
    Calls Try.prog 57 #[v, .int .i64 i] w fun e w' => e = .returned (.int .i64 ((xs.getD i 0 : Nat) : Int)) ∧ Below w.heap.size w w' := by
  rcases h with ⟨rfl, rfl⟩ | ⟨b, o, c, rfl, _, hc⟩
  · exact digit_out none 0 0 i (Nat.zero_le _) w
  · rcases Nat.lt_or_ge i xs.length with h | h
    · exact digit_in b o c _ _ i h w (hc i h)
    · have e : xs.getD i 0 = 0 := by simp [h]
      rw [e]
      exact digit_out _ _ c i h w
/-- How many are left when the noughts at the end are struck. -/
def Trims (xs : List Nat) (k : Nat) : Prop := k ≤ xs.length ∧ (∀ j, k ≤ j → xs.getD j 0 = 0) ∧ (k = 0 ∨ xs.getD (k - 1) 0 ≠ 0)
theorem Trims.eq {xs : List Nat} {k : Nat} (h : Trims xs k) (hd : P.Dg xs) : xs.take k = P.dg (P.dv xs) := by
  rw [← P.dv_take h.2.1]
  refine P.eq_dg _ (hd.take k) ?_
  rcases h.2.2 with e | e
  · exact .inl (by rw [e, List.take_zero])
  · by_cases hk : k = 0
    · exact .inl (by rw [hk, List.take_zero])
    · refine .inr ?_
      rw [List.length_take, Nat.min_eq_left h.1]
      rw [List.getD_eq_getElem?_getD, List.getElem?_take, if_pos (by omega), ← List.getD_eq_getElem?_getD]
      exact e
/-- A slice's length. -/
def lenV : Value → Nat
  | .slice _ n _ => n
  | _ => 0
set_option maxHeartbeats 1000000 in
theorem trim_some (b o c : Nat) (xs : List Nat) (hcap : xs.length ≤ c) (hs : xs.length < 4611686018427387904) (w : World) (hc : ∀ j, j < xs.length → w.cell? ⟨b, o + j, none⟩ = some (.int .i64 ((xs.getD j 0 : Nat) : Int))) :
    Calls Try.prog 58 #[.slice (some ⟨b, o, none⟩) xs.length c] w fun e w' => (∃ k, Trims xs k ∧ e = .returned (.slice (some ⟨b, o, none⟩) k c)) ∧ Below w.heap.size w w' := by
  have HC : Hid _ := hc
  clear hc
  go_enter Try.func58, Try.ntmps58
  go_wp2_with fail
  go_loopw [0] (fun l w' => w' = w ∧ ∃ k : Nat, k ≤ xs.length ∧ l = .slice (some ⟨b, o, none⟩) k c ∧ Hid (∀ j, k ≤ j → xs.getD j 0 = 0)) (fun l _ => lenV l)
  case atStart => exact ⟨rfl, xs.length, Nat.le_refl _, rfl, (fun j hj => by simp [hj] : ∀ j, xs.length ≤ j → xs.getD j 0 = 0)⟩
  case round =>
    obtain ⟨rfl, k, hk, rfl, hz⟩ := hrel
    by_cases h0 : k = 0
    · subst h0
      go_wp2_with fail
      go_ret
      exact ⟨⟨0, ⟨Nat.zero_le _, hz.out, .inl rfl⟩, rfl⟩, Below.refl _ _⟩
    · obtain ⟨k, rfl⟩ : ∃ j, k = j + 1 := ⟨k - 1, by omega⟩
      have hcell := HC.out k (by omega)
      have h1 : ((k + 1 : Nat) : Int) > 0 := by omega
      have h2 : ((k + 1 : Nat) : Int) - 1 = k := by omega
      have h3 : (k : Int) < 4611686018427387904 := by omega
      have h4 : k ≤ c := by omega
      by_cases hv : xs.getD k 0 = 0
      · rw [hv] at hcell
        have HV : Hid _ := hv
        clear hv
        go_wp2_with fail
        refine ⟨⟨trivial, k, by omega, rfl, (fun j hj => ?_ : ∀ j, k ≤ j → xs.getD j 0 = 0)⟩, by simp [lenV]⟩
        by_cases e : j = k
        · rw [e]; exact HV.out
        · exact hz.out j (by omega)
      · have T : Hid (Trims xs (k + 1)) := ⟨hk, hz.out, .inr hv⟩
        generalize xs.getD k 0 = v at *
        have hv' : ¬ (v : Int) = 0 := by omega
        have hb : ((v : Int) == 0) = false := beq_eq_false_iff_ne.2 hv'
        go_wp2_with fail
        go_ret
        exact ⟨⟨k + 1, T.out, rfl⟩, Below.refl _ _⟩
set_option maxHeartbeats 400000 in
theorem trim_none (w : World) :
    Calls Try.prog 58 #[.slice none 0 0] w fun e w' => e = .returned (.slice none 0 0) ∧ Below w.heap.size w w' := by
  go_enter Try.func58, Try.ntmps58
  go_wp2_with fail
  refine wp_loop_rounds 1 ?_
  rw [rounds_succ]
  go_wp2_with fail
  go_ret
  exact ⟨rfl, Below.refl _ _⟩
/-- The slice lies in a block from B on (or is nil). -/
def blkGe (B : Nat) : Value → Prop
  | .slice (some a) _ _ => B ≤ a.block
  | _ => True
theorem blkGe.mono {A B : Nat} {v : Value} (h : blkGe B v) (hab : A ≤ B) : blkGe A v := by
  cases v with
  | slice a _ _ =>
    cases a with
    | none => exact trivial
    | some a => exact Nat.le_trans hab h
  | _ => exact trivial
theorem Sl.set_ne {w : World} {v : Value} {xs : List Nat} {g j : Nat} {y : Value} (h : Sl w v xs) (hg : blkGe (g + 1) v) : Sl (w.setCell ⟨g, j, none⟩ y) v xs := by
  rcases h with h | ⟨b, o, c, rfl, hl, hc⟩
  · exact .inl h
  · have hb : g + 1 ≤ b := hg
    refine .inr ⟨b, o, c, rfl, hl, fun i hi => ?_⟩
    rw [cell_set_ne (by omega)]
    exact hc i hi
/-- sealringref.trim: the number's own digits. -/
theorem trim_fun2 (v : Value) (xs : List Nat) (hd : P.Dg xs) (hs : xs.length < 4611686018427387904) (w : World) (h : Sl w v xs) :
    Calls Try.prog 58 #[v] w fun e w' => (∃ v', e = .returned v' ∧ Sl w' v' (P.dg (P.dv xs)) ∧ ∀ B, blkGe B v → blkGe B v') ∧ Below w.heap.size w w' := by
  rcases h with ⟨rfl, rfl⟩ | ⟨b, o, c, rfl, hcap, hc⟩
  · refine (trim_none w).mono ?_
    rintro e w' ⟨rfl, hb⟩
    exact ⟨⟨_, rfl, .inl ⟨rfl, by rw [P.dv, P.dg_zero]⟩, fun _ h => h⟩, hb⟩
  · refine (trim_some b o c xs hcap hs w hc).mono ?_
    rintro e w' ⟨⟨k, hk, rfl⟩, hb⟩
    refine ⟨⟨_, rfl, .inr ⟨b, o, c, ?_, ?_, fun j hj => ?_⟩, fun _ h => h⟩, hb⟩
    · rw [← hk.eq hd, List.length_take, Nat.min_eq_left hk.1]
    · rw [← hk.eq hd, List.length_take, Nat.min_eq_left hk.1]; exact Nat.le_trans hk.1 hcap
    · rw [← hk.eq hd] at hj ⊢
      rw [List.length_take, Nat.min_eq_left hk.1] at hj
      have hj2 : j < xs.length := Nat.lt_of_lt_of_le hj hk.1
      rw [List.getD_eq_getElem?_getD, List.getElem?_take, if_pos hj, ← List.getD_eq_getElem?_getD]
      exact (hb.cell (p := ⟨b, o + j, none⟩) (lt_of_cell (hc j hj2))).trans (hc j hj2)
theorem trim_fun (v : Value) (xs : List Nat) (hd : P.Dg xs) (hs : xs.length < 4611686018427387904) (w : World) (h : Sl w v xs) :
    Calls Try.prog 58 #[v] w fun e w' => (∃ v', e = .returned v' ∧ Sl w' v' (P.dg (P.dv xs))) ∧ Below w.heap.size w w' :=
  (trim_fun2 v xs hd hs w h).mono fun _ _ ⟨⟨v', he, hsl, _⟩, hb⟩ => ⟨⟨v', he, hsl⟩, hb⟩
end Go.Proofs.Ytkgfeacednomfaa
