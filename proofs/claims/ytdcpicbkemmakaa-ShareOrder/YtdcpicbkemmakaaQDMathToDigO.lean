/- Texts that were joined: DMath, Dig, DigO. -/
import Derived.Test.YtdcpicbkemmakaaRows
import Derived.Test.YtdcpicbkemmakaaQNumToQMath
import Derived.Test.YtdcpicbkemmakaaQStoreToKn
import Derived.WalkKit
import Derived.WalkSpells
import Derived.WalkLawsBesides
import Derived.LoopN
import Derived.OwnWalk
import Derived.Laws.AppendOwn
import Derived.Laws.OwnMore
import Derived.Below
/- Rows of digits of 16 bits, and the numbers that they are. -/
namespace Go.Proofs.Ytdcpicbkemmakaa.P
/-- The number of a row of digits, the least first. -/
def dv : List Nat → Nat
  | [] => 0
  | x :: xs => x + 65536 * dv xs
/-- All are digits. -/
def Dg (xs : List Nat) : Prop := ∀ x ∈ xs, x < 65536
/-- A number's digits, none of them 0 at the end. -/
def dg (n : Nat) : List Nat := if n = 0 then [] else n % 65536 :: dg (n / 65536) termination_by n decreasing_by omega
theorem dg_zero : dg 0 = [] := by rw [dg]; simp
theorem dg_pos {n : Nat} (h : n ≠ 0) : dg n = n % 65536 :: dg (n / 65536) := by rw [dg, if_neg h]
theorem dg_Dg (n : Nat) : Dg (dg n) := by
  induction n using Nat.strongRecOn with
  | _ n ih =>
    by_cases h : n = 0
    · subst h; rw [dg_zero]; intro x hx; cases hx
    · rw [dg_pos h]
      intro x hx
      rcases List.mem_cons.1 hx with rfl | hx
      · exact Nat.mod_lt _ (by decide)
      · exact ih _ (by omega) x hx
theorem dv_dg (n : Nat) : dv (dg n) = n := by
  induction n using Nat.strongRecOn with
  | _ n ih =>
    by_cases h : n = 0
    · subst h; rw [dg_zero]; rfl
    · rw [dg_pos h, dv, ih _ (by omega)]; omega
theorem Dg.tail {x : Nat} {xs : List Nat} (h : Dg (x :: xs)) : Dg xs := fun y hy => h y (List.mem_cons_of_mem _ hy)
theorem Dg.head {x : Nat} {xs : List Nat} (h : Dg (x :: xs)) : x < 65536 := h x List.mem_cons_self
theorem dv_lt : ∀ xs, Dg xs → dv xs < 65536 ^ xs.length
  | [], _ => by simp [dv]
  | x :: xs, h => by
    have := dv_lt xs h.tail
    have := h.head
    rw [dv, List.length_cons, Nat.pow_succ]
    omega
theorem dg_len {n : Nat} : ∀ L, n < 65536 ^ L → (dg n).length ≤ L := by
  intro L
  induction L generalizing n with
  | zero => intro h; have : n = 0 := by simpa using h
            subst this; rw [dg_zero]; simp
  | succ L ih =>
    intro h
    by_cases hz : n = 0
    · subst hz; rw [dg_zero]; simp
    · rw [dg_pos hz, List.length_cons]
      have := ih (n := n / 65536) (by rw [Nat.pow_succ] at h; omega)
      omega
/-- What has no 0 at the end is its number's digits. -/
theorem eq_dg : ∀ xs, Dg xs → (xs = [] ∨ xs.getD (xs.length - 1) 0 ≠ 0) → xs = dg (dv xs)
  | [], _, _ => by rw [dv, dg_zero]
  | [x], h, hl => by
    have hx : x ≠ 0 := by simpa using hl
    have := h.head
    rw [dv, dv, Nat.mul_zero, Nat.add_zero, dg_pos hx, Nat.mod_eq_of_lt this, show x / 65536 = 0 by omega, dg_zero]
  | x :: y :: xs, h, hl => by
    have ih := eq_dg (y :: xs) h.tail (.inr (by simpa using hl))
    have hx := h.head
    have hp : dv (y :: xs) ≠ 0 := by
      intro e
      rw [e, dg_zero] at ih
      cases ih
    rw [dv, dg_pos (by omega), show (x + 65536 * dv (y :: xs)) % 65536 = x by omega, show (x + 65536 * dv (y :: xs)) / 65536 = dv (y :: xs) by omega, ← ih]
theorem dv_append (xs ys : List Nat) : dv (xs ++ ys) = dv xs + 65536 ^ xs.length * dv ys := by
  induction xs with
  | nil => simp [dv]
  | cons x xs ih => rw [List.cons_append, dv, dv, ih, List.length_cons, Nat.pow_succ]; grind
theorem dv_zeros (k : Nat) : dv (List.replicate k 0) = 0 := by
  induction k with
  | zero => rfl
  | succ k ih => rw [List.replicate_succ, dv, ih]
/-- What is struck at the end is nothing. -/
theorem dv_take {xs : List Nat} {k : Nat} (h : ∀ j, k ≤ j → xs.getD j 0 = 0) : dv (xs.take k) = dv xs := by
  induction xs generalizing k with
  | nil => simp
  | cons x xs ih =>
    cases k with
    | zero =>
      have e := ih (k := 0) (fun j _ => by have := h (j + 1) (by omega); simpa using this)
      have h0 := h 0 (by omega)
      simp at h0 e
      rw [h0]
      simp only [dv] at e ⊢
      simp [dv, ← e]
    | succ k =>
      rw [List.take_succ_cons, dv, dv, ih (fun j hj => by have := h (j + 1) (by omega); simpa using this)]
theorem Dg.take {xs : List Nat} (h : Dg xs) (k : Nat) : Dg (xs.take k) := fun x hx => h x (List.mem_of_mem_take hx)
theorem Dg.append {xs ys : List Nat} (h : Dg xs) (h' : Dg ys) : Dg (xs ++ ys) := fun x hx => (List.mem_append.1 hx).elim (h x) (h' x)
theorem Dg.one {x : Nat} (h : x < 65536) : Dg [x] := fun y hy => by rw [List.mem_singleton.1 hy]; exact h
/-- The digit at a place. -/
theorem dig {xs : List Nat} (h : Dg xs) (i : Nat) : xs.getD i 0 = dv xs / 65536 ^ i % 65536 := by
  induction xs generalizing i with
  | nil => simp [dv]
  | cons x xs ih =>
    have hx := h.head
    cases i with
    | zero => rw [dv]; simp; omega
    | succ i =>
      rw [List.getD_cons_succ, ih h.tail, dv, Nat.pow_succ, Nat.mul_comm (65536 ^ i), ← Nat.div_div_eq_div_mul, show (x + 65536 * dv xs) / 65536 = dv xs by omega]
theorem dig_lt {xs : List Nat} (h : Dg xs) (i : Nat) : xs.getD i 0 < 65536 := by rw [dig h]; exact Nat.mod_lt _ (by decide)
theorem mod_pow_succ' (n i : Nat) : n % 65536 ^ (i + 1) = n % 65536 ^ i + 65536 ^ i * (n / 65536 ^ i % 65536) := by
  rw [Nat.pow_succ, Nat.mod_mul]
/-- Behind the last digit there is nothing. -/
theorem mod_len {xs : List Nat} (h : Dg xs) {i : Nat} (hi : xs.length ≤ i) : dv xs % 65536 ^ i = dv xs :=
  Nat.mod_eq_of_lt (Nat.lt_of_lt_of_le (dv_lt xs h) (Nat.pow_le_pow_right (by decide) hi))
theorem dv_set {xs : List Nat} {i v : Nat} (hi : i < xs.length) : dv (xs.set i v) + 65536 ^ i * xs.getD i 0 = dv xs + 65536 ^ i * v := by
  induction xs generalizing i with
  | nil => simp at hi
  | cons x xs ih =>
    cases i with
    | zero => simp [dv]; omega
    | succ i =>
      have := ih (i := i) (by simpa using hi)
      rw [List.set_cons_succ, dv, dv, List.getD_cons_succ, Nat.pow_succ]
      grind
theorem Dg.set {xs : List Nat} (h : Dg xs) {i v : Nat} (hv : v < 65536) : Dg (xs.set i v) := fun x hx => by
  rcases List.mem_or_eq_of_mem_set hx with h1 | h1
  · exact h x h1
  · rw [h1]; exact hv
end Go.Proofs.Ytdcpicbkemmakaa.P

/- Slices of digits by the row of their elements; the contracts of sealringref.digit and trim. -/
namespace Go.Proofs.Ytdcpicbkemmakaa
open Go.RowKit
/-- The slice v holds the numbers xs: they lie one behind the other in a block. -/
def Sl (w : World) (v : Value) (xs : List Nat) : Prop :=
  (v = .slice none 0 0 ∧ xs = []) ∨ ∃ b o c, v = .slice (some ⟨b, o, none⟩) xs.length c ∧ xs.length ≤ c ∧ ∀ j, j < xs.length → w.cell? ⟨b, o + j, none⟩ = some (.int .i64 ((xs.getD j 0 : Nat) : Int))
theorem Sl.up {W w1 : World} {v : Value} {xs : List Nat} (h : Sl W v xs) (hb : Below W.heap.size W w1) : Sl w1 v xs := by
  rcases h with h | ⟨b, o, c, e, hl, hc⟩
  · exact .inl h
  · exact .inr ⟨b, o, c, e, hl, fun j hj => (hb.cell (p := ⟨b, o + j, none⟩) (lt_of_cell (hc j hj))).trans (hc j hj)⟩
theorem Sl.parts {w : World} {v : Value} {xs : List Nat} (h : Sl w v xs) : ∃ a c, v = .slice a xs.length c := by
  rcases h with ⟨rfl, rfl⟩ | ⟨b, o, c, rfl, _⟩
  · exact ⟨none, 0, rfl⟩
  · exact ⟨_, c, rfl⟩
set_option maxHeartbeats 400000 in
theorem digit_in (b o c : Nat) (n : Nat) (v : Int) (i : Nat) (hi : i < n) (w : World) (hc : w.cell? ⟨b, o + i, none⟩ = some (.int .i64 v)) :
    Calls Try.prog 26 #[.slice (some ⟨b, o, none⟩) n c, .int .i64 i] w fun e w' => e = .returned (.int .i64 v) ∧ Below w.heap.size w w' := by
  have h1 : ¬ ((i : Int) < 0) := by omega
  have h2 : ¬ ((i : Int) ≥ n) := by omega
  go_enter Try.func26, Try.ntmps26
  go_wp2_with fail
  go_ret
  exact ⟨rfl, Below.refl _ _⟩
set_option maxHeartbeats 400000 in
theorem digit_out (a : Option Addr) (n c : Nat) (i : Nat) (hi : n ≤ i) (w : World) :
    Calls Try.prog 26 #[.slice a n c, .int .i64 i] w fun e w' => e = .returned (.int .i64 0) ∧ Below w.heap.size w w' := by
  have h1 : ¬ ((i : Int) < 0) := by omega
  have h2 : (i : Int) ≥ n := by omega
  go_enter Try.func26, Try.ntmps26
  go_wp2_with fail
  go_ret
  exact ⟨rfl, Below.refl _ _⟩
/-- sealringref.digit: the digit there, or 0. -/
theorem digit_fun (v : Value) (xs : List Nat) (i : Nat) (w : World) (h : Sl w v xs) :
    Calls Try.prog 26 #[v, .int .i64 i] w fun e w' => e = .returned (.int .i64 ((xs.getD i 0 : Nat) : Int)) ∧ Below w.heap.size w w' := by
  rcases h with ⟨rfl, rfl⟩ | ⟨b, o, c, rfl, _, hc⟩
  · exact digit_out none 0 0 i (Nat.zero_le _) w
  · rcases Nat.lt_or_ge i xs.length with h | h
    · exact digit_in b o c _ _ i h w (hc i h)
    · have e : xs.getD i 0 = 0 := by simp [h]
      rw [e]
      exact digit_out _ _ c i h w
/-- How many are left when the noughts at the end are struck. -/
def Trims (xs : List Nat) (k : Nat) : Prop := k ≤ xs.length ∧ (∀ j, k ≤ j → xs.getD j 0 = 0) ∧ (k = 0 ∨ xs.getD (k - 1) 0 ≠ 0)
theorem Trims.eq {xs : List Nat} {k : Nat} (h : Trims xs k) (hd : P.Dg xs) : xs.take k = P.dg (P.dv xs) := by
  rw [← P.dv_take h.2.1]
  refine P.eq_dg _ (hd.take k) ?_
  rcases h.2.2 with e | e
  · exact .inl (by rw [e, List.take_zero])
  · by_cases hk : k = 0
    · exact .inl (by rw [hk, List.take_zero])
    · refine .inr ?_
      rw [List.length_take, Nat.min_eq_left h.1]
      rw [List.getD_eq_getElem?_getD, List.getElem?_take, if_pos (by omega), ← List.getD_eq_getElem?_getD]
      exact e
/-- A slice's length. -/
def lenDg : Value → Nat
  | .slice _ n _ => n
  | _ => 0
set_option maxHeartbeats 1000000 in
theorem trim_some (b o c : Nat) (xs : List Nat) (hcap : xs.length ≤ c) (hs : xs.length < 4611686018427387904) (w : World) (hc : ∀ j, j < xs.length → w.cell? ⟨b, o + j, none⟩ = some (.int .i64 ((xs.getD j 0 : Nat) : Int))) :
    Calls Try.prog 39 #[.slice (some ⟨b, o, none⟩) xs.length c] w fun e w' => (∃ k, Trims xs k ∧ e = .returned (.slice (some ⟨b, o, none⟩) k c)) ∧ Below w.heap.size w w' := by
  have HC : Hid _ := hc
  clear hc
  go_enter Try.func39, Try.ntmps39
  go_wp2_with fail
  go_loopw [0] (fun l w' => w' = w ∧ ∃ k : Nat, k ≤ xs.length ∧ l = .slice (some ⟨b, o, none⟩) k c ∧ Hid (∀ j, k ≤ j → xs.getD j 0 = 0)) (fun l _ => lenDg l)
  case atStart => exact ⟨rfl, xs.length, Nat.le_refl _, rfl, (fun j hj => by simp [hj] : ∀ j, xs.length ≤ j → xs.getD j 0 = 0)⟩
  case round =>
    obtain ⟨rfl, k, hk, rfl, hz⟩ := hrel
    by_cases h0 : k = 0
    · subst h0
      go_wp2_with fail
      go_ret
      exact ⟨⟨0, ⟨Nat.zero_le _, hz.out, .inl rfl⟩, rfl⟩, Below.refl _ _⟩
    · obtain ⟨k, rfl⟩ : ∃ j, k = j + 1 := ⟨k - 1, by omega⟩
      have hcell := HC.out k (by omega)
      have h1 : ((k + 1 : Nat) : Int) > 0 := by omega
      have h2 : ((k + 1 : Nat) : Int) - 1 = k := by omega
      have h3 : (k : Int) < 4611686018427387904 := by omega
      have h4 : k ≤ c := by omega
      by_cases hv : xs.getD k 0 = 0
      · rw [hv] at hcell
        have HV : Hid _ := hv
        clear hv
        go_wp2_with fail
        refine ⟨⟨trivial, k, by omega, rfl, (fun j hj => ?_ : ∀ j, k ≤ j → xs.getD j 0 = 0)⟩, by simp [lenDg]⟩
        by_cases e : j = k
        · rw [e]; exact HV.out
        · exact hz.out j (by omega)
      · have T : Hid (Trims xs (k + 1)) := ⟨hk, hz.out, .inr hv⟩
        generalize xs.getD k 0 = v at *
        have hv' : ¬ (v : Int) = 0 := by omega
        have hb : ((v : Int) == 0) = false := beq_eq_false_iff_ne.2 hv'
        go_wp2_with fail
        go_ret
        exact ⟨⟨k + 1, T.out, rfl⟩, Below.refl _ _⟩
set_option maxHeartbeats 400000 in
theorem trim_none (w : World) :
    Calls Try.prog 39 #[.slice none 0 0] w fun e w' => e = .returned (.slice none 0 0) ∧ Below w.heap.size w w' := by
  go_enter Try.func39, Try.ntmps39
  go_wp2_with fail
  refine wp_loop_rounds 1 ?_
  rw [rounds_succ]
  go_wp2_with fail
  go_ret
  exact ⟨rfl, Below.refl _ _⟩
/-- The slice lies in a block from B on (or is nil). -/
def blkGe (B : Nat) : Value → Prop
  | .slice (some a) _ _ => B ≤ a.block
  | _ => True
theorem blkGe.mono {A B : Nat} {v : Value} (h : blkGe B v) (hab : A ≤ B) : blkGe A v := by
  cases v with
  | slice a _ _ =>
    cases a with
    | none => exact trivial
    | some a => exact Nat.le_trans hab h
  | _ => exact trivial
theorem Sl.set_ne {w : World} {v : Value} {xs : List Nat} {g j : Nat} {y : Value} (h : Sl w v xs) (hg : blkGe (g + 1) v) : Sl (w.setCell ⟨g, j, none⟩ y) v xs := by
  rcases h with h | ⟨b, o, c, rfl, hl, hc⟩
  · exact .inl h
  · have hb : g + 1 ≤ b := hg
    refine .inr ⟨b, o, c, rfl, hl, fun i hi => ?_⟩
    rw [cell_set_ne (by omega)]
    exact hc i hi
/-- sealringref.trim: the number's own digits. -/
theorem trim_fun2 (v : Value) (xs : List Nat) (hd : P.Dg xs) (hs : xs.length < 4611686018427387904) (w : World) (h : Sl w v xs) :
    Calls Try.prog 39 #[v] w fun e w' => (∃ v', e = .returned v' ∧ Sl w' v' (P.dg (P.dv xs)) ∧ ∀ B, blkGe B v → blkGe B v') ∧ Below w.heap.size w w' := by
  rcases h with ⟨rfl, rfl⟩ | ⟨b, o, c, rfl, hcap, hc⟩
  · refine (trim_none w).mono ?_
    rintro e w' ⟨rfl, hb⟩
    exact ⟨⟨_, rfl, .inl ⟨rfl, by rw [P.dv, P.dg_zero]⟩, fun _ h => h⟩, hb⟩
  · refine (trim_some b o c xs hcap hs w hc).mono ?_
    rintro e w' ⟨⟨k, hk, rfl⟩, hb⟩
    refine ⟨⟨_, rfl, .inr ⟨b, o, c, ?_, ?_, fun j hj => ?_⟩, fun _ h => h⟩, hb⟩
    · rw [← hk.eq hd, List.length_take, Nat.min_eq_left hk.1]
    · rw [← hk.eq hd, List.length_take, Nat.min_eq_left hk.1]; exact Nat.le_trans hk.1 hcap
    · rw [← hk.eq hd] at hj ⊢
      rw [List.length_take, Nat.min_eq_left hk.1] at hj
      have hj2 : j < xs.length := Nat.lt_of_lt_of_le hj hk.1
      rw [List.getD_eq_getElem?_getD, List.getElem?_take, if_pos hj, ← List.getD_eq_getElem?_getD]
      exact (hb.cell (p := ⟨b, o + j, none⟩) (lt_of_cell (hc j hj2))).trans (hc j hj2)
/-- What is known of the slice's block (if it is not nil). -/
def blkP (Pb : Nat → Prop) : Value → Prop
  | .slice (some a) _ _ => Pb a.block
  | _ => True
theorem trim_fun3 (v : Value) (xs : List Nat) (hd : P.Dg xs) (hs : xs.length < 4611686018427387904) (w : World) (h : Sl w v xs) :
    Calls Try.prog 39 #[v] w fun e w' => (∃ v', e = .returned v' ∧ Sl w' v' (P.dg (P.dv xs)) ∧ ∀ Pb, blkP Pb v → blkP Pb v') ∧ Below w.heap.size w w' := by
  rcases h with ⟨rfl, rfl⟩ | ⟨b, o, c, rfl, hcap, hc⟩
  · refine (trim_none w).mono ?_
    rintro e w' ⟨rfl, hb⟩
    exact ⟨⟨_, rfl, .inl ⟨rfl, by rw [P.dv, P.dg_zero]⟩, fun _ h => h⟩, hb⟩
  · refine (trim_some b o c xs hcap hs w hc).mono ?_
    rintro e w' ⟨⟨k, hk, rfl⟩, hb⟩
    refine ⟨⟨_, rfl, .inr ⟨b, o, c, ?_, ?_, fun j hj => ?_⟩, fun _ h => h⟩, hb⟩
    · rw [← hk.eq hd, List.length_take, Nat.min_eq_left hk.1]
    · rw [← hk.eq hd, List.length_take, Nat.min_eq_left hk.1]; exact Nat.le_trans hk.1 hcap
    · rw [← hk.eq hd] at hj ⊢
      rw [List.length_take, Nat.min_eq_left hk.1] at hj
      have hj2 : j < xs.length := Nat.lt_of_lt_of_le hj hk.1
      rw [List.getD_eq_getElem?_getD, List.getElem?_take, if_pos hj, ← List.getD_eq_getElem?_getD]
      exact (hb.cell (p := ⟨b, o + j, none⟩) (lt_of_cell (hc j hj2))).trans (hc j hj2)
theorem trim_fun (v : Value) (xs : List Nat) (hd : P.Dg xs) (hs : xs.length < 4611686018427387904) (w : World) (h : Sl w v xs) :
    Calls Try.prog 39 #[v] w fun e w' => (∃ v', e = .returned v' ∧ Sl w' v' (P.dg (P.dv xs))) ∧ Below w.heap.size w w' :=
  (trim_fun2 v xs hd hs w h).mono fun _ _ ⟨⟨v', he, hsl, _⟩, hb⟩ => ⟨⟨v', he, hsl⟩, hb⟩
end Go.Proofs.Ytdcpicbkemmakaa

/- Slices of digits that a call itself makes: owned rows, and what append does to one. -/
namespace Go.Proofs.Ytdcpicbkemmakaa
open Go.RowKit
theorem Try.uInts : Try.prog.underlying 37 = some (.slice 3) := by kernel_rfl
theorem Try.iInt : (Try.prog.info? 3).map (fun i => (i.zero, i.size, i.bytes)) = some (some (.int .i64 0), 1, 8) := by kernel_rfl
abbrev iv (x : Nat) : Value := .int .i64 ((x : Nat) : Int)
/-- The slice v is a row that the call made (its block from B on), and holds xs. -/
def Ow (w : World) (B : Nat) (v : Value) (xs : List Nat) : Prop := w.ownsRow B 3 1 v xs.length (xs.map iv)
theorem Ow.nil (w : World) (B : Nat) : Ow w B (.slice none 0 0) [] := World.ownsRow_nil _ _ _ _
theorem Ow.up {W w1 : World} {B : Nat} {v : Value} {xs : List Nat} (h : Ow W B v xs) (hb : Below W.heap.size W w1) : Ow w1 B v xs := by
  refine ⟨h.1, ?_⟩
  rcases h.2 with h' | ⟨g, cap, cur, e, hB, hg, rest⟩
  · exact .inl h'
  · exact .inr ⟨g, cap, cur, e, hB, (hb.block g (Array.getElem?_eq_some_iff.1 hg).1).trans hg, rest⟩
theorem Ow.sl {w : World} {B : Nat} {v : Value} {xs : List Nat} (h : Ow w B v xs) : Sl w v xs := by
  rcases h.2 with ⟨e, e2⟩ | ⟨g, cap, cur, e, hB, hg, hn, rest⟩
  · exact .inl ⟨e, List.length_eq_zero_iff.1 e2⟩
  · refine .inr ⟨g, 0, cap, e, hn, fun j hj => ?_⟩
    have h2 : w.ownsRow B 3 1 (.slice (some ⟨g, 0, none⟩) xs.length cap) xs.length (xs.map iv) := by rw [← e]; exact h
    rw [Nat.zero_add, h2.cellAt j (by omega)]
    simp [hj, iv]
theorem Ow.ge {w : World} {B : Nat} {v : Value} {xs : List Nat} (h : Ow w B v xs) : blkGe B v := by
  rcases h.2 with ⟨e, _⟩ | ⟨g, cap, cur, e, hB, _⟩
  · rw [e]; exact trivial
  · rw [e]; exact hB
theorem Ow.size {w : World} {B g n c : Nat} {xs : List Nat} (h : Ow w B (.slice (some ⟨g, 0, none⟩) n c) xs) : g < w.heap.size := (h.lt g rfl).2
theorem wp_app {ops : Array Oper} {rest : List Oper} {o : Oper} {a : Act} {Q : Exit → Act → World → Prop} {w : World} (hgd : o.guard = none) (s x : Operand)
    (ho : o.op = .call { callee := .builtin .append, args := #[s, x], argTypes := #[37, 37] })
    (B : Nat) (v : Value) (xs : List Nat) (y : Nat) (z : Int) (W0 : World) (hs : a.eval s = v) (hown : Ow W0 B v xs) (hup : Below W0.heap.size W0 w) (ad : Addr) (hx : a.eval x = .slice (some ad) 1 1) (hc : w.cell? ad = some (.int .i64 z)) (hz : z = ((y : Nat) : Int))
    (hl : xs.length < 1099511627776) (hB : B ≤ W0.heap.size) (h : ∀ v' w', Ow w' B v' (xs ++ [y]) → Below B W0 w' → wpList Try.prog ops Q rest (a.put o.dst v') w') : wpList Try.prog ops Q (o :: rest) a w := by
  obtain ⟨i0, hi, hz0, hz1, hz2⟩ := info_parts Try.iInt
  subst hz
  have hs0 := hup.size
  refine wpList_append_own w hgd s x 37 ho B 3 i0 (.int .i64 0) 1 8 Try.uInts hi hz0 hz1 hz2 rfl (by decide) v xs.length (xs.map iv) hs (hown.up hup) ad 1 1 [iv y] hx rfl ?_ ?_ ?_ ?_ ?_ ?_
  · intro j u hj
    match j, hj with
    | 0, hj => simp at hj; subst hj; simpa [Addr.add] using hc
  · intro u hu; simp at hu; subst hu; rfl
  · unfold maxLen; omega
  · omega
  · omega
  · intro v' w' hown' hg _
    refine h v' w' ?_ ?_
    · unfold Ow
      rw [List.map_append, List.length_append]
      exact hown'
    · refine Below.grown (hup.mono hB) hg (by omega) fun k hk => ?_
      exact ((hown.up hup).lt k hk).1
end Go.Proofs.Ytdcpicbkemmakaa
