/- Trees of digests as lists: paths climbed from the root's side; how a log's peaks change as leaves are added. Over any nodes. -/
import Derived.Test.YtmpniingbioggaaDoorTMath
namespace Go.Proofs.YtmpniingbioggaaDoor.T
section
variable {D : Type} (nd : D → D → D)
/-- How many there are, k floors up. -/
def upL : Nat → Nat → Nat
  | 0, n => n
  | k + 1, n => upL k ((n + 1) / 2)
theorem chkF_add (a b : Nat) : ∀ (n i : Nat) (d : D) (p : List D), chkF nd (a + b) n i d p = (chkF nd a n i d p).bind fun r => chkF nd b (upL a n) (i / 2 ^ a) r.1 r.2 := by
  induction a with
  | zero => intro n i d p; simp [chkF, upL]
  | succ a ih =>
    intro n i d p
    rw [Nat.succ_add, upL, Nat.pow_succ, Nat.mul_comm (2 ^ a) 2, ← Nat.div_div_eq_div_mul]
    by_cases hx : i ^^^ 1 < n
    · cases p with
      | nil => rw [chkF_nil nd hx, chkF_nil nd hx]; rfl
      | cons x p => rw [chkF_cons nd hx, chkF_cons nd hx, ih]
    · rw [chkF_no nd hx, chkF_no nd hx, ih]
/-- Among the first 2^j how many there are behind them is no matter. -/
theorem chkF_front (j : Nat) : ∀ (n n' i : Nat) (d : D) (p : List D), 2 ^ j ≤ n → 2 ^ j ≤ n' → i < 2 ^ j → chkF nd j n i d p = chkF nd j n' i d p := by
  induction j with
  | zero => intro n n' i d p _ _ _; rfl
  | succ j ih =>
    intro n n' i d p h h' hi
    rw [Nat.pow_succ] at h h' hi
    have hx0 : i ^^^ 1 < 2 ^ j * 2 := by rw [xor_one]; split <;> omega
    have hx : i ^^^ 1 < n := by omega
    have hx' : i ^^^ 1 < n' := by omega
    cases p with
    | nil => rw [chkF_nil nd hx, chkF_nil nd hx']
    | cons x p => rw [chkF_cons nd hx, chkF_cons nd hx', ih _ ((n' + 1) / 2) _ _ _ (by omega) (by omega) (by omega)]
theorem chkF_back (j : Nat) : ∀ (m i : Nat) (d : D) (p : List D), chkF nd j (2 ^ j + m) (2 ^ j + i) d p = chkF nd j m i d p := by
  induction j with
  | zero => intro m i d p; rfl
  | succ j ih =>
    intro m i d p
    rw [Nat.pow_succ, Nat.mul_comm]
    have e : (2 * 2 ^ j + i) ^^^ 1 = 2 * 2 ^ j + (i ^^^ 1) := by
      rw [xor_one, xor_one]
      split <;> split <;> omega
    have e1 : (2 * 2 ^ j + m + 1) / 2 = 2 ^ j + (m + 1) / 2 := by omega
    have e2 : (2 * 2 ^ j + i) / 2 = 2 ^ j + i / 2 := by omega
    have e3 : (2 * 2 ^ j + i) % 2 = i % 2 := by omega
    by_cases hx : i ^^^ 1 < m
    · have hx' : (2 * 2 ^ j + i) ^^^ 1 < 2 * 2 ^ j + m := by omega
      cases p with
      | nil => rw [chkF_nil nd hx, chkF_nil nd hx']
      | cons x p => rw [chkF_cons nd hx, chkF_cons nd hx', e1, e2, e3, ih]
    · have hx' : ¬ (2 * 2 ^ j + i) ^^^ 1 < 2 * 2 ^ j + m := by omega
      rw [chkF_no nd hx, chkF_no nd hx', e1, e2, ih]
theorem upL_two (j : Nat) : ∀ n, 2 ^ j < n → n ≤ 2 ^ (j + 1) → upL j n = 2 := by
  induction j with
  | zero => intro n h1 h2; simp only [upL]; simp at h1 h2; omega
  | succ j ih =>
    intro n h1 h2
    rw [upL]
    refine ih _ ?_ (half_lt h2)
    rw [Nat.pow_succ] at h1
    omega
/-- What a path leads to, if it is as long as it has to be. -/
def fit (n i : Nat) (d : D) (p : List D) : Option D := (chk nd n i d p).bind fun r => match r.2 with | [] => some r.1 | _ => none
theorem chkF_app (k : Nat) : ∀ (n i : Nat) (d e : D) (p r s : List D), chkF nd k n i d p = some (e, r) → chkF nd k n i d (p ++ s) = some (e, r ++ s) := by
  induction k with
  | zero =>
    intro n i d e p r s h
    simp [chkF] at h ⊢
    simp [h]
  | succ k ih =>
    intro n i d e p r s h
    by_cases hx : i ^^^ 1 < n
    · cases p with
      | nil => rw [chkF_nil nd hx] at h; cases h
      | cons x p =>
        rw [chkF_cons nd hx] at h
        rw [List.cons_append, chkF_cons nd hx]
        exact ih _ _ _ _ _ _ _ h
    · rw [chkF_no nd hx] at h ⊢
      exact ih _ _ _ _ _ _ _ h
theorem chkF_split {j n i : Nat} {d : D} {p : List D} (h1 : 2 ^ j < n) (h2 : n ≤ 2 ^ (j + 1)) (hi : i < n) : chk nd n i d p = (chkF nd j n i d p).bind fun r => match r.2 with | [] => none | x :: q => some ((if i < 2 ^ j then nd r.1 x else nd x r.1), q) := by
  rw [← chk_eq nd d p h2 hi, chkF_add nd j 1, upL_two j n h1 h2]
  congr 1
  funext r
  obtain ⟨e, q⟩ := r
  have hq : i / 2 ^ j = if i < 2 ^ j then 0 else 1 := by
    split
    · rename_i h; exact Nat.div_eq_of_lt h
    · rename_i h
      rw [Nat.pow_succ] at h2
      have a1 : i / 2 ^ j < 2 := (Nat.div_lt_iff_lt_mul (Nat.two_pow_pos j)).2 (by omega)
      have a2 : 1 ≤ i / 2 ^ j := (Nat.le_div_iff_mul_le (Nat.two_pow_pos j)).2 (by omega)
      omega
  have hx : i / 2 ^ j ^^^ 1 < 2 := by rw [hq]; split <;> decide
  cases q with
  | nil => rw [chkF_nil nd hx]
  | cons x q =>
    rw [chkF_cons nd hx, chkF, hq]
    by_cases h : i < 2 ^ j <;> simp [h]
theorem fit_nil {n i : Nat} {d : D} (hi : i < n) {j : Nat} (h1 : 2 ^ j < n) (h2 : n ≤ 2 ^ (j + 1)) : fit nd n i d [] = none := by
  rw [fit, chkF_split nd h1 h2 hi]
  have := chk_len nd j n i d []
  rcases Nat.eq_zero_or_pos (lenF j n i) with h | h
  · obtain ⟨e, he⟩ := this.2 (by omega)
    rw [he]
    simp
  · rw [this.1 (by simpa using h)]
    rfl
theorem fit_one {d : D} {p : List D} : fit nd 1 0 d p = if p.length = 0 then some d else none := by
  rw [fit, chk_one]
  cases p <;> simp
theorem fit_snoc_core {j n i : Nat} {d x : D} {q : List D} (C : List D → Option (D × List D)) (hC : ∀ p, C p = chkF nd j n i d p) (f : D → D → D) :
    ((C (q ++ [x])).bind fun r => match r.2 with | [] => none | y :: s => some (f r.1 y, s)).bind (fun r => match r.2 with | [] => some r.1 | _ => none) = ((C q).bind fun r => match r.2 with | [] => some r.1 | _ => none).map (f · x) := by
  rw [hC, hC]
  have a := chk_len nd j n i d (q ++ [x])
  have b := chk_len nd j n i d q
  rw [List.length_append, List.length_singleton] at a
  rcases Nat.lt_trichotomy (lenF j n i) q.length with h | h | h
  · obtain ⟨e, he⟩ := b.2 (by omega)
    rw [chkF_app nd _ _ _ _ _ _ _ [x] he, he]
    cases hd : q.drop (lenF j n i) with
    | nil =>
      have := congrArg List.length hd
      rw [List.length_drop] at this
      simp at this
      omega
    | cons y s => simp
  · obtain ⟨e, he⟩ := b.2 (by omega)
    rw [chkF_app nd _ _ _ _ _ _ _ [x] he, he, h, List.drop_length]
    simp
  · rw [b.1 h]
    rcases Nat.lt_or_ge q.length (lenF j n i - 1) with g | g
    · rw [a.1 (by omega)]
      rfl
    · obtain ⟨e, he⟩ := a.2 (by omega)
      rw [he, List.drop_eq_nil_of_le (by simp; omega)]
      rfl
theorem fit_left {j n i : Nat} {d x : D} {q : List D} (h1 : 2 ^ j < n) (h2 : n ≤ 2 ^ (j + 1)) (hi : i < 2 ^ j) : fit nd n i d (q ++ [x]) = (fit nd (2 ^ j) i d q).map (nd · x) := by
  rw [fit, chkF_split nd h1 h2 (by omega)]
  simp only [if_pos hi]
  have e : ∀ p, chk nd (2 ^ j) i d p = chkF nd j n i d p := fun p => by
    rw [← chk_eq nd d p (Nat.le_refl _) hi, chkF_front nd j (2 ^ j) n i d p (Nat.le_refl _) (by omega) hi]
  rw [fit, ← fit_snoc_core nd (chk nd (2 ^ j) i d) e, e]
theorem fit_right {j n i : Nat} {d x : D} {q : List D} (h1 : 2 ^ j < n) (h2 : n ≤ 2 ^ (j + 1)) (hi : 2 ^ j ≤ i) (hn : i < n) : fit nd n i d (q ++ [x]) = (fit nd (n - 2 ^ j) (i - 2 ^ j) d q).map (nd x ·) := by
  rw [fit, chkF_split nd h1 h2 hn]
  simp only [if_neg (show ¬ i < 2 ^ j by omega)]
  have e : ∀ p, chk nd (n - 2 ^ j) (i - 2 ^ j) d p = chkF nd j n i d p := fun p => by
    rw [Nat.pow_succ] at h2
    rw [← chk_eq nd d p (k := j) (by omega) (by omega), ← chkF_back nd j]
    congr 1 <;> omega
  rw [fit, ← fit_snoc_core nd (chk nd (n - 2 ^ j) (i - 2 ^ j) d) e (fun a b => nd b a), e]
/-- The path of a leaf fits the root. -/
theorem fit_path (d0 : D) {l : List D} {i : Nat} {d : D} (h : l[i]? = some d) : fit nd l.length i d (path nd l i) = some (top nd d0 l) := by
  have hi := (List.getElem?_eq_some_iff.1 h).1
  have hn : l.length ≤ 2 ^ l.length := Nat.le_of_lt Nat.lt_two_pow_self
  obtain ⟨e, h1, h2⟩ := chk_path nd l.length l i d [] h
  rw [upN_top nd d0 hn (by omega), Nat.div_eq_of_lt (by omega)] at h1
  simp at h1
  rw [List.append_nil] at h2
  rw [fit, chk, path, h2, h1]
  rfl
theorem fit_other {n i : Nat} {d : D} {p : List D} (h : p.length ≠ lenF n n i) : fit nd n i d p = none := by
  have a := chk_len nd n n i d p
  rw [fit, chk]
  rcases Nat.lt_or_ge p.length (lenF n n i) with g | g
  · rw [a.1 g]; rfl
  · obtain ⟨e, he⟩ := a.2 g
    rw [he]
    cases hd : p.drop (lenF n n i) with
    | nil =>
      have := congrArg List.length hd
      rw [List.length_drop] at this
      simp at this
      omega
    | cons y s => simp
theorem path_length (l : List D) (i : Nat) : (path nd l i).length = lenF l.length l.length i := pathF_length nd _ _ _
theorem lenF_le (k : Nat) : ∀ n i, lenF k n i ≤ k := by
  induction k with
  | zero => intro n i; exact Nat.le_refl _
  | succ k ih =>
    intro n i
    have := ih ((n + 1) / 2) (i / 2)
    rw [lenF]
    split <;> omega
theorem path_short {k : Nat} {l : List D} {i : Nat} (h : l.length ≤ 2 ^ k) (hi : i < l.length) : (path nd l i).length ≤ k := by
  rw [← path_eq nd h hi, pathF_length]
  exact lenF_le _ _ _
/-- A cut of n, at least 2, into 2^j and the others. -/
theorem cut_ex {n : Nat} (h : 1 < n) : ∃ j, 2 ^ j < n ∧ n ≤ 2 ^ (j + 1) := by
  induction n with
  | zero => omega
  | succ n ih =>
    rcases Nat.lt_or_ge 1 n with h1 | h1
    · obtain ⟨j, a, b⟩ := ih h1
      rcases Nat.lt_or_ge n (2 ^ (j + 1)) with c | c
      · exact ⟨j, by omega, by omega⟩
      · refine ⟨j + 1, by omega, ?_⟩
        rw [Nat.pow_succ]
        omega
    · obtain rfl : n = 1 := by omega
      exact ⟨0, by decide, by decide⟩
end
end Go.Proofs.YtmpniingbioggaaDoor.T
