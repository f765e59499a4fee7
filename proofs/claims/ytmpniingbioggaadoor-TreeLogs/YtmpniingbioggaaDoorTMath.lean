/- Trees of digests as lists, floor by floor; that a tree is a node of its halves; paths and peaks. Over any nodes. -/
import Derived.Test.YtmpniingbioggaaDoorRows
namespace Go.Proofs.YtmpniingbioggaaDoor.T
section
variable {D : Type} (nd : D → D → D)
/-- The floor above: in twos; the last one alone goes up as it is. -/
def floorL : List D → List D
  | a :: b :: l => nd a b :: floorL l
  | l => l
/-- k floors up. -/
def upN : Nat → List D → List D
  | 0, l => l
  | k + 1, l => upN k (floorL nd l)
theorem floorL_length : ∀ l : List D, (floorL nd l).length = (l.length + 1) / 2
  | [] => by simp [floorL]
  | [_] => by simp [floorL]
  | a :: b :: l => by
    rw [floorL, List.length_cons, floorL_length l, List.length_cons, List.length_cons]
    omega
theorem floorL_one : ∀ {l : List D}, l.length ≤ 1 → floorL nd l = l
  | [], _ => by simp [floorL]
  | [_], _ => by simp [floorL]
  | _ :: _ :: _, h => by simp at h
theorem floorL_append : ∀ (l m : List D), l.length % 2 = 0 → floorL nd (l ++ m) = floorL nd l ++ floorL nd m
  | [], m, _ => by simp [floorL]
  | [_], m, h => by simp at h
  | a :: b :: l, m, h => by
    have := floorL_append l m (by simp only [List.length_cons] at h; omega)
    rw [List.cons_append, List.cons_append, floorL, floorL, this, List.cons_append]
theorem upN_one (k : Nat) : ∀ {l : List D}, l.length ≤ 1 → upN nd k l = l := by
  induction k with
  | zero => intro l _; rfl
  | succ k ih => intro l h; rw [upN, floorL_one nd h, ih h]
theorem upN_add (a b : Nat) : ∀ l : List D, upN nd (a + b) l = upN nd b (upN nd a l) := by
  induction a with
  | zero => intro l; rw [Nat.zero_add]; rfl
  | succ a ih => intro l; rw [Nat.succ_add, upN, ih, upN]
theorem upN_succ (k : Nat) (l : List D) : upN nd (k + 1) l = floorL nd (upN nd k l) := by
  rw [upN_add nd k 1 l]; rfl
theorem half_lt {n k : Nat} (h : n ≤ 2 ^ (k + 1)) : (n + 1) / 2 ≤ 2 ^ k := by
  rw [Nat.pow_succ] at h
  omega
theorem upN_le (k : Nat) : ∀ {l : List D}, l.length ≤ 2 ^ k → (upN nd k l).length ≤ 1 := by
  induction k with
  | zero => intro l h; simpa [upN] using h
  | succ k ih =>
    intro l h
    rw [upN]
    exact ih (by rw [floorL_length]; exact half_lt h)
theorem upN_pos (k : Nat) : ∀ {l : List D}, 0 < l.length → 0 < (upN nd k l).length := by
  induction k with
  | zero => intro l h; exact h
  | succ k ih => intro l h; rw [upN]; exact ih (by rw [floorL_length]; omega)
theorem upN_len_of_pow (j : Nat) : ∀ {l : List D} (c : Nat), l.length = 2 ^ j * c → (upN nd j l).length = c := by
  induction j with
  | zero => intro l c h; simpa [upN] using h
  | succ j ih =>
    intro l c h
    rw [upN]
    refine ih c ?_
    rw [floorL_length, h, Nat.pow_succ]
    have : 2 ^ j * 2 * c = 2 * (2 ^ j * c) := by rw [Nat.mul_comm (2 ^ j) 2, Nat.mul_assoc]
    omega
theorem upN_append (j : Nat) : ∀ (l m : List D), l.length % 2 ^ j = 0 → upN nd j (l ++ m) = upN nd j l ++ upN nd j m := by
  induction j with
  | zero => intro l m _; rfl
  | succ j ih =>
    intro l m h
    obtain ⟨c, hc⟩ := Nat.dvd_of_mod_eq_zero h
    have e2 : l.length = 2 * (2 ^ j * c) := by rw [hc, Nat.pow_succ, Nat.mul_comm (2 ^ j) 2, Nat.mul_assoc]
    rw [upN, floorL_append nd l m (by omega), ih _ _ ?_]
    · rfl
    · rw [floorL_length, e2, show (2 * (2 ^ j * c) + 1) / 2 = 2 ^ j * c by omega]
      exact Nat.mul_mod_right _ _
variable (d0 : D)
/-- The root of leaves (d0: of none). -/
def top (l : List D) : D := (upN nd l.length l).headD d0
theorem upN_top {k : Nat} {l : List D} (h : l.length ≤ 2 ^ k) (hp : 0 < l.length) : upN nd k l = [top nd d0 l] := by
  have key : ∀ k, l.length ≤ 2 ^ k → upN nd k l = [(upN nd k l).headD d0] := fun k h => by
    have h1 := upN_le nd k h
    have h2 := upN_pos nd k hp
    match e : upN nd k l, h1, h2 with
    | [x], _, _ => rfl
  have hn : l.length ≤ 2 ^ l.length := Nat.le_of_lt Nat.lt_two_pow_self
  have ea := key k h
  have eb := key l.length hn
  rw [top]
  have e3 : upN nd (k + l.length) l = upN nd k l := by rw [upN_add]; exact upN_one nd _ (upN_le nd k h)
  have e4 : upN nd (l.length + k) l = upN nd l.length l := by rw [upN_add]; exact upN_one nd _ (upN_le nd _ hn)
  rw [Nat.add_comm] at e4
  rw [← e3, e4]
  exact eb
theorem top_one (d : D) : top nd d0 [d] = d := rfl
/-- A tree of a power of 2, and no more others behind it, is a node of both. -/
theorem top_split {j : Nat} {l m : List D} (hl : l.length = 2 ^ j) (hm : m.length ≤ 2 ^ j) (hp : 0 < m.length) : top nd d0 (l ++ m) = nd (top nd d0 l) (top nd d0 m) := by
  have h1 : (l ++ m).length ≤ 2 ^ (j + 1) := by rw [List.length_append, Nat.pow_succ]; omega
  have h2 : 0 < (l ++ m).length := by rw [List.length_append]; omega
  have h3 : 0 < l.length := by rw [hl]; exact Nat.two_pow_pos j
  have e := upN_top nd d0 h1 h2
  rw [upN_succ, upN_append nd j l m (by rw [hl]; exact Nat.mod_self _), upN_top nd d0 (by rw [hl]; exact Nat.le_refl _) h3, upN_top nd d0 hm hp] at e
  simpa [floorL] using e.symm
/-- A floor more changes no root. -/
theorem top_floor {l : List D} (hp : 0 < l.length) : top nd d0 (floorL nd l) = top nd d0 l := by
  have hn : l.length ≤ 2 ^ l.length := Nat.le_of_lt Nat.lt_two_pow_self
  have hf : (floorL nd l).length ≤ 2 ^ l.length := by rw [floorL_length]; omega
  have hfp : 0 < (floorL nd l).length := by rw [floorL_length]; omega
  have e1 := upN_top nd d0 hf hfp
  have e2 : upN nd l.length (floorL nd l) = upN nd (l.length + 1) l := rfl
  rw [e2, upN_succ, upN_top nd d0 hn hp, floorL_one nd (by simp)] at e1
  simpa using e1.symm
/-- Who stands beside, floor by floor, k floors up. -/
def pathF : Nat → List D → Nat → List D
  | 0, _, _ => []
  | k + 1, l, i => (l[i ^^^ 1]?).toList ++ pathF k (floorL nd l) (i / 2)
theorem xor_one (i : Nat) : i ^^^ 1 = if i % 2 = 0 then i + 1 else i - 1 := by
  have h1 : (i ^^^ 1) / 2 = i / 2 := by rw [Nat.xor_div_two]; simp
  have h2 : (i ^^^ 1) % 2 = (i + 1) % 2 := by
    have := Nat.xor_mod_two_pow (a := i) (b := 1) (n := 1)
    rw [Nat.pow_one] at this
    rw [this]
    rcases Nat.mod_two_eq_zero_or_one i with h | h <;> rw [h] <;> simp <;> omega
  split <;> omega
theorem xor_even {i : Nat} (h : i % 2 = 0) : i ^^^ 1 = i + 1 := by rw [xor_one, if_pos h]
theorem xor_odd {i : Nat} (h : i % 2 = 1) : i ^^^ 1 = i - 1 := by rw [xor_one, if_neg (by omega)]
theorem pathF_add (a b : Nat) : ∀ (l : List D) (i : Nat), pathF nd (a + b) l i = pathF nd a l i ++ pathF nd b (upN nd a l) (i / 2 ^ a) := by
  induction a with
  | zero => intro l i; simp [pathF, upN]
  | succ a ih =>
    intro l i
    rw [Nat.succ_add, pathF, pathF, ih, upN, Nat.div_div_eq_div_mul, List.append_assoc, Nat.pow_succ, Nat.mul_comm 2]
theorem pathF_one (k : Nat) : ∀ {l : List D}, l.length ≤ 1 → pathF nd k l 0 = [] := by
  induction k with
  | zero => intro l _; rfl
  | succ k ih =>
    intro l h
    rw [pathF, floorL_one nd h, ih h, List.getElem?_eq_none (by simpa using h)]
    rfl
/-- Among the first of a list whose length is a multiple of 2^j. -/
theorem pathF_left (j : Nat) : ∀ (l m : List D) (i : Nat), l.length % 2 ^ j = 0 → i < l.length → pathF nd j (l ++ m) i = pathF nd j l i := by
  induction j with
  | zero => intro l m i _ _; rfl
  | succ j ih =>
    intro l m i h hi
    obtain ⟨c, hc⟩ := Nat.dvd_of_mod_eq_zero h
    have e2 : l.length = 2 * (2 ^ j * c) := by rw [hc, Nat.pow_succ, Nat.mul_comm (2 ^ j) 2, Nat.mul_assoc]
    rw [pathF, pathF, floorL_append nd l m (by omega), ih _ _ _ ?_ ?_, List.getElem?_append_left]
    · rw [xor_one]; split <;> omega
    · rw [floorL_length, e2, show (2 * (2 ^ j * c) + 1) / 2 = 2 ^ j * c by omega]
      exact Nat.mul_mod_right _ _
    · rw [floorL_length]; omega
theorem pathF_right (j : Nat) : ∀ (l m : List D) (i : Nat), l.length % 2 ^ j = 0 → pathF nd j (l ++ m) (l.length + i) = pathF nd j m i := by
  induction j with
  | zero => intro l m i _; rfl
  | succ j ih =>
    intro l m i h
    obtain ⟨c, hc⟩ := Nat.dvd_of_mod_eq_zero h
    have e2 : l.length = 2 * (2 ^ j * c) := by rw [hc, Nat.pow_succ, Nat.mul_comm (2 ^ j) 2, Nat.mul_assoc]
    have e3 : (l.length + i) / 2 = (floorL nd l).length + i / 2 := by rw [floorL_length]; omega
    have e4 : (l.length + i) ^^^ 1 = l.length + (i ^^^ 1) := by
      rw [xor_one, xor_one]
      split <;> split <;> omega
    rw [pathF, pathF, floorL_append nd l m (by omega), e3, ih _ _ _ ?_, e4, List.getElem?_append_right (by omega), Nat.add_sub_cancel_left]
    rw [floorL_length, e2, show (2 * (2 ^ j * c) + 1) / 2 = 2 ^ j * c by omega]
    exact Nat.mul_mod_right _ _
/-- A path's last is the other half's root. -/
theorem path_left {j : Nat} {l m : List D} {i : Nat} (hl : l.length = 2 ^ j) (hm : m.length ≤ 2 ^ j) (hp : 0 < m.length) (hi : i < l.length) : pathF nd (j + 1) (l ++ m) i = pathF nd j l i ++ [top nd d0 m] := by
  have hmod : l.length % 2 ^ j = 0 := by rw [hl]; exact Nat.mod_self _
  have h3 : 0 < l.length := by omega
  rw [pathF_add nd j 1, pathF_left nd j l m i hmod hi, upN_append nd j l m hmod, upN_top nd d0 (by omega) h3, upN_top nd d0 hm hp, Nat.div_eq_of_lt (by omega)]
  simp [pathF]
theorem path_right {j : Nat} {l m : List D} {i : Nat} (hl : l.length = 2 ^ j) (hm : m.length ≤ 2 ^ j) (hi : i < m.length) : pathF nd (j + 1) (l ++ m) (l.length + i) = pathF nd j m i ++ [top nd d0 l] := by
  have hmod : l.length % 2 ^ j = 0 := by rw [hl]; exact Nat.mod_self _
  have h3 : 0 < l.length := by rw [hl]; exact Nat.two_pow_pos j
  have hd : (l.length + i) / 2 ^ j = 1 := by
    rw [hl, Nat.add_div_left _ (Nat.two_pow_pos j), Nat.div_eq_of_lt (by omega)]
  rw [pathF_add nd j 1, pathF_right nd j l m i hmod, upN_append nd j l m hmod, upN_top nd d0 (by omega) h3, upN_top nd d0 hm (by omega), hd]
  simp [pathF]
/-- More floors than there are give no more. -/
theorem pathF_more {k j : Nat} {l : List D} {i : Nat} (h : l.length ≤ 2 ^ k) (hi : i < l.length) : pathF nd (k + j) l i = pathF nd k l i := by
  rw [pathF_add, Nat.div_eq_of_lt (by omega), pathF_one nd j (upN_le nd k h), List.append_nil]
/-- The path of i. -/
def path (l : List D) (i : Nat) : List D := pathF nd l.length l i
theorem path_eq {k : Nat} {l : List D} {i : Nat} (h : l.length ≤ 2 ^ k) (hi : i < l.length) : pathF nd k l i = path nd l i := by
  have hn : l.length ≤ 2 ^ l.length := Nat.le_of_lt Nat.lt_two_pow_self
  rw [path, ← pathF_more nd (j := l.length) h hi, Nat.add_comm, pathF_more nd hn hi]
theorem path_step {l : List D} {i : Nat} (hi : i < l.length) : path nd l i = (l[i ^^^ 1]?).toList ++ path nd (floorL nd l) (i / 2) := by
  have hn : l.length ≤ 2 ^ (l.length + 1) := Nat.le_of_lt (Nat.lt_trans (Nat.lt_succ_self _) Nat.lt_two_pow_self)
  have hf : (floorL nd l).length ≤ 2 ^ l.length := by
    have : l.length < 2 ^ l.length := Nat.lt_two_pow_self
    rw [floorL_length]
    omega
  rw [← path_eq nd hn hi, pathF, path_eq nd hf (by rw [floorL_length]; omega)]
theorem path_one {l : List D} (h : l.length ≤ 1) : path nd l 0 = [] := pathF_one nd _ h
/-- What a path checks, floor by floor: n leaves, place i, the digest d so far. None: a path that is too short. -/
def chkF : Nat → Nat → Nat → D → List D → Option (D × List D)
  | 0, _, _, d, p => some (d, p)
  | k + 1, n, i, d, p =>
    if i ^^^ 1 < n then
      match p with
      | [] => none
      | x :: p => chkF k ((n + 1) / 2) (i / 2) (if i % 2 = 0 then nd d x else nd x d) p
    else chkF k ((n + 1) / 2) (i / 2) d p
theorem chkF_nil {k n i : Nat} {d : D} (hx : i ^^^ 1 < n) : chkF nd (k + 1) n i d [] = none := by
  simp [chkF, hx]
theorem chkF_cons {k n i : Nat} {d x : D} {p : List D} (hx : i ^^^ 1 < n) : chkF nd (k + 1) n i d (x :: p) = chkF nd k ((n + 1) / 2) (i / 2) (if i % 2 = 0 then nd d x else nd x d) p := by
  simp [chkF, hx]
theorem chkF_no {k n i : Nat} {d : D} {p : List D} (hx : ¬ i ^^^ 1 < n) : chkF nd (k + 1) n i d p = chkF nd k ((n + 1) / 2) (i / 2) d p := by
  cases p <;> simp [chkF, hx]
theorem chkF_one (k : Nat) : ∀ {n : Nat} (d : D) (p : List D), n ≤ 1 → chkF nd k n 0 d p = some (d, p) := by
  induction k with
  | zero => intro n d p _; cases p <;> rfl
  | succ k ih =>
    intro n d p h
    have e : (0 : Nat) ^^^ 1 = 1 := rfl
    rw [chkF_no nd (by rw [e]; omega), ih d p (by omega)]
/-- More floors than there are check no more. -/
theorem chkF_more (k e : Nat) : ∀ {n i : Nat} (d : D) (p : List D), n ≤ 2 ^ k → i < n → chkF nd (k + e) n i d p = chkF nd k n i d p := by
  induction k with
  | zero =>
    intro n i d p h hi
    rw [Nat.pow_zero] at h
    obtain rfl : i = 0 := by omega
    rw [chkF_one nd _ d p h, chkF_one nd _ d p h]
  | succ k ih =>
    intro n i d p h hi
    have hh := half_lt h
    rw [Nat.succ_add]
    by_cases hx : i ^^^ 1 < n
    · cases p with
      | nil => rw [chkF_nil nd hx, chkF_nil nd hx]
      | cons x p => rw [chkF_cons nd hx, chkF_cons nd hx, ih _ _ hh (by omega)]
    · rw [chkF_no nd hx, chkF_no nd hx, ih _ _ hh (by omega)]
/-- What a path of place i among n checks. -/
def chk (n i : Nat) (d : D) (p : List D) : Option (D × List D) := chkF nd n n i d p
theorem chk_eq {k n i : Nat} (d : D) (p : List D) (h : n ≤ 2 ^ k) (hi : i < n) : chkF nd k n i d p = chk nd n i d p := by
  have hn : n ≤ 2 ^ n := Nat.le_of_lt Nat.lt_two_pow_self
  rw [chk, ← chkF_more nd k n d p h hi, Nat.add_comm, chkF_more nd n k d p hn hi]
theorem chk_fuel {n : Nat} (hn : 1 < n) : n ≤ 2 ^ ((n - 1) + 1) ∧ (n + 1) / 2 ≤ 2 ^ (n - 1) := by
  have h1 : n - 1 < 2 ^ (n - 1) := Nat.lt_two_pow_self
  rw [Nat.pow_succ]
  omega
theorem chk_nil {n i : Nat} {d : D} (hn : 1 < n) (hi : i < n) (hx : i ^^^ 1 < n) : chk nd n i d [] = none := by
  rw [← chk_eq nd d [] (chk_fuel hn).1 hi, chkF_nil nd hx]
theorem chk_cons {n i : Nat} {d x : D} {p : List D} (hn : 1 < n) (hi : i < n) (hx : i ^^^ 1 < n) : chk nd n i d (x :: p) = chk nd ((n + 1) / 2) (i / 2) (if i % 2 = 0 then nd d x else nd x d) p := by
  rw [← chk_eq nd d (x :: p) (chk_fuel hn).1 hi, chkF_cons nd hx, chk_eq nd _ p (chk_fuel hn).2 (by omega)]
theorem chk_no {n i : Nat} {d : D} {p : List D} (hn : 1 < n) (hi : i < n) (hx : ¬ i ^^^ 1 < n) : chk nd n i d p = chk nd ((n + 1) / 2) (i / 2) d p := by
  rw [← chk_eq nd d p (chk_fuel hn).1 hi, chkF_no nd hx, chk_eq nd _ p (chk_fuel hn).2 (by omega)]
theorem chk_one {d : D} {p : List D} : chk nd 1 0 d p = some (d, p) := chkF_one nd 1 d p (Nat.le_refl _)
theorem floorL_two : ∀ (l : List D) (j : Nat) (a b : D), l[2 * j]? = some a → l[2 * j + 1]? = some b → (floorL nd l)[j]? = some (nd a b)
  | [], j, a, b, h, _ => by simp at h
  | [x], j, a, b, _, h => by simp at h
  | x :: y :: l, 0, a, b, h, h' => by
    simp at h h'
    simp [floorL, h, h']
  | x :: y :: l, j + 1, a, b, h, h' => by
    rw [floorL, List.getElem?_cons_succ]
    refine floorL_two l j a b ?_ ?_
    · rw [show 2 * (j + 1) = 2 * j + 1 + 1 by omega, List.getElem?_cons_succ, List.getElem?_cons_succ] at h
      exact h
    · rw [show 2 * (j + 1) + 1 = 2 * j + 1 + 1 + 1 by omega, List.getElem?_cons_succ, List.getElem?_cons_succ] at h'
      exact h'
theorem floorL_lone : ∀ (l : List D) (j : Nat) (a : D), l[2 * j]? = some a → l.length ≤ 2 * j + 1 → (floorL nd l)[j]? = some a
  | [], j, a, h, _ => by simp at h
  | [x], 0, a, h, _ => by simpa [floorL] using h
  | [x], j + 1, a, h, _ => by simp at h
  | x :: y :: l, 0, a, _, h => by simp at h
  | x :: y :: l, j + 1, a, h, h' => by
    rw [floorL, List.getElem?_cons_succ]
    refine floorL_lone l j a ?_ (by simp only [List.length_cons] at h'; omega)
    rw [show 2 * (j + 1) = 2 * j + 1 + 1 by omega, List.getElem?_cons_succ, List.getElem?_cons_succ] at h
    exact h
theorem floorL_pair {l : List D} {i : Nat} {d x : D} (h : l[i]? = some d) (h' : l[i ^^^ 1]? = some x) : (floorL nd l)[i / 2]? = some (if i % 2 = 0 then nd d x else nd x d) := by
  rcases Nat.mod_two_eq_zero_or_one i with e | e
  · rw [if_pos e]
    rw [xor_even e] at h'
    exact floorL_two nd l (i / 2) d x (by rw [show 2 * (i / 2) = i by omega]; exact h) (by rw [show 2 * (i / 2) + 1 = i + 1 by omega]; exact h')
  · rw [if_neg (by omega)]
    rw [xor_odd e] at h'
    exact floorL_two nd l (i / 2) x d (by rw [show 2 * (i / 2) = i - 1 by omega]; exact h') (by rw [show 2 * (i / 2) + 1 = i by omega]; exact h)
theorem floorL_alone {l : List D} {i : Nat} {d : D} (h : l[i]? = some d) (h' : ¬ i ^^^ 1 < l.length) : (floorL nd l)[i / 2]? = some d := by
  have hi := (List.getElem?_eq_some_iff.1 h).1
  rcases Nat.mod_two_eq_zero_or_one i with e | e
  · rw [xor_even e] at h'
    exact floorL_lone nd l (i / 2) d (by rw [show 2 * (i / 2) = i by omega]; exact h) (by omega)
  · rw [xor_odd e] at h'
    omega
/-- The path of a leaf leads to the root; what is behind it is left. -/
theorem chk_path (k : Nat) : ∀ (l : List D) (i : Nat) (d : D) (rest : List D), l[i]? = some d → ∃ e, (upN nd k l)[i / 2 ^ k]? = some e ∧ chkF nd k l.length i d (pathF nd k l i ++ rest) = some (e, rest) := by
  induction k with
  | zero => intro l i d rest h; exact ⟨d, by simpa [upN] using h, by simp [chkF, pathF]⟩
  | succ k ih =>
    intro l i d rest h
    rw [pathF, upN, Nat.pow_succ, Nat.mul_comm, ← Nat.div_div_eq_div_mul]
    by_cases hx : i ^^^ 1 < l.length
    · have e := List.getElem?_eq_getElem hx
      obtain ⟨r, h1, h2⟩ := ih (floorL nd l) (i / 2) _ rest (floorL_pair nd h e)
      refine ⟨r, h1, ?_⟩
      rw [floorL_length] at h2
      rw [e, Option.toList_some, List.append_assoc, List.singleton_append, chkF_cons nd hx]
      exact h2
    · rw [chkF_no nd hx]
      obtain ⟨r, h1, h2⟩ := ih (floorL nd l) (i / 2) _ rest (floorL_alone nd h hx)
      refine ⟨r, h1, ?_⟩
      rw [floorL_length] at h2
      rw [List.getElem?_eq_none (by omega)]
      simpa using h2
/-- How many a path of place i among n has, k floors up. -/
def lenF : Nat → Nat → Nat → Nat
  | 0, _, _ => 0
  | k + 1, n, i => (if i ^^^ 1 < n then 1 else 0) + lenF k ((n + 1) / 2) (i / 2)
theorem pathF_length (k : Nat) : ∀ (l : List D) (i : Nat), (pathF nd k l i).length = lenF k l.length i := by
  induction k with
  | zero => intro l i; rfl
  | succ k ih =>
    intro l i
    rw [pathF, lenF, List.length_append, ih, floorL_length]
    by_cases hx : i ^^^ 1 < l.length
    · rw [if_pos hx, List.getElem?_eq_getElem hx]; rfl
    · rw [if_neg hx, List.getElem?_eq_none (by omega)]; rfl
/-- What is checked takes just so many. -/
theorem chk_len (k : Nat) : ∀ (n i : Nat) (d : D) (p : List D), (p.length < lenF k n i → chkF nd k n i d p = none) ∧ (lenF k n i ≤ p.length → ∃ e, chkF nd k n i d p = some (e, p.drop (lenF k n i))) := by
  induction k with
  | zero => intro n i d p; exact ⟨fun h => by simp [lenF] at h, fun _ => ⟨d, by simp [chkF, lenF]⟩⟩
  | succ k ih =>
    intro n i d p
    rw [lenF]
    by_cases hx : i ^^^ 1 < n
    · rw [if_pos hx]
      cases p with
      | nil => exact ⟨fun _ => chkF_nil nd hx, fun h => by simp at h⟩
      | cons x p =>
        rw [chkF_cons nd hx]
        obtain ⟨h1, h2⟩ := ih ((n + 1) / 2) (i / 2) (if i % 2 = 0 then nd d x else nd x d) p
        refine ⟨fun h => h1 (by simp only [List.length_cons] at h; omega), fun h => ?_⟩
        obtain ⟨e, he⟩ := h2 (by simp only [List.length_cons] at h; omega)
        exact ⟨e, by rw [he, Nat.add_comm 1, List.drop_succ_cons]⟩
    · rw [if_neg hx, chkF_no nd hx, Nat.zero_add]
      exact ih _ _ _ _
theorem bit_zero {a b : Nat} (h : a / b < 2) (h' : ¬ a / b % 2 = 1) : a / b = 0 := by
  generalize a / b = q at *
  omega
theorem bit_one {a b : Nat} (h' : a / b % 2 = 1) : 1 ≤ a / b := by
  generalize a / b = q at *
  omega
theorem below_two {a k : Nat} (h : a < 2 ^ k * 2) : a / 2 ^ k < 2 := (Nat.div_lt_iff_lt_mul (Nat.two_pow_pos k)).2 (by omega)
/-- The peaks: of how many there are, written as a sum of powers of 2 below 2^k, the greatest first. -/
def peaksF : Nat → List D → List D
  | 0, _ => []
  | k + 1, l => if l.length / 2 ^ k % 2 = 1 then top nd d0 (l.take (2 ^ k)) :: peaksF k (l.drop (2 ^ k)) else peaksF k l
/-- The root by the peaks, from the last one on. -/
def foldP : List D → D
  | [] => d0
  | [d] => d
  | a :: b :: l => nd a (foldP (b :: l))
theorem foldP_cons (a : D) {l : List D} (h : 0 < l.length) : foldP nd d0 (a :: l) = nd a (foldP nd d0 l) := by
  cases l with
  | nil => simp at h
  | cons b l => rfl
theorem peaksF_pos (k : Nat) : ∀ {l : List D}, 0 < l.length → l.length < 2 ^ k → 0 < (peaksF nd d0 k l).length := by
  induction k with
  | zero => intro l h1 h2; rw [Nat.pow_zero] at h2; omega
  | succ k ih =>
    intro l h1 h2
    rw [peaksF]
    split
    · simp
    · rename_i h
      refine ih h1 ?_
      rw [Nat.pow_succ] at h2
      have h4 : l.length / 2 ^ k = 0 := bit_zero (below_two h2) h
      exact (Nat.div_eq_zero_iff_lt (Nat.two_pow_pos k)).1 h4
/-- A root is known by the peaks alone. -/
theorem fold_peaks (k : Nat) : ∀ {l : List D}, 0 < l.length → l.length < 2 ^ k → foldP nd d0 (peaksF nd d0 k l) = top nd d0 l := by
  induction k with
  | zero => intro l h1 h2; rw [Nat.pow_zero] at h2; omega
  | succ k ih =>
    intro l h1 h2
    rw [peaksF]
    rw [Nat.pow_succ] at h2
    split
    · rename_i h
      have h4 : 2 ^ k ≤ l.length := by
        have := (Nat.le_div_iff_mul_le (Nat.two_pow_pos k)).1 (bit_one h)
        omega
      have lt : (l.take (2 ^ k)).length = 2 ^ k := by rw [List.length_take]; omega
      have ld : (l.drop (2 ^ k)).length = l.length - 2 ^ k := List.length_drop
      rcases Nat.eq_zero_or_pos (l.drop (2 ^ k)).length with hz | hz
      · have e : l.take (2 ^ k) = l := List.take_of_length_le (by omega)
        have e2 : l.drop (2 ^ k) = [] := List.length_eq_zero_iff.1 hz
        have e3 : ∀ k, peaksF nd d0 k ([] : List D) = [] := by
          intro k
          induction k with
          | zero => rfl
          | succ k ih => rw [peaksF, if_neg (by simp), ih]
        rw [e2, e3, e]
        rfl
      · rw [foldP_cons nd d0 _ (peaksF_pos nd d0 k hz (by omega)), ih hz (by omega), ← top_split nd d0 lt (by omega) hz, List.take_append_drop]
    · rename_i h
      refine ih h1 ?_
      have h4 : l.length / 2 ^ k = 0 := bit_zero (below_two h2) h
      exact (Nat.div_eq_zero_iff_lt (Nat.two_pow_pos k)).1 h4
theorem floorL_all {P : D → Prop} (hn : ∀ a b, P (nd a b)) : ∀ {l : List D}, (∀ x ∈ l, P x) → ∀ x ∈ floorL nd l, P x
  | [], _ => by simp [floorL]
  | [_], h => by simpa [floorL] using h
  | a :: b :: l, h => by
    intro x hx
    rw [floorL] at hx
    rcases List.mem_cons.1 hx with rfl | hx
    · exact hn _ _
    · exact floorL_all hn (fun y hy => h y (by simp [hy])) x hx
theorem upN_all {P : D → Prop} (hn : ∀ a b, P (nd a b)) (k : Nat) : ∀ {l : List D}, (∀ x ∈ l, P x) → ∀ x ∈ upN nd k l, P x := by
  induction k with
  | zero => intro l h; exact h
  | succ k ih => intro l h; rw [upN]; exact ih (floorL_all nd hn h)
theorem top_all {P : D → Prop} (hn : ∀ a b, P (nd a b)) (h0 : P d0) {l : List D} (h : ∀ x ∈ l, P x) : P (top nd d0 l) := by
  have hu := upN_all nd hn l.length h
  rw [top]
  cases e : upN nd l.length l with
  | nil => exact h0
  | cons a m => exact hu a (by rw [e]; simp)
theorem pathF_all {P : D → Prop} (hn : ∀ a b, P (nd a b)) (k : Nat) : ∀ {l : List D} (i : Nat), (∀ x ∈ l, P x) → ∀ x ∈ pathF nd k l i, P x := by
  induction k with
  | zero => intro l i _ x hx; cases hx
  | succ k ih =>
    intro l i h x hx
    rw [pathF] at hx
    rcases List.mem_append.1 hx with hx | hx
    · exact h x (List.mem_of_getElem? (Option.mem_toList.1 hx))
    · exact ih _ (floorL_all nd hn h) x hx
theorem peaksF_all {P : D → Prop} (hn : ∀ a b, P (nd a b)) (h0 : P d0) (k : Nat) : ∀ {l : List D}, (∀ x ∈ l, P x) → ∀ x ∈ peaksF nd d0 k l, P x := by
  induction k with
  | zero => intro l _ x hx; cases hx
  | succ k ih =>
    intro l h x hx
    rw [peaksF] at hx
    split at hx
    · rcases List.mem_cons.1 hx with rfl | hx
      · exact top_all nd d0 hn h0 (fun y hy => h y (List.mem_of_mem_take hy))
      · exact ih (fun y hy => h y (List.mem_of_mem_drop hy)) x hx
    · exact ih h x hx
end
end Go.Proofs.YtmpniingbioggaaDoor.T
