/- What is changed in a block of what was sealed spoils that block alone, and the next one just where it was changed: over lists. -/
import Derived.Test.YtmfbdacalenfdabMdMath
namespace Go.Proofs.Ytmfbdacalenfdab.A
/-- A byte of what is opened, by its place. -/
theorem openB_get {ws : List (List Nat)} : ∀ (K : Nat) {iv c : List Nat}, iv.length = 16 → c.length = 16 * K → ∀ i, i < 16 * K → (openB ws K iv c).getD i 0 = (decS ws ((c.drop (16 * (i / 16))).take 16)).getD (i % 16) 0 ^^^ (iv ++ c).getD i 0
  | 0, _, _, _, _, i, hi => absurd hi (by omega)
  | K + 1, iv, c, h1, h2, i, hi => by
    have ht : (c.take 16).length = 16 := by rw [List.length_take]; omega
    rw [openB]
    rcases Nat.lt_or_ge i 16 with h | h
    · have e0 : i / 16 = 0 := by omega
      have e1 : i % 16 = i := by omega
      rw [e0, e1, Nat.mul_zero, List.drop_zero, List.getD_eq_getElem?_getD, List.getElem?_append_left (by unfold addK; rw [by_length]; exact h), ← List.getD_eq_getElem?_getD]
      unfold addK
      rw [by_get h]
      congr 1
      rw [List.getD_eq_getElem?_getD, List.getD_eq_getElem?_getD, List.getElem?_append_left (by omega)]
    · have ih := openB_get (ws := ws) K (iv := c.take 16) (c := c.drop 16) ht (by rw [List.length_drop]; omega) (i - 16) (by omega)
      have hl : (addK (decS ws (c.take 16)) iv).length = 16 := by unfold addK; rw [by_length]
      rw [List.getD_eq_getElem?_getD, List.getElem?_append_right (by omega), hl, ← List.getD_eq_getElem?_getD, ih]
      have d1 : (i - 16) / 16 + 1 = i / 16 := by omega
      have d2 : (i - 16) % 16 = i % 16 := by omega
      rw [List.drop_drop, show 16 + 16 * ((i - 16) / 16) = 16 * (i / 16) by omega, d2, List.take_append_drop]
      congr 1
      rw [List.getD_eq_getElem?_getD, List.getD_eq_getElem?_getD, List.getElem?_append_right (by omega), h1]
theorem getD_setD (l : List Nat) (a x i : Nat) (ha : a < l.length) : (l.set a x).getD i 0 = if a = i then x else l.getD i 0 := by
  rw [List.getD_eq_getElem?_getD, List.getElem?_set]
  by_cases e : a = i
  · subst e; simp [ha]
  · simp [e, List.getD_eq_getElem?_getD]
/-- One byte is another: what is opened, elsewhere. -/
theorem open_heals {ws : List (List Nat)} {K : Nat} {iv c : List Nat} (hi : iv.length = 16) (hc : c.length = 16 * K) {a y : Nat} (ha : a < c.length) {i : Nat} (h : i < 16 * K) (hne : i / 16 ≠ a / 16) :
    (openB ws K iv (c.set a (c.getD a 0 ^^^ y))).getD i 0 = (openB ws K iv c).getD i 0 ^^^ (if i = a + 16 then y else 0) := by
  rw [openB_get K hi (by rw [List.length_set]; exact hc) i h, openB_get K hi hc i h]
  have e1 : ((c.set a (c.getD a 0 ^^^ y)).drop (16 * (i / 16))).take 16 = (c.drop (16 * (i / 16))).take 16 := by
    apply List.ext_getElem?
    intro j
    rw [List.getElem?_take, List.getElem?_take]
    split
    · rw [List.getElem?_drop, List.getElem?_drop, List.getElem?_set_ne (by omega)]
    · rfl
  rw [e1, Nat.xor_assoc]
  congr 1
  rcases Nat.lt_or_ge i 16 with hlt | hge
  · have g : ∀ l : List Nat, (iv ++ l).getD i 0 = iv.getD i 0 := fun l => by
      rw [List.getD_eq_getElem?_getD, List.getD_eq_getElem?_getD, List.getElem?_append_left (by omega)]
    rw [if_neg (by omega), Nat.xor_zero, g, g]
  · have g : ∀ l : List Nat, (iv ++ l).getD i 0 = l.getD (i - 16) 0 := fun l => by
      rw [List.getD_eq_getElem?_getD, List.getD_eq_getElem?_getD, List.getElem?_append_right (by omega), hi]
    rw [g, g, getD_setD c a _ (i - 16) ha]
    by_cases e : i = a + 16
    · rw [if_pos e, if_pos (by omega)]
      congr 2
      omega
    · rw [if_neg e, if_neg (by omega), Nat.xor_zero]
/-- The padding is told by the last block alone. -/
theorem padOf_same {O P : List Nat} {n : Nat} (hl : O.length = P.length) (h16 : 16 ≤ P.length) (hs : ∀ i, P.length - 16 ≤ i → i < P.length → O.getD i 0 = P.getD i 0) (h : padOf P = some n) : padOf O = some n := by
  have e1 : O.getD (O.length - 1) 0 = P.getD (P.length - 1) 0 := by rw [hl]; exact hs _ (by omega) (by omega)
  have e2 : ∀ m, m ≤ 16 → O.drop (O.length - m) = P.drop (P.length - m) := fun m hm => by
    rw [hl]
    apply List.ext_getElem?
    intro j
    rw [List.getElem?_drop, List.getElem?_drop]
    rcases Nat.lt_or_ge (P.length - m + j) P.length with h1 | h1
    · have := hs (P.length - m + j) (by omega) h1
      rw [List.getD_eq_getElem?_getD, List.getD_eq_getElem?_getD, List.getElem?_eq_getElem (by omega), List.getElem?_eq_getElem h1] at this
      rw [List.getElem?_eq_getElem (by omega), List.getElem?_eq_getElem h1]
      exact congrArg some this
    · rw [List.getElem?_eq_none (by omega), List.getElem?_eq_none h1]
  unfold padOf at h ⊢
  simp only at h ⊢
  rw [e1]
  split at h
  · cases h
  · rename_i hb
    rw [if_neg hb, e2 _ (by omega)]
    exact h
/-- EHRSAM and others. -/
theorem seal_heals {ws : List (List Nat)} (hw : okW ws) {iv p : List Nat} (hi : ok 16 iv) (hp : ∀ x ∈ p, x < 256) {a y : Nat} (ha : a + 32 < (sealS ws iv p).length) :
    ∃ q, openS ws iv ((sealS ws iv p).set a ((sealS ws iv p).getD a 0 ^^^ y)) = some q ∧ q.length = p.length ∧ ∀ i, i < p.length → i / 16 ≠ a / 16 → q.getD i 0 = p.getD i 0 ^^^ (if i = a + 16 then y else 0) := by
  have hP : ok (16 * (p.length / 16 + 1)) (padS p) := ⟨padS_length p, padS_low hp⟩
  have hS := sealB_ok hw (p.length / 16 + 1) hi hP
  have hn := padN_pos p
  have hl : (padS p).length = p.length + padN p := by unfold padS; rw [List.length_append, List.length_replicate]
  have hos := open_seal hw (p.length / 16 + 1) hi hP
  obtain ⟨K, hK⟩ : ∃ K, K = p.length / 16 + 1 := ⟨_, rfl⟩
  have hc : (sealS ws iv p).length = 16 * K := by rw [hK]; exact hS.1
  have ho : openB ws K iv (sealS ws iv p) = padS p := by rw [hK]; exact hos
  have hpl : (padS p).length = 16 * K := by rw [hK]; exact hP.1
  generalize sealS ws iv p = c at *
  obtain ⟨O, hO⟩ : ∃ O, O = openB ws K iv (c.set a (c.getD a 0 ^^^ y)) := ⟨_, rfl⟩
  have hOl : O.length = 16 * K := by
    rw [hO]
    have : ∀ (k : Nat) {iv c : List Nat}, (openB ws k iv c).length = 16 * k := by
      intro k
      induction k with
      | zero => intro iv c; rfl
      | succ k ih => intro iv c; rw [openB, List.length_append, ih]; unfold addK; rw [by_length]; omega
    exact this K
  have get : ∀ i, i < 16 * K → i / 16 ≠ a / 16 → O.getD i 0 = (padS p).getD i 0 ^^^ (if i = a + 16 then y else 0) := fun i h1 h2 => by
    rw [hO, open_heals hi.1 hc (by omega) h1 h2, ho]
  have hpad : padOf O = some (padN p) := by
    refine padOf_same (P := padS p) (by rw [hOl, hpl]) (by omega) (fun i h1 h2 => ?_) (padOf_pad p)
    rw [get i (by omega) (by omega), if_neg (by omega), Nat.xor_zero]
  refine ⟨O.take (16 * K - padN p), ?_, ?_, fun i h1 h2 => ?_⟩
  · unfold openS
    rw [List.length_set, hc, show 16 * K / 16 = K by omega, ← hO, hpad]
  · rw [List.length_take, hOl]
    omega
  · rw [List.getD_eq_getElem?_getD, List.getElem?_take, if_pos (by omega), ← List.getD_eq_getElem?_getD, get i (by omega) h2]
    congr 1
    unfold padS
    rw [List.getD_eq_getElem?_getD, List.getElem?_append_left h1, ← List.getD_eq_getElem?_getD]
end Go.Proofs.Ytmfbdacalenfdab.A
