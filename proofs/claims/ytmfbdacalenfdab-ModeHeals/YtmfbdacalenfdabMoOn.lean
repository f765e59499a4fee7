/- The contracts of mode.onward and mode.padded. -/
import Derived.Test.YtmfbdacalenfdabMoPad
import Derived.Test.YtmfbdacalenfdabBsMk
import Derived.Laws.IdiomCopy
namespace Go.Proofs.Ytmfbdacalenfdab
open Go.RowKit
set_option linter.unusedSimpArgs false
attribute [local go_sem] YieldsP execOp
attribute [local simp] MP.eq_p
namespace A
/-- Of sixteen places the last t are new ones. -/
def endN (old new : Nat → Nat) (t : Nat) : List Nat := by_ 16 fun p => if 16 - t ≤ p then new p else old p
theorem endN_length (old new : Nat → Nat) (t : Nat) : (endN old new t).length = 16 := by_length _ _
theorem endN_zero (old new : Nat → Nat) : endN old new 0 = by_ 16 old := by_congr fun _ hi => if_neg (by omega)
theorem endN_all (old new : Nat → Nat) : endN old new 16 = by_ 16 new := by_congr fun _ _ => if_pos (by omega)
theorem endN_at (old new : Nat → Nat) {t u : Nat} (h : u + t = 15) : (endN old new t).getD u 0 = old u := by
  unfold endN
  rw [by_get (by omega), if_neg (by omega)]
theorem endN_set (old new : Nat → Nat) {t u : Nat} (h : u + t = 15) : (endN old new t).set u (new u) = endN old new (t + 1) := by
  refine (by_self (l := (endN old new t).set u (new u)) (by rw [List.length_set, endN_length])).symm.trans (by_congr fun i hi => ?_)
  rw [getD_set _ _ _ _ (by rw [endN_length]; omega)]
  unfold endN
  rw [by_get hi]
  by_cases e : u = i
  · subst e
    rw [if_pos rfl, if_pos (by omega)]
  · rw [if_neg e]
    by_cases e2 : 16 - t ≤ i
    · rw [if_pos e2, if_pos (by omega)]
    · rw [if_neg e2, if_neg (by omega)]
/-- What is carried when t bytes are done. -/
def carr (iv : List Nat) (q : Nat) : Nat → Nat
  | 0 => q
  | t + 1 => (carr iv q t + iv.getD (15 - t) 0) / 256
theorem carr_lt {iv : List Nat} (hi : ok 16 iv) {q : Nat} (hq : q < 1152921504606846976) : ∀ t, carr iv q t < 1152921504606846976
  | 0 => hq
  | t + 1 => by
    have h1 := carr_lt hi hq t
    have h2 := hi.at (15 - t)
    rw [carr]
    omega
theorem carr_sum {iv : List Nat} (hi : ok 16 iv) (q : Nat) : ∀ t, t ≤ 16 → (beV iv + q) / 256 ^ t = beV (iv.take (16 - t)) + carr iv q t
  | 0, _ => by rw [Nat.pow_zero, Nat.div_one, carr, List.take_of_length_le (by rw [hi.1]; exact Nat.le_refl _)]
  | t + 1, ht => by
    have ih := carr_sum hi q t (by omega)
    have hlt : 15 - t < iv.length := by rw [hi.1]; omega
    rw [Nat.pow_succ, ← Nat.div_div_eq_div_mul, ih, show 16 - t = (15 - t) + 1 by omega, List.take_succ_eq_append_getElem hlt, beV_snoc, carr, List.getD_eq_getElem?_getD, List.getElem?_eq_getElem hlt, show 16 - (t + 1) = 15 - t by omega]
    show (beV (iv.take (15 - t)) * 256 + iv[15 - t] + carr iv q t) / 256 = beV (iv.take (15 - t)) + (carr iv q t + iv[15 - t]) / 256
    omega
theorem carr_byte {iv : List Nat} (hi : ok 16 iv) (q : Nat) {t u : Nat} (h : u + t = 15) : (beV iv + q) / 256 ^ t % 256 = (carr iv q t + iv.getD u 0) % 256 := by
  have hlt : u < iv.length := by rw [hi.1]; omega
  rw [carr_sum hi q t (by omega), show 16 - t = u + 1 by omega, List.take_succ_eq_append_getElem hlt, beV_snoc, List.getD_eq_getElem?_getD, List.getElem?_eq_getElem hlt]
  show (beV (iv.take u) * 256 + iv[u] + carr iv q t) % 256 = (carr iv q t + iv[u]) % 256
  omega
theorem carr_next (iv : List Nat) (q : Nat) {t u : Nat} (h : u + t = 15) : carr iv q (t + 1) = (carr iv q t + iv.getD u 0) / 256 := by
  rw [carr, show 15 - t = u by omega]
/-- A text and its padding, so far as it is in. -/
def padT (p : List Nat) (n t : Nat) : List Nat := p ++ (List.replicate t n ++ List.replicate (n - t) 0)
theorem padT_length (p : List Nat) {n t : Nat} (h : t ≤ n) : (padT p n t).length = p.length + n := by
  unfold padT
  simp only [List.length_append, List.length_replicate]
  omega
theorem padT_set (p : List Nat) {n t : Nat} (h : t < n) : (padT p n t).set (p.length + t) n = padT p n (t + 1) := by
  unfold padT
  rw [List.set_append_right _ _ (by omega), Nat.add_sub_cancel_left, List.set_append_right _ _ (by rw [List.length_replicate]; omega), List.length_replicate, Nat.sub_self, show n - t = n - (t + 1) + 1 by omega, List.replicate_succ, List.set_cons_zero, List.replicate_succ', List.append_assoc]
  rfl
theorem padT_all (p : List Nat) : padT p (padN p) (padN p) = padS p := by
  unfold padT padS
  rw [Nat.sub_self, List.replicate_zero, List.append_nil]
end A
end Go.Proofs.Ytmfbdacalenfdab
