/- Many blocks, as functions of lists: a stream, sealed texts and back. -/
import Derived.Test.YtejabkmhpiabnaaAMath
namespace Go.Proofs.Ytejabkmhpiabnaa.A
/-- Bytes as a number, the greatest first. -/
def beV (l : List Nat) : Nat := l.foldl (fun a x => a * 256 + x) 0
theorem beV_snoc (l : List Nat) (x : Nat) : beV (l ++ [x]) = beV l * 256 + x := by simp [beV]
theorem beV_lt {l : List Nat} (h : ∀ x ∈ l, x < 256) : beV l < 256 ^ l.length := by
  have key : ∀ k, k ≤ l.length → beV (l.take k) < 256 ^ k := by
    intro k
    induction k with
    | zero => intro _; simp [beV]
    | succ k ih =>
      intro hk
      have hlt : k < l.length := by omega
      rw [List.take_succ_eq_append_getElem hlt, beV_snoc, Nat.pow_succ]
      have h1 := ih (by omega)
      have h2 := h _ (List.getElem_mem hlt)
      omega
  have := key l.length (Nat.le_refl _)
  rwa [List.take_length] at this
/-- Sixteen bytes of a number, the greatest first. -/
def be16 (n : Nat) : List Nat := by_ 16 fun j => n / 256 ^ (15 - j) % 256
theorem be16_ok (n : Nat) : ok 16 (be16 n) := by_ok fun _ _ => Nat.mod_lt _ (by decide)
theorem be16_mod (n : Nat) : be16 (n % 2 ^ 128) = be16 n := by
  refine by_congr fun j hj => ?_
  have e : (2 : Nat) ^ 128 = 256 ^ (15 - j) * 256 ^ (j + 1) := by
    rw [← Nat.pow_add, show 15 - j + (j + 1) = 16 by omega]
  rw [e, Nat.mod_mul_right_div_self, Nat.pow_succ, Nat.mul_comm (256 ^ j) 256, Nat.mod_mul_right_mod]
/-- A number and its bytes. -/
theorem be16_beV {l : List Nat} (h : ok 16 l) : be16 (beV l) = l := by
  have key : ∀ k, k ≤ 16 → ∀ j, j < k → beV (l.take k) / 256 ^ (k - 1 - j) % 256 = l.getD j 0 := by
    intro k
    induction k with
    | zero => intro _ j hj; omega
    | succ k ih =>
      intro hk j hj
      have hlt : k < l.length := by rw [h.1]; omega
      have hx := h.2 _ (List.getElem_mem hlt)
      rw [List.take_succ_eq_append_getElem hlt, beV_snoc]
      rcases Nat.lt_or_ge j k with h1 | h1
      · rw [show k + 1 - 1 - j = (k - 1 - j) + 1 by omega, Nat.pow_succ, Nat.mul_comm (256 ^ (k - 1 - j)), ← Nat.div_div_eq_div_mul]
        rw [show (beV (l.take k) * 256 + l[k]) / 256 = beV (l.take k) by omega]
        exact ih (by omega) j h1
      · obtain rfl : j = k := by omega
        rw [show j + 1 - 1 - j = 0 by omega, Nat.pow_zero, Nat.div_one, List.getD_eq_getElem?_getD, List.getElem?_eq_getElem hlt]
        show (beV (l.take j) * 256 + l[j]) % 256 = l[j]
        omega
  refine Eq.trans (by_congr fun j hj => ?_) (by_self h.1)
  have := key 16 (Nat.le_refl _) j hj
  rw [List.take_of_length_le (by rw [h.1]; exact Nat.le_refl _)] at this
  exact this
/-- Block q of the stream is Encrypt of this. -/
def ctr (iv : List Nat) (q : Nat) : List Nat := be16 ((beV iv + q) % 2 ^ 128)
theorem ctr_ok (iv : List Nat) (q : Nat) : ok 16 (ctr iv q) := be16_ok _
def padB (ws : List (List Nat)) (iv : List Nat) (q : Nat) : List Nat := encS ws (ctr iv q)
theorem padB_ok {ws : List (List Nat)} (h : okW ws) (iv : List Nat) (q : Nat) : ok 16 (padB ws iv q) := encS_ok h (ctr_ok iv q)
/-- A byte of the stream. -/
def strB (ws : List (List Nat)) (iv : List Nat) (p : Nat) : Nat := (padB ws iv (p / 16)).getD (p % 16) 0
theorem strB_lt {ws : List (List Nat)} (h : okW ws) (iv : List Nat) (p : Nat) : strB ws iv p < 256 := (padB_ok h iv _).at _
def streamS (ws : List (List Nat)) (iv : List Nat) (at_ : Nat) (p : List Nat) : List Nat := by_ p.length fun i => p.getD i 0 ^^^ strB ws iv ((at_ + i) % 18446744073709551616)
theorem streamS_length (ws : List (List Nat)) (iv : List Nat) (at_ : Nat) (p : List Nat) : (streamS ws iv at_ p).length = p.length := by_length _ _
theorem streamS_ok {ws : List (List Nat)} (h : okW ws) (iv : List Nat) (at_ : Nat) {p : List Nat} (hp : ∀ x ∈ p, x < 256) : ∀ x ∈ streamS ws iv at_ p, x < 256 := (by_ok fun i _ => G.xor_lt ((show ok p.length p from ⟨rfl, hp⟩).at i) (strB_lt h iv _)).2
theorem streamS_get (ws : List (List Nat)) (iv : List Nat) (at_ : Nat) (p : List Nat) {i : Nat} (hi : i < p.length) : (streamS ws iv at_ p).getD i 0 = p.getD i 0 ^^^ strB ws iv ((at_ + i) % 18446744073709551616) := by_get hi
/-- VERNAM: twice is back. -/
theorem stream_twice (ws : List (List Nat)) (iv : List Nat) (at_ : Nat) (p : List Nat) : streamS ws iv at_ (streamS ws iv at_ p) = p := by
  unfold streamS
  rw [by_length]
  refine Eq.trans (by_congr fun i hi => ?_) (by_self rfl)
  rw [by_get hi, Nat.xor_assoc, Nat.xor_self, Nat.xor_zero]
theorem by_append (m n : Nat) (f : Nat → Nat) : by_ (m + n) f = by_ m f ++ by_ n fun i => f (m + i) := by
  simp [by_, List.range_add, List.map_append]
/-- In pieces, each at its place. -/
theorem stream_append (ws : List (List Nat)) (iv : List Nat) (at_ : Nat) (p q : List Nat) : streamS ws iv at_ (p ++ q) = streamS ws iv at_ p ++ streamS ws iv ((at_ + p.length) % 18446744073709551616) q := by
  unfold streamS
  rw [List.length_append, by_append]
  congr 1
  · refine by_congr fun i hi => ?_
    congr 1
    simp [List.getD_eq_getElem?_getD, List.getElem?_append_left hi]
  · refine by_congr fun i hi => ?_
    congr 1
    · rw [List.getD_eq_getElem?_getD, List.getD_eq_getElem?_getD, List.getElem?_append_right (by omega), Nat.add_sub_cancel_left]
    · congr 1
      omega
theorem stream_nil (ws : List (List Nat)) (iv : List Nat) (at_ : Nat) : streamS ws iv at_ [] = [] := rfl
/-- Behind a text come n bytes of n. -/
def padN (p : List Nat) : Nat := 16 - p.length % 16
def padS (p : List Nat) : List Nat := p ++ List.replicate (padN p) (padN p)
theorem padN_pos (p : List Nat) : 1 ≤ padN p ∧ padN p ≤ 16 := by unfold padN; omega
theorem padS_length (p : List Nat) : (padS p).length = 16 * (p.length / 16 + 1) := by
  unfold padS padN
  rw [List.length_append, List.length_replicate]
  omega
theorem padS_low {p : List Nat} (h : ∀ x ∈ p, x < 256) : ∀ x ∈ padS p, x < 256 := by
  intro x hx
  rcases List.mem_append.1 hx with h1 | h1
  · exact h x h1
  · rw [(List.mem_replicate.1 h1).2]
    have := padN_pos p
    omega
/-- So many blocks, chained. -/
def sealB (ws : List (List Nat)) : Nat → List Nat → List Nat → List Nat
  | 0, _, _ => []
  | k + 1, iv, p => encS ws (addK iv (p.take 16)) ++ sealB ws k (encS ws (addK iv (p.take 16))) (p.drop 16)
def sealS (ws : List (List Nat)) (iv p : List Nat) : List Nat := sealB ws (p.length / 16 + 1) iv (padS p)
def openB (ws : List (List Nat)) : Nat → List Nat → List Nat → List Nat
  | 0, _, _ => []
  | k + 1, iv, c => addK (decS ws (c.take 16)) iv ++ openB ws k (c.take 16) (c.drop 16)
theorem ok_take {k : Nat} {p : List Nat} (h : ok (16 * (k + 1)) p) : ok 16 (p.take 16) := ⟨by rw [List.length_take, h.1]; omega, fun x hx => h.2 x (List.mem_of_mem_take hx)⟩
theorem ok_drop {k : Nat} {p : List Nat} (h : ok (16 * (k + 1)) p) : ok (16 * k) (p.drop 16) := ⟨by rw [List.length_drop, h.1]; omega, fun x hx => h.2 x (List.mem_of_mem_drop hx)⟩
theorem ok_append {m n : Nat} {a b : List Nat} (ha : ok m a) (hb : ok n b) : ok (m + n) (a ++ b) := ⟨by rw [List.length_append, ha.1, hb.1], fun x hx => (List.mem_append.1 hx).elim (ha.2 x) (hb.2 x)⟩
theorem sealB_ok {ws : List (List Nat)} (hw : okW ws) : ∀ (k : Nat) {iv p : List Nat}, ok 16 iv → ok (16 * k) p → ok (16 * k) (sealB ws k iv p)
  | 0, _, _, _, _ => ⟨rfl, fun x hx => by cases hx⟩
  | k + 1, iv, p, hi, hp => by
    rw [sealB, Nat.mul_succ, Nat.add_comm]
    have h1 := encS_ok hw (addK_ok hi (ok_take hp))
    exact ok_append h1 (sealB_ok hw k h1 (ok_drop hp))
theorem openB_ok {ws : List (List Nat)} (hw : okW ws) : ∀ (k : Nat) {iv c : List Nat}, ok 16 iv → ok (16 * k) c → ok (16 * k) (openB ws k iv c)
  | 0, _, _, _, _ => ⟨rfl, fun x hx => by cases hx⟩
  | k + 1, iv, c, hi, hc => by
    rw [openB, Nat.mul_succ, Nat.add_comm]
    exact ok_append (addK_ok (decS_ok hw (ok_take hc)) hi) (openB_ok hw k (ok_take hc) (ok_drop hc))
theorem addK_comm (s k : List Nat) : addK s k = addK k s := by_congr fun _ _ => Nat.xor_comm _ _
theorem take_app {a b : List Nat} (h : a.length = 16) : (a ++ b).take 16 = a := by rw [← h, List.take_left]
theorem drop_app {a b : List Nat} (h : a.length = 16) : (a ++ b).drop 16 = b := by rw [← h, List.drop_left]
theorem open_seal {ws : List (List Nat)} (hw : okW ws) : ∀ (k : Nat) {iv p : List Nat}, ok 16 iv → ok (16 * k) p → openB ws k iv (sealB ws k iv p) = p
  | 0, _, p, _, hp => by
    rw [openB]
    exact (List.length_eq_zero_iff.1 (by rw [hp.1])).symm
  | k + 1, iv, p, hi, hp => by
    have h0 := addK_ok hi (ok_take hp)
    have h1 := encS_ok hw h0
    rw [sealB, openB, take_app h1.1, drop_app h1.1, dec_encS hw h0, open_seal hw k h1 (ok_drop hp), addK_comm iv, addK_twice (ok_take hp), List.take_append_drop]
theorem seal_open {ws : List (List Nat)} (hw : okW ws) : ∀ (k : Nat) {iv c : List Nat}, ok 16 iv → ok (16 * k) c → sealB ws k iv (openB ws k iv c) = c
  | 0, _, c, _, hc => by
    rw [sealB]
    exact (List.length_eq_zero_iff.1 (by rw [hc.1])).symm
  | k + 1, iv, c, hi, hc => by
    have h0 := decS_ok hw (ok_take hc)
    have h1 := addK_ok h0 hi
    rw [openB, sealB, take_app h1.1, drop_app h1.1, addK_comm iv, addK_twice h0, enc_decS hw (ok_take hc), seal_open hw k (ok_take hc) (ok_drop hc), List.take_append_drop]
/-- The last byte tells how many there are, and they are all it. -/
def padOf (o : List Nat) : Option Nat :=
  let n := o.getD (o.length - 1) 0
  if n = 0 ∨ 16 < n then none else if (o.drop (o.length - n)).all (· == n) then some n else none
def openS (ws : List (List Nat)) (iv c : List Nat) : Option (List Nat) :=
  match padOf (openB ws (c.length / 16) iv c) with
  | some n => some ((openB ws (c.length / 16) iv c).take (c.length - n))
  | none => none
theorem padOf_pad (p : List Nat) : padOf (padS p) = some (padN p) := by
  have h1 := padN_pos p
  have hl : (padS p).length = p.length + padN p := by unfold padS; rw [List.length_append, List.length_replicate]
  have e : (padS p).getD ((padS p).length - 1) 0 = padN p := by
    rw [hl, List.getD_eq_getElem?_getD]
    unfold padS
    rw [List.getElem?_append_right (by omega), List.getElem?_replicate, if_pos (by omega)]
    rfl
  unfold padOf
  simp only [e]
  rw [if_neg (by omega), if_pos]
  rw [hl, Nat.add_sub_cancel]
  unfold padS
  rw [List.drop_left]
  simp
theorem padOf_spec {o : List Nat} {n : Nat} (h : padOf o = some n) : 1 ≤ n ∧ n ≤ 16 ∧ o.drop (o.length - n) = List.replicate (o.length - (o.length - n)) n := by
  unfold padOf at h
  simp only at h
  split at h
  · cases h
  · rename_i h1
    split at h
    · rename_i h2
      obtain rfl := Option.some.inj h
      refine ⟨by omega, by omega, ?_⟩
      rw [List.all_eq_true] at h2
      refine List.eq_replicate_iff.2 ⟨by rw [List.length_drop], fun b hb => ?_⟩
      simpa using h2 b hb
    · cases h
/-- What was sealed is opened as it was. -/
theorem openS_sealS {ws : List (List Nat)} (hw : okW ws) {iv p : List Nat} (hi : ok 16 iv) (hp : ∀ x ∈ p, x < 256) : openS ws iv (sealS ws iv p) = some p := by
  have hP : ok (16 * (p.length / 16 + 1)) (padS p) := ⟨padS_length p, padS_low hp⟩
  have hS := sealB_ok hw (p.length / 16 + 1) hi hP
  have hn := padN_pos p
  have hl : (padS p).length = p.length + padN p := by unfold padS; rw [List.length_append, List.length_replicate]
  unfold openS sealS
  rw [hS.1, show 16 * (p.length / 16 + 1) / 16 = p.length / 16 + 1 by omega, open_seal hw _ hi hP, padOf_pad]
  simp only [Option.some.injEq]
  rw [← hP.1, hl, Nat.add_sub_cancel]
  unfold padS
  rw [List.take_left]
/-- What is opened is sealed to just that. -/
theorem sealS_openS {ws : List (List Nat)} (hw : okW ws) {iv c p : List Nat} (hi : ok 16 iv) (hc : ∀ x ∈ c, x < 256) (h16 : c.length % 16 = 0) (h0 : 0 < c.length) (h : openS ws iv c = some p) : sealS ws iv p = c := by
  obtain ⟨k, hk⟩ : ∃ k, c.length = 16 * (k + 1) := ⟨c.length / 16 - 1, by omega⟩
  have hC : ok (16 * (k + 1)) c := ⟨hk, hc⟩
  have hO := openB_ok hw (k + 1) hi hC
  unfold openS at h
  rw [hk, show 16 * (k + 1) / 16 = k + 1 by omega] at h
  have so := seal_open hw (k + 1) hi hC
  generalize openB ws (k + 1) iv c = o at *
  cases e : padOf o with
  | none => rw [e] at h; cases h
  | some n =>
    rw [e] at h
    simp only [Option.some.injEq] at h
    obtain ⟨n1, n2, hd⟩ := padOf_spec e
    rw [hO.1, show 16 * (k + 1) - (16 * (k + 1) - n) = n by omega] at hd
    have hpl : p.length = 16 * (k + 1) - n := by rw [← h, List.length_take, hO.1]; omega
    have hpn : padN p = n := by unfold padN; rw [hpl]; omega
    have hpad : padS p = o := by
      unfold padS
      rw [hpn, ← hd, ← h, List.take_append_drop]
    unfold sealS
    rw [hpad, hpl, show (16 * (k + 1) - n) / 16 + 1 = k + 1 by omega]
    exact so
end Go.Proofs.Ytejabkmhpiabnaa.A
