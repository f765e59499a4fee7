/- Texts that were joined: MdMath, RowB, MoSum. -/
import Derived.Test.YtmfbdacalenfdaaAMath
import Derived.Test.YtmfbdacalenfdaaBs
import Derived.Test.YtmfbdacalenfdaaGrp0
import Derived.Test.YtmfbdacalenfdaaAeK
/- Many blocks, as functions of lists: a stream, sealed texts and back. -/
namespace Go.Proofs.Ytmfbdacalenfdaa.A
/-- Bytes as a number, the greatest first. -/
def beV (l : List Nat) : Nat := l.foldl (fun a x => a * 256 + x) 0
theorem beV_snoc (l : List Nat) (x : Nat) : beV (l ++ [x]) = beV l * 256 + x := by simp [beV]
theorem beV_lt {l : List Nat} (h : ∀ x ∈ l, x < 256) : beV l < 256 ^ l.length := by
  have key : ∀ k, k ≤ l.length → beV (l.take k) < 256 ^ k := by
    intro k
    induction k with
    | zero => intro _; simp [beV]
    | succ k ih =>
      intro hk
      have hlt : k < l.length := by omega
      rw [List.take_succ_eq_append_getElem hlt, beV_snoc, Nat.pow_succ]
      have h1 := ih (by omega)
      have h2 := h _ (List.getElem_mem hlt)
      omega
  have := key l.length (Nat.le_refl _)
  rwa [List.take_length] at this
/-- Sixteen bytes of a number, the greatest first. -/
def be16 (n : Nat) : List Nat := by_ 16 fun j => n / 256 ^ (15 - j) % 256
theorem be16_ok (n : Nat) : ok 16 (be16 n) := by_ok fun _ _ => Nat.mod_lt _ (by decide)
theorem be16_mod (n : Nat) : be16 (n % 2 ^ 128) = be16 n := by
  refine by_congr fun j hj => ?_
  have e : (2 : Nat) ^ 128 = 256 ^ (15 - j) * 256 ^ (j + 1) := by
    rw [← Nat.pow_add, show 15 - j + (j + 1) = 16 by omega]
  rw [e, Nat.mod_mul_right_div_self, Nat.pow_succ, Nat.mul_comm (256 ^ j) 256, Nat.mod_mul_right_mod]
/-- A number and its bytes. -/
theorem be16_beV {l : List Nat} (h : ok 16 l) : be16 (beV l) = l := by
  have key : ∀ k, k ≤ 16 → ∀ j, j < k → beV (l.take k) / 256 ^ (k - 1 - j) % 256 = l.getD j 0 := by
    intro k
    induction k with
    | zero => intro _ j hj; omega
    | succ k ih =>
      intro hk j hj
      have hlt : k < l.length := by rw [h.1]; omega
      have hx := h.2 _ (List.getElem_mem hlt)
      rw [List.take_succ_eq_append_getElem hlt, beV_snoc]
      rcases Nat.lt_or_ge j k with h1 | h1
      · rw [show k + 1 - 1 - j = (k - 1 - j) + 1 by omega, Nat.pow_succ, Nat.mul_comm (256 ^ (k - 1 - j)), ← Nat.div_div_eq_div_mul]
        rw [show (beV (l.take k) * 256 + l[k]) / 256 = beV (l.take k) by omega]
        exact ih (by omega) j h1
      · obtain rfl : j = k := by omega
        rw [show j + 1 - 1 - j = 0 by omega, Nat.pow_zero, Nat.div_one, List.getD_eq_getElem?_getD, List.getElem?_eq_getElem hlt]
        show (beV (l.take j) * 256 + l[j]) % 256 = l[j]
        omega
  refine Eq.trans (by_congr fun j hj => ?_) (by_self h.1)
  have := key 16 (Nat.le_refl _) j hj
  rw [List.take_of_length_le (by rw [h.1]; exact Nat.le_refl _)] at this
  exact this
/-- Block q of the stream is Encrypt of this. -/
def ctr (iv : List Nat) (q : Nat) : List Nat := be16 ((beV iv + q) % 2 ^ 128)
theorem ctr_ok (iv : List Nat) (q : Nat) : ok 16 (ctr iv q) := be16_ok _
def padB (ws : List (List Nat)) (iv : List Nat) (q : Nat) : List Nat := encS ws (ctr iv q)
theorem padB_ok {ws : List (List Nat)} (h : okW ws) (iv : List Nat) (q : Nat) : ok 16 (padB ws iv q) := encS_ok h (ctr_ok iv q)
/-- A byte of the stream. -/
def strB (ws : List (List Nat)) (iv : List Nat) (p : Nat) : Nat := (padB ws iv (p / 16)).getD (p % 16) 0
theorem strB_lt {ws : List (List Nat)} (h : okW ws) (iv : List Nat) (p : Nat) : strB ws iv p < 256 := (padB_ok h iv _).at _
def streamS (ws : List (List Nat)) (iv : List Nat) (at_ : Nat) (p : List Nat) : List Nat := by_ p.length fun i => p.getD i 0 ^^^ strB ws iv ((at_ + i) % 18446744073709551616)
theorem streamS_length (ws : List (List Nat)) (iv : List Nat) (at_ : Nat) (p : List Nat) : (streamS ws iv at_ p).length = p.length := by_length _ _
theorem streamS_ok {ws : List (List Nat)} (h : okW ws) (iv : List Nat) (at_ : Nat) {p : List Nat} (hp : ∀ x ∈ p, x < 256) : ∀ x ∈ streamS ws iv at_ p, x < 256 := (by_ok fun i _ => G.xor_lt ((show ok p.length p from ⟨rfl, hp⟩).at i) (strB_lt h iv _)).2
theorem streamS_get (ws : List (List Nat)) (iv : List Nat) (at_ : Nat) (p : List Nat) {i : Nat} (hi : i < p.length) : (streamS ws iv at_ p).getD i 0 = p.getD i 0 ^^^ strB ws iv ((at_ + i) % 18446744073709551616) := by_get hi
/-- VERNAM: twice is back. -/
theorem stream_twice (ws : List (List Nat)) (iv : List Nat) (at_ : Nat) (p : List Nat) : streamS ws iv at_ (streamS ws iv at_ p) = p := by
  unfold streamS
  rw [by_length]
  refine Eq.trans (by_congr fun i hi => ?_) (by_self rfl)
  rw [by_get hi, Nat.xor_assoc, Nat.xor_self, Nat.xor_zero]
theorem by_append (m n : Nat) (f : Nat → Nat) : by_ (m + n) f = by_ m f ++ by_ n fun i => f (m + i) := by
  simp [by_, List.range_add, List.map_append]
/-- In pieces, each at its place. -/
theorem stream_append (ws : List (List Nat)) (iv : List Nat) (at_ : Nat) (p q : List Nat) : streamS ws iv at_ (p ++ q) = streamS ws iv at_ p ++ streamS ws iv ((at_ + p.length) % 18446744073709551616) q := by
  unfold streamS
  rw [List.length_append, by_append]
  congr 1
  · refine by_congr fun i hi => ?_
    congr 1
    simp [List.getD_eq_getElem?_getD, List.getElem?_append_left hi]
  · refine by_congr fun i hi => ?_
    congr 1
    · rw [List.getD_eq_getElem?_getD, List.getD_eq_getElem?_getD, List.getElem?_append_right (by omega), Nat.add_sub_cancel_left]
    · congr 1
      omega
theorem stream_nil (ws : List (List Nat)) (iv : List Nat) (at_ : Nat) : streamS ws iv at_ [] = [] := rfl
/-- Behind a text come n bytes of n. -/
def padN (p : List Nat) : Nat := 16 - p.length % 16
def padS (p : List Nat) : List Nat := p ++ List.replicate (padN p) (padN p)
theorem padN_pos (p : List Nat) : 1 ≤ padN p ∧ padN p ≤ 16 := by unfold padN; omega
theorem padS_length (p : List Nat) : (padS p).length = 16 * (p.length / 16 + 1) := by
  unfold padS padN
  rw [List.length_append, List.length_replicate]
  omega
theorem padS_low {p : List Nat} (h : ∀ x ∈ p, x < 256) : ∀ x ∈ padS p, x < 256 := by
  intro x hx
  rcases List.mem_append.1 hx with h1 | h1
  · exact h x h1
  · rw [(List.mem_replicate.1 h1).2]
    have := padN_pos p
    omega
/-- So many blocks, chained. -/
def sealB (ws : List (List Nat)) : Nat → List Nat → List Nat → List Nat
  | 0, _, _ => []
  | k + 1, iv, p => encS ws (addK iv (p.take 16)) ++ sealB ws k (encS ws (addK iv (p.take 16))) (p.drop 16)
def sealS (ws : List (List Nat)) (iv p : List Nat) : List Nat := sealB ws (p.length / 16 + 1) iv (padS p)
def openB (ws : List (List Nat)) : Nat → List Nat → List Nat → List Nat
  | 0, _, _ => []
  | k + 1, iv, c => addK (decS ws (c.take 16)) iv ++ openB ws k (c.take 16) (c.drop 16)
theorem ok_take {k : Nat} {p : List Nat} (h : ok (16 * (k + 1)) p) : ok 16 (p.take 16) := ⟨by rw [List.length_take, h.1]; omega, fun x hx => h.2 x (List.mem_of_mem_take hx)⟩
theorem ok_drop {k : Nat} {p : List Nat} (h : ok (16 * (k + 1)) p) : ok (16 * k) (p.drop 16) := ⟨by rw [List.length_drop, h.1]; omega, fun x hx => h.2 x (List.mem_of_mem_drop hx)⟩
theorem ok_append {m n : Nat} {a b : List Nat} (ha : ok m a) (hb : ok n b) : ok (m + n) (a ++ b) := ⟨by rw [List.length_append, ha.1, hb.1], fun x hx => (List.mem_append.1 hx).elim (ha.2 x) (hb.2 x)⟩
theorem sealB_ok {ws : List (List Nat)} (hw : okW ws) : ∀ (k : Nat) {iv p : List Nat}, ok 16 iv → ok (16 * k) p → ok (16 * k) (sealB ws k iv p)
  | 0, _, _, _, _ => ⟨rfl, fun x hx => by cases hx⟩
  | k + 1, iv, p, hi, hp => by
    rw [sealB, Nat.mul_succ, Nat.add_comm]
    have h1 := encS_ok hw (addK_ok hi (ok_take hp))
    exact ok_append h1 (sealB_ok hw k h1 (ok_drop hp))
theorem openB_ok {ws : List (List Nat)} (hw : okW ws) : ∀ (k : Nat) {iv c : List Nat}, ok 16 iv → ok (16 * k) c → ok (16 * k) (openB ws k iv c)
  | 0, _, _, _, _ => ⟨rfl, fun x hx => by cases hx⟩
  | k + 1, iv, c, hi, hc => by
    rw [openB, Nat.mul_succ, Nat.add_comm]
    exact ok_append (addK_ok (decS_ok hw (ok_take hc)) hi) (openB_ok hw k (ok_take hc) (ok_drop hc))
theorem addK_comm (s k : List Nat) : addK s k = addK k s := by_congr fun _ _ => Nat.xor_comm _ _
theorem take_app {a b : List Nat} (h : a.length = 16) : (a ++ b).take 16 = a := by rw [← h, List.take_left]
theorem drop_app {a b : List Nat} (h : a.length = 16) : (a ++ b).drop 16 = b := by rw [← h, List.drop_left]
theorem open_seal {ws : List (List Nat)} (hw : okW ws) : ∀ (k : Nat) {iv p : List Nat}, ok 16 iv → ok (16 * k) p → openB ws k iv (sealB ws k iv p) = p
  | 0, _, p, _, hp => by
    rw [openB]
    exact (List.length_eq_zero_iff.1 (by rw [hp.1])).symm
  | k + 1, iv, p, hi, hp => by
    have h0 := addK_ok hi (ok_take hp)
    have h1 := encS_ok hw h0
    rw [sealB, openB, take_app h1.1, drop_app h1.1, dec_encS hw h0, open_seal hw k h1 (ok_drop hp), addK_comm iv, addK_twice (ok_take hp), List.take_append_drop]
theorem seal_open {ws : List (List Nat)} (hw : okW ws) : ∀ (k : Nat) {iv c : List Nat}, ok 16 iv → ok (16 * k) c → sealB ws k iv (openB ws k iv c) = c
  | 0, _, c, _, hc => by
    rw [sealB]
    exact (List.length_eq_zero_iff.1 (by rw [hc.1])).symm
  | k + 1, iv, c, hi, hc => by
    have h0 := decS_ok hw (ok_take hc)
    have h1 := addK_ok h0 hi
    rw [openB, sealB, take_app h1.1, drop_app h1.1, addK_comm iv, addK_twice h0, enc_decS hw (ok_take hc), seal_open hw k (ok_take hc) (ok_drop hc), List.take_append_drop]
/-- The last byte tells how many there are, and they are all it. -/
def padOf (o : List Nat) : Option Nat :=
  let n := o.getD (o.length - 1) 0
  if n = 0 ∨ 16 < n then none else if (o.drop (o.length - n)).all (· == n) then some n else none
def openS (ws : List (List Nat)) (iv c : List Nat) : Option (List Nat) :=
  match padOf (openB ws (c.length / 16) iv c) with
  | some n => some ((openB ws (c.length / 16) iv c).take (c.length - n))
  | none => none
theorem padOf_pad (p : List Nat) : padOf (padS p) = some (padN p) := by
  have h1 := padN_pos p
  have hl : (padS p).length = p.length + padN p := by unfold padS; rw [List.length_append, List.length_replicate]
  have e : (padS p).getD ((padS p).length - 1) 0 = padN p := by
    rw [hl, List.getD_eq_getElem?_getD]
    unfold padS
    rw [List.getElem?_append_right (by omega), List.getElem?_replicate, if_pos (by omega)]
    rfl
  unfold padOf
  simp only [e]
  rw [if_neg (by omega), if_pos]
  rw [hl, Nat.add_sub_cancel]
  unfold padS
  rw [List.drop_left]
  simp
theorem padOf_spec {o : List Nat} {n : Nat} (h : padOf o = some n) : 1 ≤ n ∧ n ≤ 16 ∧ o.drop (o.length - n) = List.replicate (o.length - (o.length - n)) n := by
  unfold padOf at h
  simp only at h
  split at h
  · cases h
  · rename_i h1
    split at h
    · rename_i h2
      obtain rfl := Option.some.inj h
      refine ⟨by omega, by omega, ?_⟩
      rw [List.all_eq_true] at h2
      refine List.eq_replicate_iff.2 ⟨by rw [List.length_drop], fun b hb => ?_⟩
      simpa using h2 b hb
    · cases h
/-- What was sealed is opened as it was. -/
theorem openS_sealS {ws : List (List Nat)} (hw : okW ws) {iv p : List Nat} (hi : ok 16 iv) (hp : ∀ x ∈ p, x < 256) : openS ws iv (sealS ws iv p) = some p := by
  have hP : ok (16 * (p.length / 16 + 1)) (padS p) := ⟨padS_length p, padS_low hp⟩
  have hS := sealB_ok hw (p.length / 16 + 1) hi hP
  have hn := padN_pos p
  have hl : (padS p).length = p.length + padN p := by unfold padS; rw [List.length_append, List.length_replicate]
  unfold openS sealS
  rw [hS.1, show 16 * (p.length / 16 + 1) / 16 = p.length / 16 + 1 by omega, open_seal hw _ hi hP, padOf_pad]
  simp only [Option.some.injEq]
  rw [← hP.1, hl, Nat.add_sub_cancel]
  unfold padS
  rw [List.take_left]
/-- What is opened is sealed to just that. -/
theorem sealS_openS {ws : List (List Nat)} (hw : okW ws) {iv c p : List Nat} (hi : ok 16 iv) (hc : ∀ x ∈ c, x < 256) (h16 : c.length % 16 = 0) (h0 : 0 < c.length) (h : openS ws iv c = some p) : sealS ws iv p = c := by
  obtain ⟨k, hk⟩ : ∃ k, c.length = 16 * (k + 1) := ⟨c.length / 16 - 1, by omega⟩
  have hC : ok (16 * (k + 1)) c := ⟨hk, hc⟩
  have hO := openB_ok hw (k + 1) hi hC
  unfold openS at h
  rw [hk, show 16 * (k + 1) / 16 = k + 1 by omega] at h
  have so := seal_open hw (k + 1) hi hC
  generalize openB ws (k + 1) iv c = o at *
  cases e : padOf o with
  | none => rw [e] at h; cases h
  | some n =>
    rw [e] at h
    simp only [Option.some.injEq] at h
    obtain ⟨n1, n2, hd⟩ := padOf_spec e
    rw [hO.1, show 16 * (k + 1) - (16 * (k + 1) - n) = n by omega] at hd
    have hpl : p.length = 16 * (k + 1) - n := by rw [← h, List.length_take, hO.1]; omega
    have hpn : padN p = n := by unfold padN; rw [hpl]; omega
    have hpad : padS p = o := by
      unfold padS
      rw [hpn, ← hd, ← h, List.take_append_drop]
    unfold sealS
    rw [hpad, hpl, show (16 * (k + 1) - n) / 16 + 1 = k + 1 by omega]
    exact so
end Go.Proofs.Ytmfbdacalenfdaa.A

/- Rows of bytes that fill a block of their own. -/
namespace Go.Proofs.Ytmfbdacalenfdaa
open Go.RowKit
set_option linter.unusedSimpArgs false
/-- Block g is a row of these bytes, none of it frozen. -/
def RowB (w : World) (g : Nat) (t : TypeId) (xs : List Nat) : Prop := w.heap[g]? = some (.cells (xs.map b8).toArray t (0, 0))
theorem RowB.blk {w : World} {g : Nat} {t : TypeId} {xs : List Nat} (h : RowB w g t xs) : Blk w g (xs.map b8) := by
  refine ⟨(Array.getElem?_eq_some_iff.1 h).1, fun j v hv => ?_, fun j => ?_⟩
  · rw [cell_of_row _ _ j _ t _ h]; simpa using hv
  · unfold World.frozen?
    rw [h]
    simp
theorem RowB.lt {w : World} {g : Nat} {t : TypeId} {xs : List Nat} (h : RowB w g t xs) : g < w.heap.size := (Array.getElem?_eq_some_iff.1 h).1
theorem RowB.up {W w1 : World} {g B : Nat} {t : TypeId} {xs : List Nat} (h : RowB W g t xs) (hb : Below B W w1) (hB : g < B) : RowB w1 g t xs := (hb.block g hB).trans h
theorem RowB.ob {w : World} {g B n : Nat} {xs : List Nat} (h : RowB w g 5 xs) (hB : B ≤ g) (hn : xs.length = n) (hz : n ≤ 281474976710656) : Ob w B (.slice (some ⟨g, 0, none⟩) n n) xs := by
  subst hn
  refine ⟨by simp, .inr ⟨g, xs.length, (xs.map b8).toArray, rfl, hB, h, Nat.le_refl _, by unfold maxLen; omega, by simp, ?_⟩⟩
  rw [Nat.mul_one]
  exact List.take_of_length_le (by simp)
theorem Ob.row {w : World} {g B n : Nat} {xs : List Nat} (h : Ob w B (.slice (some ⟨g, 0, none⟩) n n) xs) (hn : xs.length = n) : RowB w g 5 xs := by
  subst hn
  rcases h.2 with ⟨e, _⟩ | ⟨g', cap, cur, e, _, hg, _, _, hs, ht⟩
  · cases e
  · simp only [Value.slice.injEq, Option.some.injEq, Addr.mk.injEq] at e
    obtain ⟨⟨rfl, _⟩, _, rfl⟩ := e
    rw [Nat.mul_one] at hs ht
    have : cur.toList = xs.map b8 := by rw [← ht, List.take_of_length_le (by rw [Array.length_toList, hs]; exact Nat.le_refl _)]
    unfold RowB
    rw [hg, ← this]
theorem RowB.put {w : World} {g o : Nat} {t : TypeId} {a b c b' : List Nat} (h : RowB w g t (a ++ (b ++ c))) (ho : o = a.length) (hl : b'.length = b.length) : RowB (w.setCells g o (b'.map b8)) g t (a ++ (b' ++ c)) := by
  subst ho
  unfold RowB at *
  rw [List.map_append, List.map_append] at *
  have := heap_setCells_at g t (0, 0) (b'.map b8) (a.map b8) (b.map b8) (c.map b8) w h (by simpa using hl.symm)
  rw [List.length_map] at this
  exact this
theorem RowB.apart {w : World} {g k o : Nat} {t : TypeId} {xs : List Nat} {vs : List Value} (h : RowB w g t xs) (hk : g ≠ k) : RowB (w.setCells k o vs) g t xs := (heap_setCells_off k g hk vs o w).trans h
theorem RowB.apart1 {w : World} {g k o : Nat} {t : TypeId} {xs : List Nat} {v : Value} (h : RowB w g t xs) (hk : g ≠ k) : RowB (w.setCell ⟨k, o, none⟩ v) g t xs := h.apart (vs := [v]) hk
theorem RowB.setB {w : World} {g : Nat} {t : TypeId} {xs : List Nat} (h : RowB w g t xs) (j y : Nat) : RowB (w.setCell ⟨g, j, none⟩ (b8 y)) g t (xs.set j y) := by
  unfold RowB at *
  rw [List.map_set]
  exact heap_setCell_at w g j (b8 y) (xs.map b8) t (0, 0) h
theorem RowB.by {w : World} {g n : Nat} {t : TypeId} {xs : List Nat} (h : RowB w g t xs) (hl : xs.length = n) : By w (.slice (some ⟨g, 0, none⟩) n n) xs := by
  subst hl
  refine By.of_cells (Nat.le_refl _) fun j hj => ?_
  rw [Nat.zero_add]
  exact h.blk.cell j _ (by simp [List.getD_eq_getElem?_getD, hj])
/-- A slice from a place on, told as a slice. -/
theorem sliced_at {g q i n c : Nat} (h : i < c) : sliced (some ⟨g, q, none⟩) i n c 1 = .slice (some ⟨g, q + i, none⟩) (n - i) (c - i) := by
  rw [sliced, if_neg (by omega), Nat.mul_one]
  simp [Addr.add_lit]
end Go.Proofs.Ytmfbdacalenfdaa

/- The contracts of mode.sum and mode.blockAt. -/
namespace Go.Proofs.Ytmfbdacalenfdaa
open Go.RowKit
set_option linter.unusedSimpArgs false
attribute [local go_sem] YieldsP execOp
attribute [local simp] MP.eq_p
set_option maxRecDepth 20000 in
set_option maxHeartbeats 1000000 in
theorem msum_fun (u t : List Nat) (hu : A.ok 16 u) (ht : A.ok 16 t) (w : World) : Calls Try.prog 37 #[aB u, aB t] w fun e w' => e = .returned (aB (A.addK u t)) ∧ Below w.heap.size w w' := by
  obtain ⟨old, hold⟩ : ∃ old : Nat → Nat, old = fun p => u.getD p 0 := ⟨_, rfl⟩
  obtain ⟨new, hnew⟩ : ∃ new : Nat → Nat, new = fun p => u.getD p 0 ^^^ t.getD p 0 := ⟨_, rfl⟩
  have XE : Hid (∀ i, bits .xor .u8 ((old i : Nat) : Int) ((t.getD i 0 : Nat) : Int) = ((new i : Nat) : Int)) := fun i => by
    rw [hold, hnew]
    exact g_xor (hu.at i) (ht.at i)
  have NE : Hid (A.addK u t = A.by_ 16 new) := by rw [hnew]; exact rfl
  rw [NE.out]
  have TL : Hid (t.length = 16) := ht.1
  obtain ⟨x0, xt, x1, x2⟩ := al3 w (u.map b8).toArray (t.map b8).toArray #[Value.int IntKind.u8 0, Value.int IntKind.u8 0, Value.int IntKind.u8 0, Value.int IntKind.u8 0, Value.int IntKind.u8 0, Value.int IntKind.u8 0, Value.int IntKind.u8 0, Value.int IntKind.u8 0, Value.int IntKind.u8 0, Value.int IntKind.u8 0, Value.int IntKind.u8 0, Value.int IntKind.u8 0, Value.int IntKind.u8 0, Value.int IntKind.u8 0, Value.int IntKind.u8 0, Value.int IntKind.u8 0] 23 23 23
  rw [show (u.map b8).toArray.toList = (A.midN 16 old new 0).map b8 by rw [A.midN_zero, hold, A.by_self hu.1]] at x0
  have X0 : Hid (Blk _ w.heap.size ((A.midN 16 old new 0).map b8)) := x0
  have XT : Hid (Blk _ (w.heap.size + 1) (t.map b8)) := xt
  have X1 : Hid (Blk _ (w.heap.size + 1 + 1) (zB 16)) := x1
  have X2 : Hid (Below w.heap.size w _) := x2
  clear x0 x1 x2 xt ht hu hold hnew NE
  go_enter Try.func37, Try.ntmps37
  go_wp2_with (simp only [zero_a16])
  generalize World.alloc (World.alloc (w.alloc _) _) _ = w1 at *
  go_loopw [6] (fun i wr => ∃ j : Nat, j ≤ 16 ∧ i = .int .i64 (j : Int) ∧ Hid (Blk wr w.heap.size ((A.midN 16 old new j).map b8)) ∧ Hid (Blk wr (w.heap.size + 1) (t.map b8)) ∧ Hid (Blk wr (w.heap.size + 1 + 1) (zB 16)) ∧ Hid (Below w.heap.size w wr)) (fun i _ => 16 - (intOf i).toNat)
  case atStart => exact ⟨0, by omega, rfl, X0, XT, X1, X2⟩
  case round =>
    clear X0 X1 X2 XT
    obtain ⟨j, hj, rfl, X0, XT, X1, X2⟩ := hrel
    by_cases hj1 : j < 16
    · have j1 : (j : Int) < 16 := by omega
      have wj : IntKind.i64.wrap ((j : Int) + 1) = (j : Int) + 1 := by rw [IntKind.wrap_i64]; omega
      have J1 : Hid (j < 16) := hj1
      have c0 : Hid (∀ W, Below wr.heap.size wr W → W.cell? ⟨w.heap.size, j, none⟩ = some (b8 (old j))) := fun W hW => by
        have := (X0.out.up hW X0.out.lt).byte j (by rw [A.midN_length]; exact J1.out)
        rwa [A.midN_at old new J1.out (Nat.le_refl _)] at this
      have c1 : Hid (∀ W, Below wr.heap.size wr W → W.cell? ⟨w.heap.size + 1, j, none⟩ = some (b8 (t.getD j 0))) := fun W hW => (XT.out.up hW XT.out.lt).byte j (by rw [TL.out]; exact J1.out)
      have US : Hid (∀ W, Blk W w.heap.size ((A.midN 16 old new j).map b8) → Blk (W.setCell ⟨w.heap.size, j, none⟩ (b8 (new j))) w.heap.size ((A.midN 16 old new (j + 1)).map b8)) := fun W h => by
        rw [← A.midN_set old new J1.out]
        exact h.setB _ _ (by rw [A.midN_length]; exact J1.out)
      have xe := XE.out j
      generalize old j = oj at *
      generalize new j = nj at *
      generalize t.getD j 0 = tj at *
      clear hj hj1
      go_wp2_with fail
      refine wp_region_monoSE 8 [MP.eq (.int .i64 (j : Int)), MP.eq (.pointer (some ⟨w.heap.size, j, none⟩)), MP.eq (b8 oj), MP.eq (.int .i64 (j : Int)), MP.eq (.pointer (some ⟨w.heap.size + 1, j, none⟩)), MP.eq (b8 tj), MP.eq (b8 nj), MP.eq (.pointer (some ⟨w.heap.size, j, none⟩))] (by kernel_rfl) (by kernel_rfl) rfl (by decide) (by kernel_rfl) ?_
      apply Exists.intro
      refine ⟨fun vals => ?_, ?_, fun vals4 w4 hb4 hF hO => ?_⟩
      · simp only [putsV, dstL, List.length_cons, List.length_nil, Nat.zero_add, Nat.reduceAdd, List.getElem?_cons_zero, List.getElem?_cons_succ, Option.bind_some, Act.put, List.setIfInBounds_toArray, List.set_cons_succ, List.set_cons_zero]
        rfl
      · refine ⟨?_, ?_, ?_, ?_, ?_, ?_, ?_, ?_, trivial⟩
        · intro vals W hW hw hd
          try simp [Region.binds] at hd
          refine ⟨by first | rfl | simp [Region.wanted, yielded, hd], ?_⟩
          simp [go_sem, hd]
          exact Below.refl _ _
        · intro vals W hW hw hd
          try simp [Region.binds] at hd
          refine ⟨by first | rfl | simp [Region.wanted, yielded, hd], ?_⟩
          simp [go_sem, hd, j1]
          exact Below.refl _ _
        · intro vals W hW hw hd
          try simp [Region.binds] at hd
          refine ⟨by first | rfl | simp [Region.wanted, yielded, hd], ?_⟩
          have cc := c0.out W hW.out
          simp [go_sem, hd, cc]
          exact Below.refl _ _
        · intro vals W hW hw hd
          try simp [Region.binds] at hd
          refine ⟨by first | rfl | simp [Region.wanted, yielded, hd], ?_⟩
          simp [go_sem, hd]
          exact Below.refl _ _
        · intro vals W hW hw hd
          try simp [Region.binds] at hd
          refine ⟨by first | rfl | simp [Region.wanted, yielded, hd], ?_⟩
          simp [go_sem, hd, j1]
          exact Below.refl _ _
        · intro vals W hW hw hd
          try simp [Region.binds] at hd
          refine ⟨by first | rfl | simp [Region.wanted, yielded, hd], ?_⟩
          have cc := c1.out W hW.out
          simp [go_sem, hd, cc]
          exact Below.refl _ _
        · intro vals W hW hw hd
          try simp [Region.binds] at hd
          refine ⟨by first | rfl | simp [Region.wanted, yielded, hd], ?_⟩
          simp [go_sem, hd, xe]
          exact Below.refl _ _
        · intro vals W hW hw hd
          try simp [Region.binds] at hd
          refine ⟨by first | rfl | simp [Region.wanted, yielded, hd], ?_⟩
          simp [go_sem, hd, j1]
          exact Below.refl _ _
      obtain ⟨f0, f1, f2, f3, f4, f5, f6, f7, _⟩ := hF
      simp only [MP.eq_p] at f0 f1 f2 f3 f4 f5 f6 f7
      rw [f0, f1, f2, f3, f4, f5, f6, f7]
      simp only [List.drop_succ_cons, List.drop_zero]
      have Y0 : Hid (Blk w4 w.heap.size ((A.midN 16 old new j).map b8)) := X0.out.up hb4.out X0.out.lt
      have YT : Hid (Blk w4 (w.heap.size + 1) (t.map b8)) := XT.out.up hb4.out XT.out.lt
      have Y1 : Hid (Blk w4 (w.heap.size + 1 + 1) (zB 16)) := X1.out.up hb4.out X1.out.lt
      have Y2 : Hid (Below w.heap.size w w4) := X2.out.trans (hb4.out.mono X2.out.size)
      have c4 := c0.out w4 hb4.out
      have z4 := Y0.out.fz j
      have V0 : Hid _ := US.out w4 Y0.out
      have VT : Hid _ := YT.out.apart1 (k' := w.heap.size) (o := j) (v := b8 nj) (by omega)
      have V1 : Hid _ := Y1.out.apart1 (k' := w.heap.size) (o := j) (v := b8 nj) (by omega)
      have V2 : Hid _ := Y2.out.setCell (p := ⟨w.heap.size, j, none⟩) (Nat.le_refl _) (b8 nj)
      clear f0 f1 f2 f3 f4 f5 f6 f7 hb4 hO X0 X1 X2 XT c0 c1 Y0 Y1 Y2 YT US
      go_wp2_with fail
      go_roundw
      case rel => exact ⟨j + 1, J1.out, by first | rfl | go_num, V0, VT, V1, V2⟩
      case measure => have := J1.out; simp [intOf]; omega
    · obtain rfl : j = 16 := by omega
      rw [A.midN_all] at X0
      have LL : Hid ((A.by_ 16 new).length = 16) := A.by_length _ _
      obtain ⟨l, hl⟩ : ∃ l, l = A.by_ 16 new := ⟨_, rfl⟩
      rw [← hl] at X0 LL
      have HE : Hid (l = A.by_ 16 new) := hl
      clear hl hj hj1
      have T0 : Hid (wr.there (w.heap.size + 1 + 1) 0 (l.map b8).length) := X1.out.there (by rw [List.length_map, LL.out, zB_length]; omega)
      go_wp2_with (first | refine wpList_load_mid rfl 23 (.tmp 2) rfl w.heap.size 0 rfl (l.map b8) _ X0.out.all u_a16 rfl (info_n info_a16 l LL.out) ?_ | refine wp_store_eq rfl 23 (.tmp 4) (.tmp 18) rfl (w.heap.size + 1 + 1) 0 (l.map b8) rfl rfl T0.out (info_n info_a16 l LL.out) (one_b8 _) ?_)
      intro w9 hw9
      go_wp2_with fail
      refine bodyPost_ret (v := aB l) ?_ rfl ⟨by rw [HE.out], ?_⟩
      · rw [hw9.out]
        exact results_cell (b := w.heap.size + 1 + 1) rfl rfl (World.rangeAt_setCells_same _ _ _ _ T0.out) u_a16 rfl (info_n info_a16 l LL.out)
      · rw [hw9.out]
        exact below_setCells _ _ _ X2.out (by omega)
namespace A
/-- The block of xs from place i on. -/
def blk (xs : List Nat) (i : Nat) : List Nat := (xs.drop i).take 16
theorem blk_length {xs : List Nat} {i : Nat} (h : i + 16 ≤ xs.length) : (blk xs i).length = 16 := by
  unfold blk
  rw [List.length_take, List.length_drop]
  omega
theorem blk_ok {xs : List Nat} {i : Nat} (h : i + 16 ≤ xs.length) (hx : ∀ x ∈ xs, x < 256) : ok 16 (blk xs i) := ⟨blk_length h, fun x hm => hx x (List.mem_of_mem_drop (List.mem_of_mem_take hm))⟩
end A
/-- The block from place i on lies there. -/
theorem range_blk {w : World} {g q i : Nat} {xs : List Nat} (h : w.rangeAt g q (xs.map b8)) : w.rangeAt g (q + i) ((A.blk xs i).map b8) := fun j v hj => by
  unfold A.blk at hj
  rw [List.map_take, List.map_drop, List.getElem?_take] at hj
  split at hj
  · rw [List.getElem?_drop] at hj
    rw [Nat.add_assoc]
    exact h (i + j) v hj
  · cases hj
set_option maxRecDepth 20000 in
set_option maxHeartbeats 1000000 in
theorem mblk_fun (xs : List Nat) (i : Nat) (hi : i + 16 ≤ xs.length) (v : Value) (w : World) (hv : By w v xs) : Calls Try.prog 36 #[v, .int .i64 (i : Int)] w fun e w' => e = .returned (aB (A.blk xs i)) ∧ Below w.heap.size w w' := by
  obtain ⟨va, vc, rfl⟩ := hv.len
  have hc : xs.length ≤ vc := by obtain ⟨_, _, e, h1, _⟩ := hv; cases e; exact h1
  obtain ⟨g, q, rfl, _, hr⟩ := hv.range (by omega)
  have RB : Hid (∀ W, Below w.heap.size w W → W.rangeAt g (q + i) ((A.blk xs i).map b8)) := fun W hW j u hj => by
    have h := range_blk (i := i) hr j u hj
    exact (hW.cell (p := ⟨g, q + i + j, none⟩) (lt_of_cellB h)).trans h
  have LB : Hid ((A.blk xs i).length = 16) := A.blk_length hi
  have SL : Hid (sliced (some ⟨g, q, none⟩) i xs.length vc 1 = .slice (some ⟨g, q + i, none⟩) (xs.length - i) (vc - i)) := sliced_at (by omega)
  have MI : Hid (16 = min (xs.length - i) 16) := by show _ = _; omega
  have NI : Hid (i ≤ xs.length) := by show _ ≤ _; omega
  obtain ⟨bl, hbl⟩ : ∃ bl, bl = A.blk xs i := ⟨_, rfl⟩
  rw [← hbl] at RB LB ⊢
  obtain ⟨x0, x1, x2⟩ := al2 w #[Value.int IntKind.u8 0, Value.int IntKind.u8 0, Value.int IntKind.u8 0, Value.int IntKind.u8 0, Value.int IntKind.u8 0, Value.int IntKind.u8 0, Value.int IntKind.u8 0, Value.int IntKind.u8 0, Value.int IntKind.u8 0, Value.int IntKind.u8 0, Value.int IntKind.u8 0, Value.int IntKind.u8 0, Value.int IntKind.u8 0, Value.int IntKind.u8 0, Value.int IntKind.u8 0, Value.int IntKind.u8 0] #[Value.int IntKind.u8 0, Value.int IntKind.u8 0, Value.int IntKind.u8 0, Value.int IntKind.u8 0, Value.int IntKind.u8 0, Value.int IntKind.u8 0, Value.int IntKind.u8 0, Value.int IntKind.u8 0, Value.int IntKind.u8 0, Value.int IntKind.u8 0, Value.int IntKind.u8 0, Value.int IntKind.u8 0, Value.int IntKind.u8 0, Value.int IntKind.u8 0, Value.int IntKind.u8 0, Value.int IntKind.u8 0] 23 23
  have X0 : Hid (Blk _ w.heap.size (zB 16)) := x0
  have X1 : Hid (Blk _ (w.heap.size + 1) (zB 16)) := x1
  have X2 : Hid (Below w.heap.size w _) := x2
  obtain ⟨n, hn⟩ : ∃ n, n = xs.length := ⟨_, rfl⟩
  have HN : Hid (n = xs.length) := hn
  rw [← hn] at SL MI
  rw [← hn]
  clear x0 x1 x2 hbl hn hv hc hr hi
  go_enter Try.func36, Try.ntmps36
  go_wp2_with (simp only [zero_a16])
  generalize World.alloc (w.alloc _) _ = w1 at *
  refine wp_region_monoSE 4 [MP.eq (.slice (some ⟨w.heap.size + 1, 0, none⟩) 16 16), MP.eq (.slice (some ⟨g, q, none⟩) n vc), MP.eq (.int .i64 (i : Int)), MP.eq (.slice (some ⟨g, q + i, none⟩) (n - i) (vc - i))] (by kernel_rfl) (by kernel_rfl) rfl (by decide) (by kernel_rfl) ?_
  apply Exists.intro
  refine ⟨fun vals => ?_, ?_, fun vals4 w4 hb4 hF hO => ?_⟩
  · simp only [putsV, dstL, List.length_cons, List.length_nil, Nat.zero_add, Nat.reduceAdd, List.getElem?_cons_zero, List.getElem?_cons_succ, Option.bind_some, Act.put, List.setIfInBounds_toArray, List.set_cons_succ, List.set_cons_zero]
    rfl
  · refine ⟨?_, ?_, ?_, ?_, trivial⟩
    · intro vals W hW hw hd
      try simp [Region.binds] at hd
      refine ⟨by first | rfl | simp [Region.wanted, yielded, hd], ?_⟩
      exact yields_all u_a16 gi_u8 (by decide) (.tmp 5) rfl (w.heap.size + 1) 0 rfl rfl
    · intro vals W hW hw hd
      try simp [Region.binds] at hd
      refine ⟨by first | rfl | simp [Region.wanted, yielded, hd], ?_⟩
      simp [go_sem, hd]
      exact Below.refl _ _
    · intro vals W hW hw hd
      try simp [Region.binds] at hd
      refine ⟨by first | rfl | simp [Region.wanted, yielded, hd], ?_⟩
      simp [go_sem, hd]
      exact Below.refl _ _
    · intro vals W hW hw hd
      try simp [Region.binds] at hd
      refine ⟨by first | rfl | simp [Region.wanted, yielded, hd], ?_⟩
      exact yields_cutB (.tmp 7) (.tmp 8) rfl (some ⟨g, q, none⟩) vc i .i64 xs (by rw [← HN.out]; exact hd.1) hd.2 NI.out (by rw [← HN.out]; exact SL.out)
  obtain ⟨f0, f1, f2, f3, _⟩ := hF
  simp only [MP.eq_p] at f0 f1 f2 f3
  rw [f0, f1, f2, f3]
  simp only [List.drop_succ_cons, List.drop_zero]
  have Y0 : Hid (Blk w4 w.heap.size (zB 16)) := X0.out.up hb4.out X0.out.lt
  have Y1 : Hid (Blk w4 (w.heap.size + 1) (zB 16)) := X1.out.up hb4.out X1.out.lt
  have Y2 : Hid (Below w.heap.size w w4) := X2.out.trans (hb4.out.mono X2.out.size)
  have RR : Hid _ := RB.out w4 Y2.out
  have TT : Hid (w4.there (w.heap.size + 1) 0 bl.length) := Y1.out.there (by rw [zB_length, LB.out]; omega)
  have MM : Hid (bl.length = min (n - i) 16) := by rw [LB.out]; exact MI.out
  clear f0 f1 f2 f3 hb4 hO X0 X1 X2 RB
  go_wp2_with (refine wp_copyR rfl (.tmp 6) (.tmp 9) rfl (w.heap.size + 1) 0 16 16 g (q + i) (n - i) (vc - i) bl rfl rfl MM.out RR.out TT.out ?_)
  intro w5 hw5
  have Z0 : Hid (Blk w5 w.heap.size (zB 16)) := by rw [hw5.out]; exact Y0.out.apart (by omega)
  have Z1 : Hid (Blk w5 (w.heap.size + 1) (bl.map b8)) := by rw [hw5.out]; exact Y1.out.put (by rw [List.length_map, LB.out, zB_length])
  have Z2 : Hid (Below w.heap.size w w5) := by rw [hw5.out]; exact below_setCells _ _ _ Y2.out (by omega)
  have T0 : Hid (w5.there w.heap.size 0 (bl.map b8).length) := Z0.out.there (by rw [List.length_map, LB.out, zB_length]; omega)
  clear hw5 Y0 Y1 Y2 RR TT
  go_wp2_with (first | refine wpList_load_mid rfl 23 (.tmp 5) rfl (w.heap.size + 1) 0 rfl (bl.map b8) _ Z1.out.all u_a16 rfl (info_n info_a16 bl LB.out) ?_ | refine wp_store_eq rfl 23 (.tmp 4) (.tmp 11) rfl w.heap.size 0 (bl.map b8) rfl rfl T0.out (info_n info_a16 bl LB.out) (one_b8 _) ?_)
  intro w9 hw9
  go_wp2_with fail
  refine bodyPost_ret (v := aB bl) ?_ rfl ⟨rfl, ?_⟩
  · rw [hw9.out]
    exact results_cell (b := w.heap.size) rfl rfl (World.rangeAt_setCells_same _ _ _ _ T0.out) u_a16 rfl (info_n info_a16 bl LB.out)
  · rw [hw9.out]
    exact below_setCells _ _ _ Z2.out (Nat.le_refl _)
end Go.Proofs.Ytmfbdacalenfdaa
