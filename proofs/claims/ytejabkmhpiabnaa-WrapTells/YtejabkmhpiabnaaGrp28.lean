/- Texts that were joined: WMath, RWr. -/
import Derived.Test.YtejabkmhpiabnaaAMath
import Derived.Test.YtejabkmhpiabnaaGrp24
import Derived.Test.YtejabkmhpiabnaaAeW
/- Keys under a key, as functions of lists: wrapped and back. -/
namespace Go.Proofs.Ytejabkmhpiabnaa.A
/-- Eight bytes of a number, the greatest first. -/
def be8 (n : Nat) : List Nat := by_ 8 fun j => n / 256 ^ (7 - j) % 256
theorem be8_ok (n : Nat) : ok 8 (be8 n) := by_ok fun _ _ => Nat.mod_lt _ (by decide)
def xor8 (a b : List Nat) : List Nat := by_ 8 fun i => a.getD i 0 ^^^ b.getD i 0
theorem xor8_ok {a b : List Nat} (ha : ok 8 a) (hb : ok 8 b) : ok 8 (xor8 a b) := by_ok fun i _ => G.xor_lt (ha.at i) (hb.at i)
theorem xor8_twice {a b : List Nat} (ha : ok 8 a) : xor8 (xor8 a b) b = a := by
  refine Eq.trans (by_congr fun i hi => ?_) (by_self ha.1)
  unfold xor8
  rw [by_get hi, Nat.xor_assoc, Nat.xor_self, Nat.xor_zero]
/-- Eight bytes, n of them. -/
def okE (n : Nat) (rs : List (List Nat)) : Prop := rs.length = n ∧ ∀ d ∈ rs, ok 8 d
theorem okE.at {n : Nat} {rs : List (List Nat)} (h : okE n rs) {i : Nat} (hi : i < n) : ok 8 (rs.getD i []) := by
  rw [List.getD_eq_getElem?_getD, List.getElem?_eq_getElem (by rw [h.1]; exact hi)]
  exact h.2 _ (List.getElem_mem _)
theorem okE.set {n : Nat} {rs : List (List Nat)} (h : okE n rs) (i : Nat) {x : List Nat} (hx : ok 8 x) : okE n (rs.set i x) := ⟨by rw [List.length_set]; exact h.1, fun d hd => by
  rcases List.mem_or_eq_of_mem_set hd with h1 | h1
  · exact h.2 d h1
  · rw [h1]; exact hx⟩
theorem ok_two {m n : Nat} {a b : List Nat} (ha : ok m a) (hb : ok n b) : ok (m + n) (a ++ b) := ⟨by rw [List.length_append, ha.1, hb.1], fun x hx => (List.mem_append.1 hx).elim (ha.2 x) (hb.2 x)⟩
theorem ok_front {b : List Nat} (h : ok 16 b) : ok 8 (b.take 8) := ⟨by rw [List.length_take, h.1]; rfl, fun x hx => h.2 x (List.mem_of_mem_take hx)⟩
theorem ok_back {b : List Nat} (h : ok 16 b) : ok 8 (b.drop 8) := ⟨by rw [List.length_drop, h.1], fun x hx => h.2 x (List.mem_of_mem_drop hx)⟩
/-- What is wrapped: A and the eights. -/
abbrev WS := List Nat × List (List Nat)
def WS.ok (n : Nat) (s : WS) : Prop := A.ok 8 s.1 ∧ okE n s.2
/-- Step t, the first one being 0. -/
def wstep (E : List Nat → List Nat) (n t : Nat) (s : WS) : WS :=
  let b := E (s.1 ++ s.2.getD (t % n) [])
  (xor8 (b.take 8) (be8 (t + 1)), s.2.set (t % n) (b.drop 8))
def wback (D : List Nat → List Nat) (n t : Nat) (s : WS) : WS :=
  let b := D (xor8 s.1 (be8 (t + 1)) ++ s.2.getD (t % n) [])
  (b.take 8, s.2.set (t % n) (b.drop 8))
/-- A block becomes a block. -/
def blkE (E : List Nat → List Nat) : Prop := ∀ b, ok 16 b → ok 16 (E b)
/-- The one undoes the other. -/
def inv (D E : List Nat → List Nat) : Prop := ∀ b, ok 16 b → D (E b) = b
theorem wstep_ok {E : List Nat → List Nat} (hE : blkE E) {n : Nat} (hn : 0 < n) (t : Nat) {s : WS} (h : s.ok n) : (wstep E n t s).ok n := by
  have hb := hE _ (ok_two h.1 (h.2.at (Nat.mod_lt t hn)))
  exact ⟨xor8_ok (ok_front hb) (be8_ok _), h.2.set _ (ok_back hb)⟩
theorem wback_ok {D : List Nat → List Nat} (hD : blkE D) {n : Nat} (hn : 0 < n) (t : Nat) {s : WS} (h : s.ok n) : (wback D n t s).ok n := by
  have hb := hD _ (ok_two (xor8_ok h.1 (be8_ok (t + 1))) (h.2.at (Nat.mod_lt t hn)))
  exact ⟨ok_front hb, h.2.set _ (ok_back hb)⟩
theorem getD_set_eq {rs : List (List Nat)} {i : Nat} (hi : i < rs.length) (x : List Nat) : (rs.set i x).getD i [] = x := by
  rw [List.getD_eq_getElem?_getD, List.getElem?_set_self hi]
  rfl
theorem set_getD {rs : List (List Nat)} {i : Nat} (hi : i < rs.length) : rs.set i (rs.getD i []) = rs := by
  rw [List.getD_eq_getElem?_getD, List.getElem?_eq_getElem hi]
  exact List.set_getElem_self hi
theorem wback_wstep {D E : List Nat → List Nat} (hE : blkE E) (hi' : inv D E) {n : Nat} (hn : 0 < n) (t : Nat) {s : WS} (h : s.ok n) : wback D n t (wstep E n t s) = s := by
  obtain ⟨a, r⟩ := s
  obtain ⟨ha, hr⟩ := h
  have hi : t % n < r.length := by rw [hr.1]; exact Nat.mod_lt t hn
  have hab := ok_two ha (hr.at (Nat.mod_lt t hn))
  have hb := hE _ hab
  have ha8 : a.length = 8 := ha.1
  simp only [wback, wstep]
  rw [xor8_twice (ok_front hb), getD_set_eq hi, List.take_append_drop, hi' _ hab, List.set_set]
  rw [show (a ++ r.getD (t % n) []).take 8 = a by rw [← ha8, List.take_left], show (a ++ r.getD (t % n) []).drop 8 = r.getD (t % n) [] by rw [← ha8, List.drop_left], set_getD hi]
theorem wstep_wback {D E : List Nat → List Nat} (hi' : inv E D) {n : Nat} (hn : 0 < n) (t : Nat) {s : WS} (h : s.ok n) : wstep E n t (wback D n t s) = s := by
  obtain ⟨a, r⟩ := s
  obtain ⟨ha, hr⟩ := h
  have hi : t % n < r.length := by rw [hr.1]; exact Nat.mod_lt t hn
  have hx := xor8_ok ha (be8_ok (t + 1))
  have hab := ok_two hx (hr.at (Nat.mod_lt t hn))
  have ha8 : (xor8 a (be8 (t + 1))).length = 8 := hx.1
  simp only [wback, wstep]
  rw [getD_set_eq hi, List.take_append_drop, hi' _ hab, List.set_set]
  rw [show (xor8 a (be8 (t + 1)) ++ r.getD (t % n) []).take 8 = xor8 a (be8 (t + 1)) by rw [← ha8, List.take_left], show (xor8 a (be8 (t + 1)) ++ r.getD (t % n) []).drop 8 = r.getD (t % n) [] by rw [← ha8, List.drop_left], set_getD hi, xor8_twice ha]
/-- The first t steps. -/
def wrun (E : List Nat → List Nat) (n : Nat) (s : WS) : Nat → WS
  | 0 => s
  | t + 1 => wstep E n t (wrun E n s t)
/-- The last t of m steps undone. -/
def wundo (D : List Nat → List Nat) (n m : Nat) (s : WS) : Nat → WS
  | 0 => s
  | t + 1 => wback D n (m - (t + 1)) (wundo D n m s t)
theorem wrun_ok {E : List Nat → List Nat} (hE : blkE E) {n : Nat} (hn : 0 < n) {s : WS} (h : s.ok n) : ∀ t, (wrun E n s t).ok n
  | 0 => h
  | t + 1 => wstep_ok hE hn t (wrun_ok hE hn h t)
theorem wundo_ok {D : List Nat → List Nat} (hD : blkE D) {n : Nat} (hn : 0 < n) (m : Nat) {s : WS} (h : s.ok n) : ∀ t, (wundo D n m s t).ok n
  | 0 => h
  | t + 1 => wback_ok hD hn _ (wundo_ok hD hn m h t)
theorem wundo_wrun {D E : List Nat → List Nat} (hE : blkE E) (hi' : inv D E) {n : Nat} (hn : 0 < n) (m : Nat) {s : WS} (h : s.ok n) : ∀ t, t ≤ m → wundo D n m (wrun E n s m) t = wrun E n s (m - t)
  | 0, _ => rfl
  | t + 1, ht => by
    rw [wundo, wundo_wrun hE hi' hn m h t (by omega), show m - t = (m - (t + 1)) + 1 by omega, wrun, wback_wstep hE hi' hn _ (wrun_ok hE hn h _)]
theorem wrun_wundo {D E : List Nat → List Nat} (hD : blkE D) (hi' : inv E D) {n : Nat} (hn : 0 < n) (m : Nat) {s : WS} (h : s.ok n) : ∀ t, t ≤ m → wrun E n (wundo D n m s m) t = wundo D n m s (m - t)
  | 0, _ => rfl
  | t + 1, ht => by
    rw [wrun, wrun_wundo hD hi' hn m h t (by omega), show m - t = (m - (t + 1)) + 1 by omega, wundo, show m - (m - (t + 1) + 1) = t by omega, wstep_wback hi' hn _ (wundo_ok hD hn m h _)]
/-- The eights of a text. -/
def eights (p : List Nat) (n : Nat) : List (List Nat) := (List.range n).map fun i => (p.drop (8 * i)).take 8
theorem eights_length (p : List Nat) (n : Nat) : (eights p n).length = n := by simp [eights]
theorem eights_at (p : List Nat) {n i : Nat} (h : i < n) : (eights p n).getD i [] = (p.drop (8 * i)).take 8 := by simp [eights, List.getD_eq_getElem?_getD, h]
theorem eights_ok {p : List Nat} {n : Nat} (h : ok (8 * n) p) : okE n (eights p n) := ⟨eights_length p n, fun d hd => by
  obtain ⟨i, hi, rfl⟩ := List.mem_map.1 hd
  have hi := List.mem_range.1 hi
  exact ⟨by rw [List.length_take, List.length_drop, h.1]; omega, fun x hx => h.2 x (List.mem_of_mem_drop (List.mem_of_mem_take hx))⟩⟩
theorem eights_succ (p : List Nat) (n : Nat) : eights p (n + 1) = eights p n ++ [(p.drop (8 * n)).take 8] := by
  simp [eights, List.range_succ]
theorem eights_flat (p : List Nat) : ∀ n, 8 * n ≤ p.length → (eights p n).flatten = p.take (8 * n)
  | 0, _ => by simp [eights]
  | n + 1, h => by
    rw [eights_succ, List.flatten_append, eights_flat p n (by omega)]
    simp only [List.flatten_cons, List.flatten_nil, List.append_nil]
    rw [show 8 * (n + 1) = 8 * n + 8 by omega, List.take_add]
theorem okE.flen : ∀ {n : Nat} {rs : List (List Nat)}, okE n rs → rs.flatten.length = 8 * n
  | n, [], h => by have := h.1; simp at this; subst this; rfl
  | 0, d :: rs, h => by have := h.1; simp at this
  | n + 1, d :: rs, h => by
    have h1 : okE n rs := ⟨by have := h.1; simpa using this, fun x hx => h.2 x (by simp [hx])⟩
    rw [List.flatten_cons, List.length_append, h1.flen, (h.2 d (by simp)).1]
    omega
theorem okE.flow {n : Nat} {rs : List (List Nat)} (h : okE n rs) : ok (8 * n) rs.flatten := ⟨h.flen, fun x hx => by
  obtain ⟨d, hd, hx⟩ := List.mem_flatten.1 hx
  exact (h.2 d hd).2 x hx⟩
/-- Eight i lies in the row; another in its place. -/
theorem okE.word {n : Nat} {rs : List (List Nat)} (h : okE n rs) {i : Nat} (hi : i < n) : ∃ a c, a.length = 8 * i ∧ rs.flatten = a ++ (rs.getD i [] ++ c) ∧ ∀ x, (rs.set i x).flatten = a ++ (x ++ c) := by
  have hl : i < rs.length := by rw [h.1]; exact hi
  refine ⟨(rs.take i).flatten, (rs.drop (i + 1)).flatten, ?_, ?_, fun x => ?_⟩
  · have : okE i (rs.take i) := ⟨by rw [List.length_take]; omega, fun d hd => h.2 d (List.mem_of_mem_take hd)⟩
    exact this.flen
  · have e : rs = rs.take i ++ (rs.getD i [] :: rs.drop (i + 1)) := by
      rw [List.getD_eq_getElem?_getD, List.getElem?_eq_getElem hl]
      simp
    conv => lhs; rw [e]
    rw [List.flatten_append, List.flatten_cons]
  · rw [List.set_eq_take_append_cons_drop, if_pos hl, List.flatten_append, List.flatten_cons]
theorem eights_of {n : Nat} : ∀ {rs : List (List Nat)}, okE n rs → eights rs.flatten n = rs := by
  intro rs h
  apply List.ext_getElem (by rw [eights_length, h.1])
  intro i h1 h2
  have hi : i < n := by rw [eights_length] at h1; exact h1
  obtain ⟨a, c, ha, e, _⟩ := h.word hi
  have e1 := eights_at rs.flatten hi
  rw [List.getD_eq_getElem?_getD, List.getElem?_eq_getElem h1] at e1
  have e2 : rs.getD i [] = rs[i] := by rw [List.getD_eq_getElem?_getD, List.getElem?_eq_getElem h2]; rfl
  have h8 : (rs.getD i []).length = 8 := (h.at hi).1
  refine Eq.trans e1 ?_
  rw [e, ← ha, List.drop_left, ← e2, ← h8, List.take_left]
/-- Eight bytes 166. -/
def a6 : List Nat := List.replicate 8 166
theorem a6_ok : ok 8 a6 := ⟨rfl, fun x hx => by rw [(List.mem_replicate.1 hx).2]; decide⟩
/-- So many bytes can be wrapped. -/
def canW (n : Nat) : Prop := n % 8 = 0 ∧ 16 ≤ n ∧ n ≤ 64
def canU (n : Nat) : Prop := n % 8 = 0 ∧ 24 ≤ n ∧ n ≤ 72
def wrapE (E : List Nat → List Nat) (p : List Nat) : List Nat :=
  let s := wrun E (p.length / 8) (a6, eights p (p.length / 8)) (6 * (p.length / 8))
  s.1 ++ s.2.flatten
def unwrS (D : List Nat → List Nat) (c : List Nat) : WS := wundo D (c.length / 8 - 1) (6 * (c.length / 8 - 1)) (c.take 8, eights (c.drop 8) (c.length / 8 - 1)) (6 * (c.length / 8 - 1))
def unwrapE (D : List Nat → List Nat) (c : List Nat) : Option (List Nat) := if (unwrS D c).1 = a6 then some (unwrS D c).2.flatten else none
theorem canW.start {p : List Nat} (h : canW p.length) (hp : ∀ x ∈ p, x < 256) : 0 < p.length / 8 ∧ WS.ok (p.length / 8) (a6, eights p (p.length / 8)) := ⟨by have := h; unfold canW at this; omega, a6_ok, eights_ok ⟨by have := h.1; omega, hp⟩⟩
theorem canU.start {c : List Nat} (h : canU c.length) (hc : ∀ x ∈ c, x < 256) : 0 < c.length / 8 - 1 ∧ WS.ok (c.length / 8 - 1) (c.take 8, eights (c.drop 8) (c.length / 8 - 1)) := by
  have h0 := h
  unfold canU at h0
  exact ⟨by omega, ⟨by rw [List.length_take]; omega, fun x hx => hc x (List.mem_of_mem_take hx)⟩, eights_ok ⟨by rw [List.length_drop]; omega, fun x hx => hc x (List.mem_of_mem_drop hx)⟩⟩
theorem wrapE_ok {E : List Nat → List Nat} (hE : blkE E) {p : List Nat} (h : canW p.length) (hp : ∀ x ∈ p, x < 256) : ok (p.length + 8) (wrapE E p) := by
  obtain ⟨h0, hs⟩ := h.start hp
  have hr := wrun_ok hE h0 hs (6 * (p.length / 8))
  unfold wrapE
  have := ok_two hr.1 hr.2.flow
  rw [show 8 + 8 * (p.length / 8) = p.length + 8 by have := h.1; omega] at this
  exact this
theorem unwrapE_ok {D : List Nat → List Nat} (hD : blkE D) {c p : List Nat} (h : canU c.length) (hc : ∀ x ∈ c, x < 256) (e : unwrapE D c = some p) : ok (c.length - 8) p := by
  obtain ⟨h0, hs⟩ := h.start hc
  have hr := wundo_ok hD h0 (6 * (c.length / 8 - 1)) hs (6 * (c.length / 8 - 1))
  unfold unwrapE at e
  split at e
  · obtain rfl := Option.some.inj e
    have := hr.2.flow
    rw [show 8 * (c.length / 8 - 1) = c.length - 8 by have := h; unfold canU at this; omega] at this
    exact this
  · cases e
/-- What was wrapped is unwrapped as it was. -/
theorem unwrapE_wrapE {D E : List Nat → List Nat} (hE : blkE E) (hi' : inv D E) {p : List Nat} (h : canW p.length) (hp : ∀ x ∈ p, x < 256) : unwrapE D (wrapE E p) = some p := by
  obtain ⟨h0, hs⟩ := h.start hp
  have hl := (wrapE_ok hE h hp).1
  have hm := h.1
  have e : unwrS D (wrapE E p) = (a6, eights p (p.length / 8)) := by
    unfold unwrS
    rw [hl, show (p.length + 8) / 8 - 1 = p.length / 8 by omega]
    have hr := wrun_ok hE h0 hs (6 * (p.length / 8))
    have hu := wundo_wrun hE hi' h0 (6 * (p.length / 8)) hs (6 * (p.length / 8)) (Nat.le_refl _)
    rw [Nat.sub_self, wrun] at hu
    unfold wrapE
    generalize wrun E (p.length / 8) (a6, eights p (p.length / 8)) (6 * (p.length / 8)) = s at *
    obtain ⟨a, r⟩ := s
    have ha : a.length = 8 := hr.1.1
    simp only
    rw [show (a ++ r.flatten).take 8 = a by rw [← ha, List.take_left], show (a ++ r.flatten).drop 8 = r.flatten by rw [← ha, List.drop_left], eights_of hr.2]
    exact hu
  unfold unwrapE
  rw [e, if_pos rfl, eights_flat p _ (by omega), List.take_of_length_le (by omega)]
/-- What is unwrapped is wrapped to just that. -/
theorem wrapE_unwrapE {D E : List Nat → List Nat} (hD : blkE D) (hi' : inv E D) {c p : List Nat} (h : canU c.length) (hc : ∀ x ∈ c, x < 256) (e : unwrapE D c = some p) : wrapE E p = c := by
  obtain ⟨h0, hs⟩ := h.start hc
  have hp := unwrapE_ok hD h hc e
  have h1 := h
  unfold canU at h1
  have hr := wundo_ok hD h0 (6 * (c.length / 8 - 1)) hs (6 * (c.length / 8 - 1))
  have hu := wrun_wundo hD hi' h0 (6 * (c.length / 8 - 1)) hs (6 * (c.length / 8 - 1)) (Nat.le_refl _)
  rw [Nat.sub_self, wundo] at hu
  unfold unwrapE at e
  split at e
  · rename_i h6
    obtain rfl := Option.some.inj e
    unfold wrapE
    rw [hp.1, show (c.length - 8) / 8 = c.length / 8 - 1 by omega]
    have e2 : (a6, eights (unwrS D c).2.flatten (c.length / 8 - 1)) = unwrS D c := by
      have hr2 : okE (c.length / 8 - 1) (unwrS D c).2 := hr.2
      rw [eights_of hr2, ← h6]
    rw [e2]
    unfold unwrS
    rw [hu]
    simp only
    rw [eights_flat (c.drop 8) _ (by rw [List.length_drop]; omega), List.take_of_length_le (l := c.drop 8) (by rw [List.length_drop]; omega), List.take_append_drop]
  · cases e
/-- The errno of what was unwrapped. -/
def unE : Option (List Nat) → Int
  | some _ => 0
  | none => 5
theorem encE {ws : List (List Nat)} (hw : okW ws) : blkE (encS ws) := fun _ h => encS_ok hw h
theorem decE {ws : List (List Nat)} (hw : okW ws) : blkE (decS ws) := fun _ h => decS_ok hw h
theorem invDE {ws : List (List Nat)} (hw : okW ws) : inv (decS ws) (encS ws) := fun _ h => dec_encS hw h
theorem invED {ws : List (List Nat)} (hw : okW ws) : inv (encS ws) (decS ws) := fun _ h => enc_decS hw h
/-- By a key's words. -/
def wrapS (ws : List (List Nat)) (p : List Nat) : List Nat := wrapE (encS ws) p
def unwrapS (ws : List (List Nat)) (c : List Nat) : Option (List Nat) := unwrapE (decS ws) c
theorem wrapS_ok {ws : List (List Nat)} (hw : okW ws) {p : List Nat} (h : canW p.length) (hp : ∀ x ∈ p, x < 256) : ok (p.length + 8) (wrapS ws p) := wrapE_ok (encE hw) h hp
theorem unwrapS_ok {ws : List (List Nat)} (hw : okW ws) {c p : List Nat} (h : canU c.length) (hc : ∀ x ∈ c, x < 256) (e : unwrapS ws c = some p) : ok (c.length - 8) p := unwrapE_ok (decE hw) h hc e
theorem unwrap_wrap {ws : List (List Nat)} (hw : okW ws) {p : List Nat} (h : canW p.length) (hp : ∀ x ∈ p, x < 256) : unwrapS ws (wrapS ws p) = some p := unwrapE_wrapE (encE hw) (invDE hw) h hp
theorem wrap_unwrap {ws : List (List Nat)} (hw : okW ws) {c p : List Nat} (h : canU c.length) (hc : ∀ x ∈ c, x < 256) (e : unwrapS ws c = some p) : wrapS ws p = c := wrapE_unwrapE (decE hw) (invED hw) h hc e
theorem wrap_inj {ws : List (List Nat)} (hw : okW ws) {p q : List Nat} (h : canW p.length) (hp : ∀ x ∈ p, x < 256) (h' : canW q.length) (hq : ∀ x ∈ q, x < 256) (e : wrapS ws p = wrapS ws q) : p = q := by
  have h1 := unwrap_wrap hw h hp
  rw [e, unwrap_wrap hw h' hq] at h1
  exact (Option.some.inj h1).symm
end Go.Proofs.Ytejabkmhpiabnaa.A

/- The contracts of sealringref.eight and sealringref.counted; rows of texts. -/
namespace Go.Proofs.Ytejabkmhpiabnaa
open Go.RowKit
set_option linter.unusedSimpArgs false
attribute [local go_sem] YieldsP execOp
attribute [local simp] MP.eq_p
theorem u_a8 : Try.prog.underlying 50 = some (.array 8 5) := by kernel_rfl
theorem info_a8 : (Try.prog.info? 50).map (·.size) = some 8 := by kernel_rfl
theorem zero_a8 (w : World) : (zeroValue 50).run Try.prog w = .ok (.agg (zB 8).toArray) w := zero_of (by kernel_rfl) w
set_option maxRecDepth 20000 in
set_option maxHeartbeats 1000000 in
theorem reight_fun (s : List Nat) (hs : ∀ x ∈ s, x < 256) (h8 : s.length = 8) (w : World) : Calls Try.prog 31 #[.string (sOf s)] w fun e w' => e = .returned (aB s) ∧ Below w.heap.size w w' := by
  obtain ⟨new, hnew⟩ : ∃ new : Nat → Nat, new = fun p => s.getD p 0 := ⟨_, rfl⟩
  have SG : Hid (∀ (j : Nat) (h : j < (sOf s).size), ((sOf s)[j]'h).toNat = s.getD j 0) := sOf_get hs
  have SZ : (sOf s).size = 8 := by rw [sOf_size]; exact h8
  have SE : Hid (A.midN 8 (fun _ => 0) new 8 = s) := by rw [A.midN_all, hnew, A.by_self h8]; exact rfl
  have NG : Hid (∀ j, s.getD j 0 = new j) := fun j => by rw [hnew]
  obtain ⟨x0, x1, x2⟩ := al2 w #[Value.int IntKind.u8 0, Value.int IntKind.u8 0, Value.int IntKind.u8 0, Value.int IntKind.u8 0, Value.int IntKind.u8 0, Value.int IntKind.u8 0, Value.int IntKind.u8 0, Value.int IntKind.u8 0] #[Value.int IntKind.u8 0, Value.int IntKind.u8 0, Value.int IntKind.u8 0, Value.int IntKind.u8 0, Value.int IntKind.u8 0, Value.int IntKind.u8 0, Value.int IntKind.u8 0, Value.int IntKind.u8 0] 50 50
  have e0 : (A.midN 8 (fun _ => 0) new 0).map b8 = (#[Value.int IntKind.u8 0, Value.int IntKind.u8 0, Value.int IntKind.u8 0, Value.int IntKind.u8 0, Value.int IntKind.u8 0, Value.int IntKind.u8 0, Value.int IntKind.u8 0, Value.int IntKind.u8 0] : Array Value).toList := by rw [A.midN_zero]; rfl
  have X0 : Hid (Blk _ w.heap.size (zB 8)) := x0
  rw [← e0] at x1
  have X1 : Hid (Blk _ (w.heap.size + 1) ((A.midN 8 (fun _ => 0) new 0).map b8)) := x1
  have X2 : Hid (Below w.heap.size w _) := x2
  generalize sOf s = T at *
  clear x0 x1 x2 hnew hs e0
  go_enter Try.func31, Try.ntmps31
  go_wp2_with (first | simp only [zero_a8])
  generalize World.alloc (w.alloc _) _ = w1 at *
  go_loopw [5] (fun i wr => ∃ j : Nat, j ≤ 8 ∧ i = .int .i64 (j : Int) ∧ Hid (Blk wr w.heap.size (zB 8)) ∧ Hid (Blk wr (w.heap.size + 1) ((A.midN 8 (fun _ => 0) new j).map b8)) ∧ Hid (Below w.heap.size w wr)) (fun i _ => 8 - (intOf i).toNat)
  case atStart => exact ⟨0, by omega, rfl, X0, X1, X2⟩
  case round =>
    clear X0 X1 X2
    obtain ⟨j, hj, rfl, X0, X1, X2⟩ := hrel
    by_cases hj1 : j < 8
    · have j1 : (j : Int) < 8 := by omega
      have wj : IntKind.i64.wrap ((j : Int) + 1) = (j : Int) + 1 := by rw [IntKind.wrap_i64]; omega
      have gj : ∀ h, (T[j]'h).toNat = new j := fun h => by rw [SG.out j h, NG.out]
      have c1 := X1.out.byte j (by rw [A.midN_length]; exact hj1)
      have z1 := X1.out.fz j
      have V1 : Hid (Blk (wr.setCell ⟨w.heap.size + 1, j, none⟩ (b8 (new j))) (w.heap.size + 1) ((A.midN 8 (fun _ => 0) new (j + 1)).map b8)) := by
        rw [← A.midN_set (fun _ => 0) new hj1]
        exact X1.out.setB _ _ (by rw [A.midN_length]; exact hj1)
      have V0 : Hid _ := X0.out.apart1 (k' := w.heap.size + 1) (o := j) (v := b8 (new j)) (by omega)
      have V2 : Hid _ := X2.out.setCell (p := ⟨w.heap.size + 1, j, none⟩) (by show w.heap.size ≤ w.heap.size + 1; omega) (b8 (new j))
      have J1 : Hid (j < 8) := hj1
      generalize new j = nj at *
      clear hj hj1 X0 X1 X2
      go_wp2_with fail
      go_roundw
      case rel => exact ⟨j + 1, J1.out, by first | rfl | go_num, V0, V1, V2⟩
      case measure => have := J1.out; simp [intOf]; omega
    · obtain rfl : j = 8 := by omega
      rw [SE.out] at X1
      have HL : Hid (s.length = 8) := h8
      clear hj hj1 h8
      have T0 : Hid (wr.there w.heap.size 0 (s.map b8).length) := X0.out.there (by rw [List.length_map, HL.out, zB_length]; omega)
      go_wp2_with (first | refine wpList_load_mid rfl 50 (.tmp 3) rfl (w.heap.size + 1) 0 rfl (s.map b8) _ X1.out.all u_a8 rfl (info_n info_a8 s HL.out) ?_ | refine wp_store_eq rfl 50 (.tmp 2) (.tmp 14) rfl w.heap.size 0 (s.map b8) rfl rfl T0.out (info_n info_a8 s HL.out) (one_b8 _) ?_)
      intro w9 hw9
      go_wp2_with fail
      refine bodyPost_ret (v := aB s) ?_ rfl ⟨rfl, ?_⟩
      · rw [hw9.out]
        exact results_cell (b := w.heap.size) rfl rfl (World.rangeAt_setCells_same _ _ _ _ T0.out) u_a8 rfl (info_n info_a8 s HL.out)
      · rw [hw9.out]
        exact below_setCells _ _ _ X2.out (Nat.le_refl _)
namespace A
/-- Of eight places the last t are new ones. -/
def endE (old new : Nat → Nat) (t : Nat) : List Nat := by_ 8 fun p => if 8 - t ≤ p then new p else old p
theorem endE_length (old new : Nat → Nat) (t : Nat) : (endE old new t).length = 8 := by_length _ _
theorem endE_zero (old new : Nat → Nat) : endE old new 0 = by_ 8 old := by_congr fun _ hi => if_neg (by omega)
theorem endE_all (old new : Nat → Nat) : endE old new 8 = by_ 8 new := by_congr fun _ _ => if_pos (by omega)
theorem endE_at (old new : Nat → Nat) {t u : Nat} (h : u + t = 7) : (endE old new t).getD u 0 = old u := by
  unfold endE
  rw [by_get (by omega), if_neg (by omega)]
theorem endE_set (old new : Nat → Nat) {t u : Nat} (h : u + t = 7) : (endE old new t).set u (new u) = endE old new (t + 1) := by
  refine (by_self (l := (endE old new t).set u (new u)) (by rw [List.length_set, endE_length])).symm.trans (by_congr fun i hi => ?_)
  rw [getD_set _ _ _ _ (by rw [endE_length]; omega)]
  unfold endE
  rw [by_get hi]
  by_cases e : u = i
  · subst e
    rw [if_pos rfl, if_pos (by omega)]
  · rw [if_neg e]
    by_cases e2 : 8 - t ≤ i
    · rw [if_pos e2, if_pos (by omega)]
    · rw [if_neg e2, if_neg (by omega)]
end A
set_option maxRecDepth 20000 in
set_option maxHeartbeats 1000000 in
theorem rcounted_fun (a : List Nat) (ha : A.ok 8 a) (n : Nat) (hn : n < 65536) (w : World) : Calls Try.prog 30 #[aB a, .int .i64 (n : Int)] w fun e w' => e = .returned (aB (A.xor8 a (A.be8 n))) ∧ Below w.heap.size w w' := by
  obtain ⟨old, hold⟩ : ∃ old : Nat → Nat, old = fun p => a.getD p 0 := ⟨_, rfl⟩
  obtain ⟨new, hnew⟩ : ∃ new : Nat → Nat, new = fun p => a.getD p 0 ^^^ (A.be8 n).getD p 0 := ⟨_, rfl⟩
  obtain ⟨ca, hca⟩ : ∃ ca : Nat → Nat, ca = fun t => n / 256 ^ t := ⟨_, rfl⟩
  have NE : Hid (A.xor8 a (A.be8 n) = A.by_ 8 new) := by rw [hnew]; exact rfl
  have C0 : Hid (ca 0 = n) := by rw [hca]; show n / 256 ^ 0 = n; rw [Nat.pow_zero, Nat.div_one]
  have CL : Hid (∀ t, ca t < 65536) := fun t => by rw [hca]; exact Nat.lt_of_le_of_lt (Nat.div_le_self _ _) hn
  have CN : Hid (∀ t u, u + t = 7 → ca (t + 1) = ca t / 256 ∧ new u = old u ^^^ (ca t % 256)) := fun t u h => by
    rw [hca, hold, hnew]
    refine ⟨?_, ?_⟩
    · show n / 256 ^ (t + 1) = n / 256 ^ t / 256
      rw [Nat.pow_succ, Nat.div_div_eq_div_mul]
    · show a.getD u 0 ^^^ (A.be8 n).getD u 0 = _
      unfold A.be8
      rw [A.by_get (by omega), show 7 - u = t by omega]
  have OL : Hid (∀ p, old p < 256) := fun p => by rw [hold]; exact ha.at p
  rw [NE.out]
  obtain ⟨x0, x1, x2⟩ := al2 w (a.map b8).toArray #[Value.int IntKind.u8 0, Value.int IntKind.u8 0, Value.int IntKind.u8 0, Value.int IntKind.u8 0, Value.int IntKind.u8 0, Value.int IntKind.u8 0, Value.int IntKind.u8 0, Value.int IntKind.u8 0] 50 50
  rw [show (a.map b8).toArray.toList = (A.endE old new 0).map b8 by rw [A.endE_zero, hold, A.by_self ha.1]] at x0
  have X0 : Hid (Blk _ w.heap.size ((A.endE old new 0).map b8)) := x0
  have X1 : Hid (Blk _ (w.heap.size + 1) (zB 8)) := x1
  have X2 : Hid (Below w.heap.size w _) := x2
  clear x0 x1 x2 hold hnew hca NE ha hn
  go_enter Try.func30, Try.ntmps30
  go_wp2_with (simp only [zero_a8])
  generalize World.alloc (w.alloc _) _ = w1 at *
  go_loopw [5, 1] (fun i c wr => ∃ (t : Nat), t ≤ 8 ∧ i = .int .i64 (7 - (t : Int)) ∧ c = .int .i64 ((ca t : Nat) : Int) ∧ Hid (Blk wr w.heap.size ((A.endE old new t).map b8)) ∧ Hid (Blk wr (w.heap.size + 1) (zB 8)) ∧ Hid (Below w.heap.size w wr)) (fun i _ _ => (intOf i + 1).toNat)
  case atStart => exact ⟨0, by omega, rfl, by rw [C0.out], X0, X1, X2⟩
  case round =>
    clear X0 X1 X2
    obtain ⟨t, ht, rfl, rfl, X0, X1, X2⟩ := hrel
    by_cases ht1 : t < 8
    · obtain ⟨u, hu⟩ : ∃ u, u = 7 - t := ⟨_, rfl⟩
      have eu : (7 : Int) - (t : Int) = (u : Int) := by omega
      rw [eu]
      have u0 : (0 : Int) ≤ (u : Int) := by omega
      have u1 : (u : Int) < 8 := by omega
      have wu : IntKind.i64.wrap ((u : Int) - 1) = (u : Int) - 1 := by rw [IntKind.wrap_i64]; omega
      have UT : Hid (u + t = 7) := by show _ = _; omega
      have cu := X0.out.byte u (by rw [A.endE_length]; omega)
      rw [A.endE_at old new UT.out] at cu
      have fu := X0.out.fz u
      have V0 : Hid (Blk (wr.setCell ⟨w.heap.size, u, none⟩ (b8 (new u))) w.heap.size ((A.endE old new (t + 1)).map b8)) := by
        rw [← A.endE_set old new UT.out]
        exact X0.out.setB _ _ (by rw [A.endE_length]; have := UT.out; omega)
      have V1 : Hid _ := X1.out.apart1 (k' := w.heap.size) (o := u) (v := b8 (new u)) (by omega)
      have V2 : Hid _ := X2.out.setCell (p := ⟨w.heap.size, u, none⟩) (Nat.le_refl _) (b8 (new u))
      have cb := CL.out t
      have ob := OL.out u
      have cn := CN.out t u UT.out
      obtain ⟨lo, hlo⟩ : ∃ lo, lo = ca t % 256 := ⟨_, rfl⟩
      have m1 : ((ca t : Nat) : Int).tmod 256 = (lo : Int) := by rw [Int.tmod_eq_emod_of_nonneg (by omega)]; omega
      have m2 : ((ca t : Nat) : Int) % 256 = (lo : Int) := by omega
      have w8 : IntKind.u8.wrap (lo : Int) = (lo : Int) := by rw [IntKind.wrap_u8]; omega
      obtain ⟨nx, hnx⟩ : ∃ nx, nx = ca (t + 1) := ⟨_, rfl⟩
      have NX : Hid (nx = ca (t + 1)) := hnx
      have d1 : ((ca t : Nat) : Int).tdiv 256 = (nx : Int) := by rw [Int.tdiv_eq_ediv_of_nonneg (by omega), hnx, cn.1]; omega
      have d2 : ((ca t : Nat) : Int) / 256 = (nx : Int) := by rw [hnx, cn.1]; omega
      have wx : IntKind.i64.wrap (nx : Int) = (nx : Int) := by rw [IntKind.wrap_i64, hnx, cn.1]; omega
      have xe : bits .xor .u8 ((old u : Nat) : Int) (lo : Int) = ((new u : Nat) : Int) := by rw [cn.2, ← hlo]; exact g_xor ob (by omega)
      have T1 : Hid (t < 8) := ht1
      generalize new u = nu at *
      generalize old u = ou at *
      generalize ca t = ct at *
      clear hlo hnx cn cb ob hu ht ht1 X0 X1 X2 eu
      go_wp2_with fail
      go_roundw
      case rel =>
        have h := UT.out
        have e : (u : Int) - 1 = 7 - ((t + 1 : Nat) : Int) := by omega
        rw [e]
        exact ⟨t + 1, T1.out, rfl, by rw [← NX.out], V0, V1, V2⟩
      case measure => first | (simp [intOf]; done) | (have := UT.out; simp [intOf]; omega)
    · obtain rfl : t = 8 := by omega
      rw [A.endE_all] at X0
      have LL : Hid ((A.by_ 8 new).length = 8) := A.by_length _ _
      obtain ⟨l, hl⟩ : ∃ l, l = A.by_ 8 new := ⟨_, rfl⟩
      rw [← hl] at X0 LL
      have HE : Hid (l = A.by_ 8 new) := hl
      have n0 : ¬ (0 : Int) ≤ 7 - ((8 : Nat) : Int) := by omega
      clear hl ht ht1
      have T0 : Hid (wr.there (w.heap.size + 1) 0 (l.map b8).length) := X1.out.there (by rw [List.length_map, LL.out, zB_length]; omega)
      go_wp2_with (first | refine wpList_load_mid rfl 50 (.tmp 2) rfl w.heap.size 0 rfl (l.map b8) _ X0.out.all u_a8 rfl (info_n info_a8 l LL.out) ?_ | refine wp_store_eq rfl 50 (.tmp 4) (.tmp 20) rfl (w.heap.size + 1) 0 (l.map b8) rfl rfl T0.out (info_n info_a8 l LL.out) (one_b8 _) ?_)
      intro w9 hw9
      go_wp2_with fail
      refine bodyPost_ret (v := aB l) ?_ rfl ⟨by rw [HE.out], ?_⟩
      · rw [hw9.out]
        exact results_cell (b := w.heap.size + 1) rfl rfl (World.rangeAt_setCells_same _ _ _ _ T0.out) u_a8 rfl (info_n info_a8 l LL.out)
      · rw [hw9.out]
        exact below_setCells _ _ _ X2.out (by omega)
end Go.Proofs.Ytejabkmhpiabnaa
