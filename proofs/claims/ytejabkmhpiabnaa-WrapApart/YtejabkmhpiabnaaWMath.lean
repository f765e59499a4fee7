/- Keys under a key, as functions of lists: wrapped and back. -/
import Derived.Test.YtejabkmhpiabnaaAMath
namespace Go.Proofs.Ytejabkmhpiabnaa.A
/-- Eight bytes of a number, the greatest first. -/
def be8 (n : Nat) : List Nat := by_ 8 fun j => n / 256 ^ (7 - j) % 256
theorem be8_ok (n : Nat) : ok 8 (be8 n) := by_ok fun _ _ => Nat.mod_lt _ (by decide)
def xor8 (a b : List Nat) : List Nat := by_ 8 fun i => a.getD i 0 ^^^ b.getD i 0
theorem xor8_ok {a b : List Nat} (ha : ok 8 a) (hb : ok 8 b) : ok 8 (xor8 a b) := by_ok fun i _ => G.xor_lt (ha.at i) (hb.at i)
theorem xor8_twice {a b : List Nat} (ha : ok 8 a) : xor8 (xor8 a b) b = a := by
  refine Eq.trans (by_congr fun i hi => ?_) (by_self ha.1)
  unfold xor8
  rw [by_get hi, Nat.xor_assoc, Nat.xor_self, Nat.xor_zero]
/-- Eight bytes, n of them. -/
def okE (n : Nat) (rs : List (List Nat)) : Prop := rs.length = n ∧ ∀ d ∈ rs, ok 8 d
theorem okE.at {n : Nat} {rs : List (List Nat)} (h : okE n rs) {i : Nat} (hi : i < n) : ok 8 (rs.getD i []) := by
  rw [List.getD_eq_getElem?_getD, List.getElem?_eq_getElem (by rw [h.1]; exact hi)]
  exact h.2 _ (List.getElem_mem _)
theorem okE.set {n : Nat} {rs : List (List Nat)} (h : okE n rs) (i : Nat) {x : List Nat} (hx : ok 8 x) : okE n (rs.set i x) := ⟨by rw [List.length_set]; exact h.1, fun d hd => by
  rcases List.mem_or_eq_of_mem_set hd with h1 | h1
  · exact h.2 d h1
  · rw [h1]; exact hx⟩
theorem ok_two {m n : Nat} {a b : List Nat} (ha : ok m a) (hb : ok n b) : ok (m + n) (a ++ b) := ⟨by rw [List.length_append, ha.1, hb.1], fun x hx => (List.mem_append.1 hx).elim (ha.2 x) (hb.2 x)⟩
theorem ok_front {b : List Nat} (h : ok 16 b) : ok 8 (b.take 8) := ⟨by rw [List.length_take, h.1]; rfl, fun x hx => h.2 x (List.mem_of_mem_take hx)⟩
theorem ok_back {b : List Nat} (h : ok 16 b) : ok 8 (b.drop 8) := ⟨by rw [List.length_drop, h.1], fun x hx => h.2 x (List.mem_of_mem_drop hx)⟩
/-- What is wrapped: A and the eights. -/
abbrev WS := List Nat × List (List Nat)
def WS.ok (n : Nat) (s : WS) : Prop := A.ok 8 s.1 ∧ okE n s.2
/-- Step t, the first one being 0. -/
def wstep (E : List Nat → List Nat) (n t : Nat) (s : WS) : WS :=
  let b := E (s.1 ++ s.2.getD (t % n) [])
  (xor8 (b.take 8) (be8 (t + 1)), s.2.set (t % n) (b.drop 8))
def wback (D : List Nat → List Nat) (n t : Nat) (s : WS) : WS :=
  let b := D (xor8 s.1 (be8 (t + 1)) ++ s.2.getD (t % n) [])
  (b.take 8, s.2.set (t % n) (b.drop 8))
/-- A block becomes a block. -/
def blkE (E : List Nat → List Nat) : Prop := ∀ b, ok 16 b → ok 16 (E b)
/-- The one undoes the other. -/
def inv (D E : List Nat → List Nat) : Prop := ∀ b, ok 16 b → D (E b) = b
theorem wstep_ok {E : List Nat → List Nat} (hE : blkE E) {n : Nat} (hn : 0 < n) (t : Nat) {s : WS} (h : s.ok n) : (wstep E n t s).ok n := by
  have hb := hE _ (ok_two h.1 (h.2.at (Nat.mod_lt t hn)))
  exact ⟨xor8_ok (ok_front hb) (be8_ok _), h.2.set _ (ok_back hb)⟩
theorem wback_ok {D : List Nat → List Nat} (hD : blkE D) {n : Nat} (hn : 0 < n) (t : Nat) {s : WS} (h : s.ok n) : (wback D n t s).ok n := by
  have hb := hD _ (ok_two (xor8_ok h.1 (be8_ok (t + 1))) (h.2.at (Nat.mod_lt t hn)))
  exact ⟨ok_front hb, h.2.set _ (ok_back hb)⟩
theorem getD_set_eq {rs : List (List Nat)} {i : Nat} (hi : i < rs.length) (x : List Nat) : (rs.set i x).getD i [] = x := by
  rw [List.getD_eq_getElem?_getD, List.getElem?_set_self hi]
  rfl
theorem set_getD {rs : List (List Nat)} {i : Nat} (hi : i < rs.length) : rs.set i (rs.getD i []) = rs := by
  rw [List.getD_eq_getElem?_getD, List.getElem?_eq_getElem hi]
  exact List.set_getElem_self hi
theorem wback_wstep {D E : List Nat → List Nat} (hE : blkE E) (hi' : inv D E) {n : Nat} (hn : 0 < n) (t : Nat) {s : WS} (h : s.ok n) : wback D n t (wstep E n t s) = s := by
  obtain ⟨a, r⟩ := s
  obtain ⟨ha, hr⟩ := h
  have hi : t % n < r.length := by rw [hr.1]; exact Nat.mod_lt t hn
  have hab := ok_two ha (hr.at (Nat.mod_lt t hn))
  have hb := hE _ hab
  have ha8 : a.length = 8 := ha.1
  simp only [wback, wstep]
  rw [xor8_twice (ok_front hb), getD_set_eq hi, List.take_append_drop, hi' _ hab, List.set_set]
  rw [show (a ++ r.getD (t % n) []).take 8 = a by rw [← ha8, List.take_left], show (a ++ r.getD (t % n) []).drop 8 = r.getD (t % n) [] by rw [← ha8, List.drop_left], set_getD hi]
theorem wstep_wback {D E : List Nat → List Nat} (hi' : inv E D) {n : Nat} (hn : 0 < n) (t : Nat) {s : WS} (h : s.ok n) : wstep E n t (wback D n t s) = s := by
  obtain ⟨a, r⟩ := s
  obtain ⟨ha, hr⟩ := h
  have hi : t % n < r.length := by rw [hr.1]; exact Nat.mod_lt t hn
  have hx := xor8_ok ha (be8_ok (t + 1))
  have hab := ok_two hx (hr.at (Nat.mod_lt t hn))
  have ha8 : (xor8 a (be8 (t + 1))).length = 8 := hx.1
  simp only [wback, wstep]
  rw [getD_set_eq hi, List.take_append_drop, hi' _ hab, List.set_set]
  rw [show (xor8 a (be8 (t + 1)) ++ r.getD (t % n) []).take 8 = xor8 a (be8 (t + 1)) by rw [← ha8, List.take_left], show (xor8 a (be8 (t + 1)) ++ r.getD (t % n) []).drop 8 = r.getD (t % n) [] by rw [← ha8, List.drop_left], set_getD hi, xor8_twice ha]
/-- The first t steps. -/
def wrun (E : List Nat → List Nat) (n : Nat) (s : WS) : Nat → WS
  | 0 => s
  | t + 1 => wstep E n t (wrun E n s t)
/-- The last t of m steps undone. -/
def wundo (D : List Nat → List Nat) (n m : Nat) (s : WS) : Nat → WS
  | 0 => s
  | t + 1 => wback D n (m - (t + 1)) (wundo D n m s t)
theorem wrun_ok {E : List Nat → List Nat} (hE : blkE E) {n : Nat} (hn : 0 < n) {s : WS} (h : s.ok n) : ∀ t, (wrun E n s t).ok n
  | 0 => h
  | t + 1 => wstep_ok hE hn t (wrun_ok hE hn h t)
theorem wundo_ok {D : List Nat → List Nat} (hD : blkE D) {n : Nat} (hn : 0 < n) (m : Nat) {s : WS} (h : s.ok n) : ∀ t, (wundo D n m s t).ok n
  | 0 => h
  | t + 1 => wback_ok hD hn _ (wundo_ok hD hn m h t)
theorem wundo_wrun {D E : List Nat → List Nat} (hE : blkE E) (hi' : inv D E) {n : Nat} (hn : 0 < n) (m : Nat) {s : WS} (h : s.ok n) : ∀ t, t ≤ m → wundo D n m (wrun E n s m) t = wrun E n s (m - t)
  | 0, _ => rfl
  | t + 1, ht => by
    rw [wundo, wundo_wrun hE hi' hn m h t (by omega), show m - t = (m - (t + 1)) + 1 by omega, wrun, wback_wstep hE hi' hn _ (wrun_ok hE hn h _)]
theorem wrun_wundo {D E : List Nat → List Nat} (hD : blkE D) (hi' : inv E D) {n : Nat} (hn : 0 < n) (m : Nat) {s : WS} (h : s.ok n) : ∀ t, t ≤ m → wrun E n (wundo D n m s m) t = wundo D n m s (m - t)
  | 0, _ => rfl
  | t + 1, ht => by
    rw [wrun, wrun_wundo hD hi' hn m h t (by omega), show m - t = (m - (t + 1)) + 1 by omega, wundo, show m - (m - (t + 1) + 1) = t by omega, wstep_wback hi' hn _ (wundo_ok hD hn m h _)]
/-- The eights of a text. -/
def eights (p : List Nat) (n : Nat) : List (List Nat) := (List.range n).map fun i => (p.drop (8 * i)).take 8
theorem eights_length (p : List Nat) (n : Nat) : (eights p n).length = n := by simp [eights]
theorem eights_at (p : List Nat) {n i : Nat} (h : i < n) : (eights p n).getD i [] = (p.drop (8 * i)).take 8 := by simp [eights, List.getD_eq_getElem?_getD, h]
theorem eights_ok {p : List Nat} {n : Nat} (h : ok (8 * n) p) : okE n (eights p n) := ⟨eights_length p n, fun d hd => by
  obtain ⟨i, hi, rfl⟩ := List.mem_map.1 hd
  have hi := List.mem_range.1 hi
  exact ⟨by rw [List.length_take, List.length_drop, h.1]; omega, fun x hx => h.2 x (List.mem_of_mem_drop (List.mem_of_mem_take hx))⟩⟩
theorem eights_succ (p : List Nat) (n : Nat) : eights p (n + 1) = eights p n ++ [(p.drop (8 * n)).take 8] := by
  simp [eights, List.range_succ]
theorem eights_flat (p : List Nat) : ∀ n, 8 * n ≤ p.length → (eights p n).flatten = p.take (8 * n)
  | 0, _ => by simp [eights]
  | n + 1, h => by
    rw [eights_succ, List.flatten_append, eights_flat p n (by omega)]
    simp only [List.flatten_cons, List.flatten_nil, List.append_nil]
    rw [show 8 * (n + 1) = 8 * n + 8 by omega, List.take_add]
theorem okE.flen : ∀ {n : Nat} {rs : List (List Nat)}, okE n rs → rs.flatten.length = 8 * n
  | n, [], h => by have := h.1; simp at this; subst this; rfl
  | 0, d :: rs, h => by have := h.1; simp at this
  | n + 1, d :: rs, h => by
    have h1 : okE n rs := ⟨by have := h.1; simpa using this, fun x hx => h.2 x (by simp [hx])⟩
    rw [List.flatten_cons, List.length_append, h1.flen, (h.2 d (by simp)).1]
    omega
theorem okE.flow {n : Nat} {rs : List (List Nat)} (h : okE n rs) : ok (8 * n) rs.flatten := ⟨h.flen, fun x hx => by
  obtain ⟨d, hd, hx⟩ := List.mem_flatten.1 hx
  exact (h.2 d hd).2 x hx⟩
/-- Eight i lies in the row; another in its place. -/
theorem okE.word {n : Nat} {rs : List (List Nat)} (h : okE n rs) {i : Nat} (hi : i < n) : ∃ a c, a.length = 8 * i ∧ rs.flatten = a ++ (rs.getD i [] ++ c) ∧ ∀ x, (rs.set i x).flatten = a ++ (x ++ c) := by
  have hl : i < rs.length := by rw [h.1]; exact hi
  refine ⟨(rs.take i).flatten, (rs.drop (i + 1)).flatten, ?_, ?_, fun x => ?_⟩
  · have : okE i (rs.take i) := ⟨by rw [List.length_take]; omega, fun d hd => h.2 d (List.mem_of_mem_take hd)⟩
    exact this.flen
  · have e : rs = rs.take i ++ (rs.getD i [] :: rs.drop (i + 1)) := by
      rw [List.getD_eq_getElem?_getD, List.getElem?_eq_getElem hl]
      simp
    conv => lhs; rw [e]
    rw [List.flatten_append, List.flatten_cons]
  · rw [List.set_eq_take_append_cons_drop, if_pos hl, List.flatten_append, List.flatten_cons]
theorem eights_of {n : Nat} : ∀ {rs : List (List Nat)}, okE n rs → eights rs.flatten n = rs := by
  intro rs h
  apply List.ext_getElem (by rw [eights_length, h.1])
  intro i h1 h2
  have hi : i < n := by rw [eights_length] at h1; exact h1
  obtain ⟨a, c, ha, e, _⟩ := h.word hi
  have e1 := eights_at rs.flatten hi
  rw [List.getD_eq_getElem?_getD, List.getElem?_eq_getElem h1] at e1
  have e2 : rs.getD i [] = rs[i] := by rw [List.getD_eq_getElem?_getD, List.getElem?_eq_getElem h2]; rfl
  have h8 : (rs.getD i []).length = 8 := (h.at hi).1
  refine Eq.trans e1 ?_
  rw [e, ← ha, List.drop_left, ← e2, ← h8, List.take_left]
/-- Eight bytes 166. -/
def a6 : List Nat := List.replicate 8 166
theorem a6_ok : ok 8 a6 := ⟨rfl, fun x hx => by rw [(List.mem_replicate.1 hx).2]; decide⟩
/-- So many bytes can be wrapped. -/
def canW (n : Nat) : Prop := n % 8 = 0 ∧ 16 ≤ n ∧ n ≤ 64
def canU (n : Nat) : Prop := n % 8 = 0 ∧ 24 ≤ n ∧ n ≤ 72
def wrapE (E : List Nat → List Nat) (p : List Nat) : List Nat :=
  let s := wrun E (p.length / 8) (a6, eights p (p.length / 8)) (6 * (p.length / 8))
  s.1 ++ s.2.flatten
def unwrS (D : List Nat → List Nat) (c : List Nat) : WS := wundo D (c.length / 8 - 1) (6 * (c.length / 8 - 1)) (c.take 8, eights (c.drop 8) (c.length / 8 - 1)) (6 * (c.length / 8 - 1))
def unwrapE (D : List Nat → List Nat) (c : List Nat) : Option (List Nat) := if (unwrS D c).1 = a6 then some (unwrS D c).2.flatten else none
theorem canW.start {p : List Nat} (h : canW p.length) (hp : ∀ x ∈ p, x < 256) : 0 < p.length / 8 ∧ WS.ok (p.length / 8) (a6, eights p (p.length / 8)) := ⟨by have := h; unfold canW at this; omega, a6_ok, eights_ok ⟨by have := h.1; omega, hp⟩⟩
theorem canU.start {c : List Nat} (h : canU c.length) (hc : ∀ x ∈ c, x < 256) : 0 < c.length / 8 - 1 ∧ WS.ok (c.length / 8 - 1) (c.take 8, eights (c.drop 8) (c.length / 8 - 1)) := by
  have h0 := h
  unfold canU at h0
  exact ⟨by omega, ⟨by rw [List.length_take]; omega, fun x hx => hc x (List.mem_of_mem_take hx)⟩, eights_ok ⟨by rw [List.length_drop]; omega, fun x hx => hc x (List.mem_of_mem_drop hx)⟩⟩
theorem wrapE_ok {E : List Nat → List Nat} (hE : blkE E) {p : List Nat} (h : canW p.length) (hp : ∀ x ∈ p, x < 256) : ok (p.length + 8) (wrapE E p) := by
  obtain ⟨h0, hs⟩ := h.start hp
  have hr := wrun_ok hE h0 hs (6 * (p.length / 8))
  unfold wrapE
  have := ok_two hr.1 hr.2.flow
  rw [show 8 + 8 * (p.length / 8) = p.length + 8 by have := h.1; omega] at this
  exact this
theorem unwrapE_ok {D : List Nat → List Nat} (hD : blkE D) {c p : List Nat} (h : canU c.length) (hc : ∀ x ∈ c, x < 256) (e : unwrapE D c = some p) : ok (c.length - 8) p := by
  obtain ⟨h0, hs⟩ := h.start hc
  have hr := wundo_ok hD h0 (6 * (c.length / 8 - 1)) hs (6 * (c.length / 8 - 1))
  unfold unwrapE at e
  split at e
  · obtain rfl := Option.some.inj e
    have := hr.2.flow
    rw [show 8 * (c.length / 8 - 1) = c.length - 8 by have := h; unfold canU at this; omega] at this
    exact this
  · cases e
/-- What was wrapped is unwrapped as it was. -/
theorem unwrapE_wrapE {D E : List Nat → List Nat} (hE : blkE E) (hi' : inv D E) {p : List Nat} (h : canW p.length) (hp : ∀ x ∈ p, x < 256) : unwrapE D (wrapE E p) = some p := by
  obtain ⟨h0, hs⟩ := h.start hp
  have hl := (wrapE_ok hE h hp).1
  have hm := h.1
  have e : unwrS D (wrapE E p) = (a6, eights p (p.length / 8)) := by
    unfold unwrS
    rw [hl, show (p.length + 8) / 8 - 1 = p.length / 8 by omega]
    have hr := wrun_ok hE h0 hs (6 * (p.length / 8))
    have hu := wundo_wrun hE hi' h0 (6 * (p.length / 8)) hs (6 * (p.length / 8)) (Nat.le_refl _)
    rw [Nat.sub_self, wrun] at hu
    unfold wrapE
    generalize wrun E (p.length / 8) (a6, eights p (p.length / 8)) (6 * (p.length / 8)) = s at *
    obtain ⟨a, r⟩ := s
    have ha : a.length = 8 := hr.1.1
    simp only
    rw [show (a ++ r.flatten).take 8 = a by rw [← ha, List.take_left], show (a ++ r.flatten).drop 8 = r.flatten by rw [← ha, List.drop_left], eights_of hr.2]
    exact hu
  unfold unwrapE
  rw [e, if_pos rfl, eights_flat p _ (by omega), List.take_of_length_le (by omega)]
/-- What is unwrapped is wrapped to just that. -/
theorem wrapE_unwrapE {D E : List Nat → List Nat} (hD : blkE D) (hi' : inv E D) {c p : List Nat} (h : canU c.length) (hc : ∀ x ∈ c, x < 256) (e : unwrapE D c = some p) : wrapE E p = c := by
  obtain ⟨h0, hs⟩ := h.start hc
  have hp := unwrapE_ok hD h hc e
  have h1 := h
  unfold canU at h1
  have hr := wundo_ok hD h0 (6 * (c.length / 8 - 1)) hs (6 * (c.length / 8 - 1))
  have hu := wrun_wundo hD hi' h0 (6 * (c.length / 8 - 1)) hs (6 * (c.length / 8 - 1)) (Nat.le_refl _)
  rw [Nat.sub_self, wundo] at hu
  unfold unwrapE at e
  split at e
  · rename_i h6
    obtain rfl := Option.some.inj e
    unfold wrapE
    rw [hp.1, show (c.length - 8) / 8 = c.length / 8 - 1 by omega]
    have e2 : (a6, eights (unwrS D c).2.flatten (c.length / 8 - 1)) = unwrS D c := by
      have hr2 : okE (c.length / 8 - 1) (unwrS D c).2 := hr.2
      rw [eights_of hr2, ← h6]
    rw [e2]
    unfold unwrS
    rw [hu]
    simp only
    rw [eights_flat (c.drop 8) _ (by rw [List.length_drop]; omega), List.take_of_length_le (l := c.drop 8) (by rw [List.length_drop]; omega), List.take_append_drop]
  · cases e
/-- The errno of what was unwrapped. -/
def unE : Option (List Nat) → Int
  | some _ => 0
  | none => 5
theorem encE {ws : List (List Nat)} (hw : okW ws) : blkE (encS ws) := fun _ h => encS_ok hw h
theorem decE {ws : List (List Nat)} (hw : okW ws) : blkE (decS ws) := fun _ h => decS_ok hw h
theorem invDE {ws : List (List Nat)} (hw : okW ws) : inv (decS ws) (encS ws) := fun _ h => dec_encS hw h
theorem invED {ws : List (List Nat)} (hw : okW ws) : inv (encS ws) (decS ws) := fun _ h => enc_decS hw h
/-- By a key's words. -/
def wrapS (ws : List (List Nat)) (p : List Nat) : List Nat := wrapE (encS ws) p
def unwrapS (ws : List (List Nat)) (c : List Nat) : Option (List Nat) := unwrapE (decS ws) c
theorem wrapS_ok {ws : List (List Nat)} (hw : okW ws) {p : List Nat} (h : canW p.length) (hp : ∀ x ∈ p, x < 256) : ok (p.length + 8) (wrapS ws p) := wrapE_ok (encE hw) h hp
theorem unwrapS_ok {ws : List (List Nat)} (hw : okW ws) {c p : List Nat} (h : canU c.length) (hc : ∀ x ∈ c, x < 256) (e : unwrapS ws c = some p) : ok (c.length - 8) p := unwrapE_ok (decE hw) h hc e
theorem unwrap_wrap {ws : List (List Nat)} (hw : okW ws) {p : List Nat} (h : canW p.length) (hp : ∀ x ∈ p, x < 256) : unwrapS ws (wrapS ws p) = some p := unwrapE_wrapE (encE hw) (invDE hw) h hp
theorem wrap_unwrap {ws : List (List Nat)} (hw : okW ws) {c p : List Nat} (h : canU c.length) (hc : ∀ x ∈ c, x < 256) (e : unwrapS ws c = some p) : wrapS ws p = c := wrapE_unwrapE (decE hw) (invED hw) h hc e
theorem wrap_inj {ws : List (List Nat)} (hw : okW ws) {p q : List Nat} (h : canW p.length) (hp : ∀ x ∈ p, x < 256) (h' : canW q.length) (hq : ∀ x ∈ q, x < 256) (e : wrapS ws p = wrapS ws q) : p = q := by
  have h1 := unwrap_wrap hw h hp
  rw [e, unwrap_wrap hw h' hq] at h1
  exact (Option.some.inj h1).symm
end Go.Proofs.Ytejabkmhpiabnaa.A
