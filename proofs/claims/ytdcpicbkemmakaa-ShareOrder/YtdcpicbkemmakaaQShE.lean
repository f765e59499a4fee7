/- Shares that the document takes, and the value of their polynomial: no order, one more, one fewer. -/
import Derived.Test.YtdcpicbkemmakaaQShFtToShC
namespace Go.Proofs.Ytdcpicbkemmakaa
open Go.RowKit
set_option linter.unusedSimpArgs false
/-- Shares that the document takes. -/
def goodL (l : List Shr) : Prop := (∀ s ∈ l, shOk s) ∧ (l.map Shr.x).Nodup
theorem getD_at {l : List Shr} {i : Nat} (hi : i < l.length) : l.getD i shr0 = l[i] := by rw [List.getD_eq_getElem?_getD, List.getElem?_eq_getElem hi]; rfl
theorem good_iff (l : List Shr) : (¬ ∃ i, i < l.length ∧ badAt l i) ↔ goodL l := by
  constructor
  · intro h
    refine ⟨fun s hs => ?_, ?_⟩
    · obtain ⟨i, hi, rfl⟩ := List.getElem_of_mem hs
      refine Classical.byContradiction fun hn => h ⟨i, hi, .inl ?_⟩
      rw [getD_at hi]
      exact hn
    · unfold List.Nodup
      rw [List.pairwise_map, List.pairwise_iff_getElem]
      intro i j hi hj hij he
      refine h ⟨j, hj, .inr ⟨i, hij, ?_⟩⟩
      rw [getD_at hi, getD_at hj]
      exact he
  · rintro ⟨h1, h2⟩ ⟨i, hi, hb⟩
    unfold badAt at hb
    rw [getD_at hi] at hb
    rcases hb with hb | ⟨j, hj, hb⟩
    · exact hb (h1 _ (List.getElem_mem hi))
    · rw [getD_at (by omega)] at hb
      unfold List.Nodup at h2
      rw [List.pairwise_map, List.pairwise_iff_getElem] at h2
      exact h2 j i (by omega) hi hj hb
theorem flt_zero (l : List Shr) (x : Int) : fltN l x = 0 ↔ 0 < l.length ∧ l.length ≤ 20 ∧ 0 ≤ x ∧ x ≤ 255 ∧ goodL l := by
  constructor
  · intro h
    have hg := flt_good h
    exact ⟨hg.1, hg.2.1, hg.2.2.1, hg.2.2.2.1, (good_iff l).1 fun ⟨i, hi, hb⟩ => hg.2.2.2.2 i hi hb⟩
  · rintro ⟨h1, h2, h3, h4, h5⟩
    unfold fltN
    rw [if_neg (by omega), if_neg (by omega), if_neg fun hh => (good_iff l).2 h5 ((any_bad l).1 hh)]
theorem flt_one {l : List Shr} {x : Int} (h20 : l.length ≤ 20) (h : fltN l x ≠ 0) : fltN l x = 1 := by
  unfold fltN at h ⊢
  rw [if_neg (by omega)] at h ⊢
  split
  · rfl
  · rename_i h1
    rw [if_neg h1] at h
    split
    · rfl
    · rename_i h2
      rw [if_neg h2] at h
      exact absurd rfl h
theorem goodL.perm {l l' : List Shr} (hp : l.Perm l') (h : goodL l) : goodL l' := ⟨fun s hs => h.1 s (hp.mem_iff.2 hs), (hp.map _).nodup_iff.1 h.2⟩
theorem flt_perm {l l' : List Shr} (hp : l.Perm l') (x : Int) (h20 : l.length ≤ 20) : fltN l' x = fltN l x := by
  have hl := hp.length_eq
  by_cases h : fltN l x = 0
  · have hg := (flt_zero l x).1 h
    rw [h]
    exact (flt_zero l' x).2 ⟨by omega, by omega, hg.2.2.1, hg.2.2.2.1, hg.2.2.2.2.perm hp⟩
  · rw [flt_one h20 h]
    refine flt_one (by omega) fun h' => h ?_
    have hg := (flt_zero l' x).1 h'
    exact (flt_zero l x).2 ⟨by omega, by omega, hg.2.2.1, hg.2.2.2.1, hg.2.2.2.2.perm hp.symm⟩
/-- The points. -/
def pts (l : List Shr) : So.Pts := l.map fun s => (s.x, (s.y.nat : Int))
theorem apart_of {a b : Int} (h : a ≠ b) (ha : -1000 ≤ a ∧ a ≤ 1000) (hb : -1000 ≤ b ∧ b ≤ 1000) : ¬ So.Z (a - b) := by
  have h1 : (2000 : Int) < Cv.ord := by decide
  exact So.small_no (by omega) (by omega) (by omega)
theorem goodL.pts {l : List Shr} (h : goodL l) : So.Good (pts l) := by
  unfold So.Good So.Apart Go.Proofs.Ytdcpicbkemmakaa.pts
  rw [List.map_map, List.pairwise_map]
  have h2 := h.2
  unfold List.Nodup at h2
  rw [List.pairwise_map] at h2
  refine List.Pairwise.imp_of_mem ?_ h2
  intro a b ha hb hab
  have g1 := h.1 a ha
  have g2 := h.1 b hb
  unfold shOk at g1 g2
  exact apart_of (a := a.x) (b := b.x) hab (by omega) (by omega)
theorem atN_is {l : List Shr} (h : goodL l) (h0 : 0 < l.length) (x : Nat) {f : Int → Int} (hf : So.IsAt (pts l) f) : atN l x = So.rd (f x) := by
  have XB : ∀ i, shX l i < 256 := fun i => Nat.mod_lt _ (by decide)
  have XO : ∀ i, shX l i < Cv.ord := fun i => Nat.lt_trans (XB i) (by decide)
  have YO : ∀ i, shY l i < Cv.ord := fun i => Nat.mod_lt _ o_pos
  have at_ : ∀ i (hi : i < l.length), (shX l i : Int) = l[i].x ∧ shY l i = l[i].y.nat := fun i hi => by
    have hm := h.1 l[i] (List.getElem_mem hi)
    unfold shX shY shN
    rw [getD_at hi]
    have h1 := hm.1
    exact ⟨by omega, Nat.mod_eq_of_lt hm.2⟩
  have e : pts l = (List.range l.length).map fun i => ((shX l i : Int), (shY l i : Int)) := by
    refine List.ext_getElem (by simp [pts]) fun i h1 h2 => ?_
    have hi : i < l.length := by simpa [pts] using h1
    simp only [pts, List.getElem_map, List.getElem_range]
    rw [(at_ i hi).1, (at_ i hi).2]
  rw [e] at hf
  refine So.hn_is (shX l) (shY l) l.length x h0 YO XO (fun i j hij hj => ?_) hf
  rw [(at_ i (by omega)).1, (at_ j hj).1]
  have h2 := h.2
  unfold List.Nodup at h2
  rw [List.pairwise_map, List.pairwise_iff_getElem] at h2
  have g1 := h.1 l[i] (List.getElem_mem (by omega))
  have g2 := h.1 l[j] (List.getElem_mem hj)
  unfold shOk at g1 g2
  exact apart_of (Ne.symm (h2 i j (by omega) hj hij)) (by omega) (by omega)
theorem at_poly {l : List Shr} (h : goodL l) (h0 : 0 < l.length) : ∃ f, So.IsAt (pts l) f ∧ ∀ x : Nat, atN l x = So.rd (f x) := by
  obtain ⟨f, hf⟩ := So.at_some (pts l) h.pts
  exact ⟨f, hf, fun x => atN_is h h0 x hf⟩
theorem atN_perm {l l' : List Shr} (hp : l.Perm l') (h : goodL l) (h0 : 0 < l.length) (x : Nat) : atN l' x = atN l x := by
  obtain ⟨f, hf, e⟩ := at_poly h h0
  rw [e]
  exact atN_is (h.perm hp) (by rw [← hp.length_eq]; exact h0) x (hf.perm (hp.map _))
/-- At its own place each share is what it is. -/
theorem atN_own {l : List Shr} (h : goodL l) (s : Shr) (hs : s ∈ l) : atN l s.x.toNat = s.y.nat := by
  have h0 : 0 < l.length := List.length_pos_of_mem hs
  obtain ⟨f, hf, e⟩ := at_poly h h0
  have hk := h.1 s hs
  have hx := hk.1
  have h1 := hf.2 (s.x, (s.y.nat : Int)) (List.mem_map.2 ⟨s, hs, rfl⟩)
  rw [e, show ((s.x.toNat : Nat) : Int) = s.x by omega, So.rd_eq h1]
  exact So.rd_nat hk.2
theorem atM_perm {l l' : List Shr} (hp : l.Perm l') (x : Int) (h20 : l.length ≤ 20) : atM l' x = atM l x := by
  unfold atM
  rw [flt_perm hp x h20]
  by_cases h : fltN l x = 0
  · have hg := (flt_zero l x).1 h
    rw [if_pos h, if_pos h, atN_perm hp hg.2.2.2.2 hg.1]
  · rw [if_neg h, if_neg h]
theorem atM_own {l : List Shr} {x : Int} (h : fltN l x = 0) (s : Shr) (hs : s ∈ l) (ho : s.y.ok) : fltN l s.x = 0 ∧ atM l s.x = s.y := by
  have hg := (flt_zero l x).1 h
  have hk := hg.2.2.2.2.1 s hs
  have hf : fltN l s.x = 0 := (flt_zero l s.x).2 ⟨hg.1, hg.2.1, by have := hk.1; omega, by have := hk.1; omega, hg.2.2.2.2⟩
  refine ⟨hf, ?_⟩
  unfold atM
  rw [if_pos hf, atN_own hg.2.2.2.2 s hs]
  exact (Nm.eq_nm ho rfl).symm
end Go.Proofs.Ytdcpicbkemmakaa
