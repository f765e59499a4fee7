/- Slices of slices of bytes, appended whole to a row that the call made. -/
import Derived.Test.YtmpniingbioggabDoorTSl
import Derived.Test.YtmpniingbioggabDoorTOpen
namespace Go.Proofs.YtmpniingbioggabDoor
open Go.RowKit Go.Deep
set_option linter.unusedSimpArgs false
theorem iBytes1 : (Tryd.prog.info? 23).map (fun i => (i.zero, i.size, i.bytes)) = some (some (.slice none 0 0), 1, 24) := by kernel_rfl
/-- A slice of slices, its values written out. -/
structure Vb (w : World) (b o : Nat) (us : List Value) (ls : List (List Nat)) : Prop where
  len : us.length = ls.length
  cell : ∀ j u, us[j]? = some u → w.cell? ⟨b, o + j, none⟩ = some u
  hold : ∀ j, j < ls.length → By w (us.getD j undef) (ls.getD j [])
theorem Sb.vals {w : World} {v : Value} {ls : List (List Nat)} (h : Sb w v ls) (hp : 0 < ls.length) : ∃ b o c us, v = .slice (some ⟨b, o, none⟩) ls.length c ∧ Vb w b o us ls := by
  obtain ⟨a, c, rfl, hc, h3⟩ := h
  obtain ⟨b, o, rfl, hr⟩ := h3 hp
  have each : ∀ j, j < ls.length → ∃ u, w.cell? ⟨b, o + j, none⟩ = some u ∧ By w u (ls.getD j []) := hr
  obtain ⟨f, hf⟩ := choose_lt each
  refine ⟨b, o, c, (List.range ls.length).map f, rfl, by simp, fun j u hu => ?_, fun j hj => ?_⟩
  · have hj : j < ls.length := by
      have := (List.getElem?_eq_some_iff.1 hu).1
      simpa using this
    have e : f j = u := by simpa [hj] using hu
    rw [← e]
    exact (hf j hj).1
  · have e : ((List.range ls.length).map f).getD j undef = f j := by simp [List.getD_eq_getElem?_getD, hj]
    rw [e]
    exact (hf j hj).2
theorem By.oneC {w : World} {v : Value} {xs : List Nat} (h : By w v xs) : v.oneCell' = true := by
  obtain ⟨a, c, rfl, _⟩ := h
  rfl
theorem Vb.one {w : World} {b o : Nat} {us : List Value} {ls : List (List Nat)} (h : Vb w b o us ls) : ∀ u ∈ us, u.oneCell' = true := by
  intro u hu
  obtain ⟨j, hj⟩ := List.mem_iff_getElem?.1 hu
  have hl := (List.getElem?_eq_some_iff.1 hj).1
  have e : us.getD j undef = u := by rw [List.getD_eq_getElem?_getD, hj]; rfl
  have := h.hold j (by rw [← h.len]; exact hl)
  rw [e] at this
  exact this.oneC
/-- append of a slice of slices of bytes to a row of such that the call made. -/
theorem wp_appV {ops : Array Oper} {rest : List Oper} {o : Oper} {a : Act} {Q : Exit → Act → World → Prop} {w : World} (hgd : o.guard = none) (s x : Operand)
    (ho : o.op = .call { callee := .builtin .append, args := #[s, x], argTypes := #[22, 22] })
    (B : Nat) (v : Value) (xs : List Value) (hs : a.eval s = v) (hown : w.ownsRow B 23 1 v xs.length xs) (b f m c : Nat) (us : List Value) (ls : List (List Nat)) (hx : a.eval x = .slice (some ⟨b, f, none⟩) m c) (hm : m = ls.length) (hu : Vb w b f us ls)
    (hl : xs.length + us.length ≤ 1000000) (hB : B ≤ w.heap.size) (h : ∀ v' w', w'.ownsRow B 23 1 v' (xs ++ us).length (xs ++ us) → w.grownBy w' v.ownBlock → wpList Tryd.prog ops Q rest (a.put o.dst v') w') : wpList Tryd.prog ops Q (o :: rest) a w := by
  obtain ⟨i0, hi, hz0, hz1, hz2⟩ := info_parts iBytes1
  subst hm
  rw [← hu.len] at hx
  refine wpList_append_own w hgd s x 22 ho B 23 i0 (.slice none 0 0) 1 24 uBss hi hz0 hz1 hz2 rfl (by decide) v xs.length xs hs hown ⟨b, f, none⟩ us.length c us hx (by rw [Nat.mul_one]) ?_ hu.one ?_ ?_ hB ?_
  · intro j u hj
    rw [Addr.add_lit]
    exact hu.cell j u hj
  · unfold maxLen; omega
  · omega
  · intro v' w' hown' hg _
    exact h v' w' (by rw [List.length_append]; exact hown') hg
theorem Sb.of_own {w : World} {B : Nat} {v : Value} {us : List Value} {ls : List (List Nat)} (h : w.ownsRow B 23 1 v us.length us) (hl : us.length = ls.length) (hy : ∀ j, j < ls.length → By w (us.getD j undef) (ls.getD j [])) (hp : 0 < ls.length) : Sb w v ls := by
  rcases id h.2 with ⟨e, e2⟩ | ⟨g, cap, cur, rfl, hB, hg, hn, rest⟩
  · omega
  · refine ⟨_, cap, by rw [← hl], by omega, fun _ => ⟨g, 0, rfl, fun j hj => ⟨us.getD j undef, ?_, hy j hj⟩⟩⟩
    have := h.cells (g := g) rfl j (us.getD j undef) (by rw [List.getD_eq_getElem?_getD, List.getElem?_eq_getElem (by omega)]; rfl)
    rw [Addr.add_lit] at this
    exact this
theorem Vb.up {W w1 : World} {b o : Nat} {us : List Value} {ls : List (List Nat)} {B : Nat} (h : Vb W b o us ls) (hb : Below B W w1) (hB : W.heap.size ≤ B) : Vb w1 b o us ls :=
  ⟨h.len, fun j u hj => (hb.cell (p := ⟨b, o + j, none⟩) (Nat.lt_of_lt_of_le (lt_of_cellB (h.cell j u hj)) hB)).trans (h.cell j u hj), fun j hj => (h.hold j hj).up hb hB⟩
theorem hold_app {w : World} {us vs : List Value} {ls ms : List (List Nat)} (h1 : us.length = ls.length) (h2 : ∀ j, j < ls.length → By w (us.getD j undef) (ls.getD j [])) (h3 : ∀ j, j < ms.length → By w (vs.getD j undef) (ms.getD j [])) : ∀ j, j < (ls ++ ms).length → By w ((us ++ vs).getD j undef) ((ls ++ ms).getD j []) := by
  intro j hj
  rw [List.length_append] at hj
  simp only [List.getD_eq_getElem?_getD] at h2 h3 ⊢
  by_cases h : j < ls.length
  · rw [List.getElem?_append_left (by omega), List.getElem?_append_left h]
    exact h2 j h
  · rw [List.getElem?_append_right (by omega), List.getElem?_append_right (by omega), h1]
    exact h3 (j - ls.length) (by omega)
end Go.Proofs.YtmpniingbioggabDoor
