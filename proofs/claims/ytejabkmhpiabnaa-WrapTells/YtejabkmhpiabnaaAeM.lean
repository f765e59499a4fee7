/- A key's words as bytes in a row; rows of words that are made and copied. -/
import Derived.Test.YtejabkmhpiabnaaAeE
import Derived.Test.YtejabkmhpiabnaaGrp8
namespace Go.Proofs.Ytejabkmhpiabnaa
open Go.RowKit
set_option linter.unusedSimpArgs false
namespace A
/-- The words' bytes, and then 0. -/
def flat (ws : List (List Nat)) : List Nat := ws.flatten ++ List.replicate (240 - 4 * ws.length) 0
theorem okW.q {ws : List (List Nat)} (h : okW ws) : Qok ws := fun d hd => (h d hd).1
theorem flen : ∀ {ws : List (List Nat)}, Qok ws → ws.flatten.length = 4 * ws.length
  | [], _ => rfl
  | d :: ws, h => by
    rw [List.flatten_cons, List.length_append, flen (fun x hx => h x (by simp [hx])), h d (by simp), List.length_cons]
    omega
theorem flat_length {ws : List (List Nat)} (h : Qok ws) (hn : ws.length ≤ 60) : (flat ws).length = 240 := by
  unfold flat
  rw [List.length_append, flen h, List.length_replicate]
  omega
theorem flat_low {ws : List (List Nat)} (h : okW ws) : ∀ x ∈ flat ws, x < 256 := fun x hx => by
  rcases List.mem_append.1 hx with h1 | h1
  · obtain ⟨d, hd, hx⟩ := List.mem_flatten.1 h1
    exact (h d hd).2 x hx
  · rw [(List.mem_replicate.1 h1).2]; decide
theorem flat_get {ws : List (List Nat)} (h : Qok ws) {j s : Nat} (hj : j < ws.length) (hs : s < 4) : (flat ws).getD (j * 4 + s) 0 = (ws.getD j []).getD s 0 := by
  unfold flat
  rw [List.getD_eq_getElem?_getD, List.getElem?_append_left (by rw [flen h]; omega), flat_q h j s hs]
  simp [List.getD_eq_getElem?_getD]
/-- Word j lies in the row. -/
theorem flat_word {ws : List (List Nat)} (h : Qok ws) {j : Nat} (hj : j < ws.length) : ∃ a c, flat ws = a ++ (ws.getD j [] ++ c) ∧ a.length = j * 4 := by
  refine ⟨(ws.take j).flatten, (ws.drop (j + 1)).flatten ++ List.replicate (240 - 4 * ws.length) 0, ?_, ?_⟩
  · unfold flat
    have e : ws = ws.take j ++ (ws.getD j [] :: ws.drop (j + 1)) := by
      rw [List.getD_eq_getElem?_getD, List.getElem?_eq_getElem hj]
      simp
    conv => lhs; rw [e]
    rw [List.flatten_append, List.flatten_cons, List.append_assoc, List.append_assoc]
    congr 4
    rw [← e]
  · rw [flen (fun d hd => h d (List.mem_of_mem_take hd)), List.length_take]
    omega
/-- One word more: it lies behind the others, where 0 was. -/
theorem flat_next {ws : List (List Nat)} (h : Qok ws) (hn : ws.length < 60) (x : List Nat) (_ : x.length = 4) : ∃ a c, flat ws = a ++ (List.replicate 4 0 ++ c) ∧ flat (ws ++ [x]) = a ++ (x ++ c) ∧ a.length = ws.length * 4 := by
  refine ⟨ws.flatten, List.replicate (240 - 4 * (ws.length + 1)) 0, ?_, ?_, by rw [flen h]; omega⟩
  · unfold flat
    rw [List.replicate_append_replicate]
    congr 2
    omega
  · unfold flat
    rw [List.flatten_append, List.length_append, List.append_assoc]
    simp
theorem first_flat {key : List Nat} (h : key.length = 4 * keyN key) : (firstW key (keyN key)).flatten = key := by
  have aux : ∀ (j : Nat) (l : List Nat), l.length = 4 * j → (firstW l j).flatten = l := by
    intro j
    induction j with
    | zero => intro l hl; rw [List.length_eq_zero_iff.1 (by omega : l.length = 0)]; rfl
    | succ j ih =>
      intro l hl
      match l, hl with
      | a :: b :: c :: d :: l, hl =>
        have e := ih l (by simp at hl; omega)
        rw [firstW, List.range_succ_eq_map, List.map_cons, List.flatten_cons, List.map_map]
        unfold firstW at e
        have e2 : (List.range j).map ((fun i => [(a :: b :: c :: d :: l).getD (4 * i) 0, (a :: b :: c :: d :: l).getD (4 * i + 1) 0, (a :: b :: c :: d :: l).getD (4 * i + 2) 0, (a :: b :: c :: d :: l).getD (4 * i + 3) 0]) ∘ Nat.succ) = (List.range j).map fun i => [l.getD (4 * i) 0, l.getD (4 * i + 1) 0, l.getD (4 * i + 2) 0, l.getD (4 * i + 3) 0] := by
          refine List.map_congr_left fun i _ => ?_
          show [_, _, _, _] = _
          rw [show 4 * Nat.succ i = (4 * i) + 1 + 1 + 1 + 1 by omega]
          rfl
        rw [e2, e]
        rfl
      | [], hl => simp at hl
      | [_], hl => simp at hl; omega
      | [_, _], hl => simp at hl; omega
      | [_, _, _], hl => simp at hl; omega
  exact aux _ _ h
/-- The key's bytes, so far as they are in, and then 0. -/
def front (key : List Nat) (j : Nat) : List Nat := key.take (4 * j) ++ List.replicate (240 - 4 * j) 0
theorem front_next {key : List Nat} {j : Nat} (h : 4 * j + 4 ≤ key.length) (h2 : key.length ≤ 240) : ∃ a c, front key j = a ++ (List.replicate 4 0 ++ c) ∧ front key (j + 1) = a ++ ((key.drop (4 * j)).take 4 ++ c) ∧ a.length = j * 4 := by
  refine ⟨key.take (4 * j), List.replicate (240 - 4 * (j + 1)) 0, ?_, ?_, by rw [List.length_take]; omega⟩
  · unfold front
    rw [List.replicate_append_replicate]
    congr 2
    omega
  · unfold front
    rw [← List.append_assoc, ← List.take_add]
    rfl
theorem front_all {key : List Nat} (h : key.length = 4 * keyN key) : front key (keyN key) = flat (firstW key (keyN key)) := by
  unfold front flat
  rw [first_flat h, firstW_length, ← h, List.take_of_length_le (Nat.le_refl _)]
theorem kf_rk {ws : List (List Nat)} (h : Qok ws) {j : Nat} (hj : 4 * j + 4 ≤ ws.length) : kf (flat ws) j = rk ws j := by_congr fun p hp => by
  rw [show 16 * j + p = (4 * j + p / 4) * 4 + p % 4 by omega]
  exact flat_get h (by omega) (by omega)
theorem encR_congr {K K' : Nat → List Nat} {r : Nat} (h : ∀ j, j ≤ r → K j = K' j) (b : List Nat) : encR K r b = encR K' r b := by
  have key : ∀ j, j ≤ r → encN K r b j = encN K' r b j := by
    intro j
    induction j with
    | zero => intro _; rw [encN, encN, h 0 (Nat.zero_le _)]
    | succ j ih => intro hj; rw [encN, encN, ih (by omega), h (j + 1) hj]
  exact key r (Nat.le_refl _)
theorem decR_congr {K K' : Nat → List Nat} {r : Nat} (h : ∀ j, j ≤ r → K j = K' j) (b : List Nat) : decR K r b = decR K' r b := by
  have key : ∀ j, decN K r b j = decN K' r b j := by
    intro j
    induction j with
    | zero => rfl
    | succ j ih => rw [decN, decN, ih, h (r - j) (by omega)]
  unfold decR
  rw [key r, h 0 (Nat.zero_le _)]
end A
theorem zero_key (w : World) : (zeroValue 26).run Try.prog w = .ok (.agg (kC (List.replicate 240 0) 0).toArray) w := zero_of (by kernel_rfl) w
theorem u_w60 : Try.prog.underlying 24 = some (.array 60 23) := by kernel_rfl
/-- copy of words. -/
theorem run_copyW (w : World) (ty : TypeId) (b o dLen dCap g q sLen sCap : Nat) (cs : List Value) (hn : cs.length = Nat.min sLen dLen * 4)
    (hsrc : w.rangeAt g q cs) (ht : w.there b o cs.length) (h1 : ∀ v ∈ cs, v.oneCell' = true) :
    (Builtin.copy_ #[44, 44] ty #[.slice (some ⟨b, o, none⟩) dLen dCap, .slice (some ⟨g, q, none⟩) sLen sCap]).run Try.prog w = .ok (goInt (Nat.min sLen dLen)) (w.setCells b o cs) := by
  have hl := run_loadCells_list (P := Try.prog) w ⟨g, q, none⟩ cs (fun j v hj => by rw [Addr.add_lit]; exact hsrc j v hj)
  have hst := run_storeCells_cells (P := Try.prog) b o cs 0 w (by simpa using fun j hj => (ht j hj).1) (by simpa using fun j hj => (ht j hj).2) h1
  have hs : (Try.prog.info? 23).map (·.size) = some 4 := info_a4
  cases hq : Try.prog.info? 23 with
  | none => simp [hq] at hs
  | some i =>
    have hi : i.size = 4 := by simpa [hq] using hs
    have hn' : Nat.min sLen dLen * 4 = cs.length := hn.symm
    simp [Builtin.copy_, run_underlying uQss, Builtin.lenOf, Builtin.firstCells, sizeOf, typeInfo, hq, hi, hn', hl, hst]
end Go.Proofs.Ytejabkmhpiabnaa
