/- The contract of sealringkeep.ders; append of a slice of items that came in. -/
import Derived.Test.YtkgfeacednomfabDerRead
import Derived.Test.YtkgfeacednomfabOpenI
namespace Go.Proofs.Ytkgfeacednomfab
open Go.RowKit
set_option linter.unusedSimpArgs false
set_option maxRecDepth 20000 in
set_option maxHeartbeats 2000000 in
theorem ders_fun (w : World) : Calls Try.prog 12 #[] w fun e w' => e = .returned (.bool true) ∧ Below w.heap.size w w' := by
  have e3 : texts [⟨9, [7]⟩] = [9, 1, 7] := by simp [texts, It.text, lenB]
  have ok : okIts [⟨9, [7]⟩] := ⟨by simp, by simp⟩
  go_enter Try.func12, Try.ntmps12
  go_wp2_with fail
  refine (write_any _ [⟨9, [7]⟩] _ (Its.one ((cell_top (by simp)).trans (by simp)) ((cell_top (by simp)).trans (by simp)) (By.one (cell_al ((cell_top rfl).trans (by simp)))))).mono ?_
  rintro e w1 ⟨⟨u, n, rfl, he⟩, hb⟩
  rcases he with ⟨rfl, _, hu⟩ | ⟨_, hno, _⟩
  · rw [e3] at hu
    obtain ⟨a, c, rfl⟩ := hu.len
    have B1 : Hid (Below w.heap.size w w1) := (((Below.refl _ _).alloc (Nat.le_refl _) _).alloc (by simp) _).trans (hb.mono (by simp; omega))
    clear hu hb e3 ok
    go_wp2_with fail
    go_ret
    exact ⟨rfl, B1.out⟩
  · exact absurd ok hno
/-- A slice of items by the list of its cells. -/
theorem Its.pairs {w : World} {v : Value} {l : List It} (h : Its w v l) : ∃ (a : Option Addr) (c : Nat) (ps : List (It × Value)), v = .slice a l.length c ∧ ps.map Prod.fst = l ∧ (a = none → c = 0) ∧ l.length ≤ c ∧ (∀ p ∈ ps, By w p.2 p.1.body) ∧ (0 < l.length → ∃ b o, a = some ⟨b, o, none⟩ ∧ ∀ j u, (flatI ps)[j]? = some u → w.cell? ⟨b, o + j, none⟩ = some u) := by
  obtain ⟨a, c, rfl, h1, h2, h3⟩ := h
  cases l with
  | nil => exact ⟨a, c, [], rfl, rfl, h2, h1, by simp, fun h => absurd h (by simp)⟩
  | cons y l =>
    obtain ⟨b, o, rfl, hc⟩ := h3 (by simp)
    have each : ∀ j, j < (y :: l).length → ∃ p : It × Value, (y :: l)[j]? = some p.1 ∧ w.cell? ⟨b, o + j * 2, none⟩ = some (b8 p.1.tag) ∧ w.cell? ⟨b, o + j * 2 + 1, none⟩ = some p.2 ∧ By w p.2 p.1.body := by
      intro j hj
      obtain ⟨c0, u, c1, hu⟩ := hc j _ (List.getElem?_eq_getElem hj)
      exact ⟨((y :: l)[j], u), List.getElem?_eq_getElem hj, c0, c1, hu⟩
    have hinh : Inhabited It := ⟨⟨0, []⟩⟩
    obtain ⟨f, hf⟩ := Deep.choose_lt each
    have hl : ((List.range (y :: l).length).map f).map Prod.fst = y :: l := by
      apply List.ext_getElem?
      intro j
      by_cases hj : j < (y :: l).length
      · rw [(hf j hj).1]; simp only [List.getElem?_map, List.getElem?_range hj]; rfl
      · rw [List.getElem?_eq_none (by simp at hj ⊢; omega), List.getElem?_eq_none (by omega)]
    refine ⟨_, c, (List.range (y :: l).length).map f, rfl, hl, h2, h1, fun p hp => ?_, fun _ => ⟨b, o, rfl, fun j u hu => ?_⟩⟩
    · simp only [List.mem_map, List.mem_range] at hp
      obtain ⟨j, hj, rfl⟩ := hp
      exact (hf j hj).2.2.2
    · have hlen := (List.getElem?_eq_some_iff.1 hu).1
      rw [flatI_len] at hlen
      have hj : j / 2 < (y :: l).length := by simp at hlen ⊢; omega
      obtain ⟨e0, e1⟩ := flatI_get ((List.range (y :: l).length).map f) (j / 2) (f (j / 2)) (by simp only [List.getElem?_map, List.getElem?_range hj]; rfl)
      obtain ⟨_, c0, c1, _⟩ := hf (j / 2) hj
      rcases Nat.mod_two_eq_zero_or_one j with hm | hm
      · have ej : j = j / 2 * 2 := by omega
        rw [← ej] at e0 c0
        rw [e0] at hu
        rw [c0, ← Option.some.inj hu]
      · have ej : j = j / 2 * 2 + 1 := by omega
        rw [← ej] at e1
        rw [Nat.add_assoc, ← ej] at c1
        rw [e1] at hu
        rw [c1, ← Option.some.inj hu]
/-- A row of items that the call made, with bodies that came in. -/
def Oa (w w0 : World) (v : Value) (l : List It) : Prop := ∃ ps : List (It × Value), ps.map Prod.fst = l ∧ w.ownsRow w0.heap.size 34 2 v ps.length (flatI ps) ∧ ∀ p ∈ ps, By w0 p.2 p.1.body
theorem Oa.nil (w w0 : World) : Oa w w0 (.slice none 0 0) [] := ⟨[], rfl, World.ownsRow_nil _ _ _ _, by simp⟩
theorem Oa.its {w w0 : World} {v : Value} {l : List It} (h : Oa w w0 v l) (hb : Below w0.heap.size w0 w) : Its w v l := by
  obtain ⟨ps, rfl, h1, h2⟩ := h
  rcases id h1.2 with ⟨e, e2⟩ | ⟨g, cap, cur, e, hB, hg, hn, rest⟩
  · have : ps = [] := List.length_eq_zero_iff.1 e2
    subst this
    exact ⟨none, 0, by rw [e]; rfl, Nat.le_refl _, fun _ => rfl, fun h => absurd h (Nat.lt_irrefl _)⟩
  · refine ⟨_, cap, by rw [e, List.length_map], by rw [List.length_map]; exact hn, (fun h => by cases h), fun hp => ⟨g, 0, rfl, fun j x hx => ?_⟩⟩
    subst e
    obtain ⟨p, hp1, hp2⟩ : ∃ p, ps[j]? = some p ∧ p.1 = x := by
      rw [List.getElem?_map] at hx
      cases e3 : ps[j]? with
      | none => rw [e3] at hx; cases hx
      | some p => rw [e3] at hx; exact ⟨p, rfl, by simpa using hx⟩
    have hj : j < ps.length := (List.getElem?_eq_some_iff.1 hp1).1
    obtain ⟨c0, c1⟩ := flatI_get ps j p hp1
    rw [← hp2]
    refine ⟨?_, p.2, ?_, (h2 p (List.mem_of_getElem? hp1)).up hb (Nat.le_refl _)⟩
    · rw [Nat.zero_add, h1.cellAt (j * 2) (by omega)]; exact c0
    · rw [Nat.zero_add, h1.cellAt (j * 2 + 1) (by omega)]; exact c1
theorem flatI_one {w : World} {ps : List (It × Value)} (h : ∀ p ∈ ps, By w p.2 p.1.body) : ∀ u ∈ flatI ps, u.oneCell' = true := by
  intro u hu
  simp only [flatI, List.mem_flatMap, List.mem_cons, List.not_mem_nil, or_false] at hu
  obtain ⟨p, hp, rfl | rfl⟩ := hu
  · rfl
  · obtain ⟨a, c, e, _⟩ := h p hp
    rw [e]; rfl
/-- append of items that came in. -/
theorem wp_appL {ops : Array Oper} {rest : List Oper} {o : Oper} {a : Act} {Q : Exit → Act → World → Prop} {w w0 : World} (hgd : o.guard = none) (s x : Operand)
    (ho : o.op = .call { callee := .builtin .append, args := #[s, x], argTypes := #[23, 23] })
    (v u : Value) (l m : List It) (hs : a.eval s = v) (hown : Oa w w0 v l) (hx : a.eval x = u) (hm : Its w0 u m) (hb : Below w0.heap.size w0 w)
    (hl : l.length + m.length ≤ 1000) (h : ∀ v' w', Oa w' w0 v' (l ++ m) → Below w0.heap.size w0 w' → wpList Try.prog ops Q rest (a.put o.dst v') w') : wpList Try.prog ops Q (o :: rest) a w := by
  obtain ⟨i0, hi, hz0, hz1, hz2⟩ := info_parts Try.iItem
  have hs0 := hb.size
  obtain ⟨ps, rfl, h1, h2⟩ := hown
  obtain ⟨ad, c, qs, rfl, rfl, hn, _, hq, hcells⟩ := hm.pairs
  rw [List.length_map, List.length_map] at hl
  cases ad with
  | none =>
    have hc0 := hn rfl
    subst hc0
    have hq0 : qs = [] := by
      obtain ⟨a', c', e, h1, _⟩ := hm
      cases e
      simp at h1
      exact h1
    subst hq0
    refine wpList_append_own_none hgd s x 23 ho w0.heap.size 34 i0 2 Try.uItems hi v ps.length (flatI ps) hs h1 hx ?_
    exact h v w ⟨ps, by simp, h1, h2⟩ hb
  | some ad =>
    rw [List.length_map] at hx
    refine wpList_append_own w hgd s x 23 ho w0.heap.size 34 i0 _ 2 32 Try.uItems hi hz0 hz1 hz2 rfl (by decide) v ps.length (flatI ps) hs h1 ad qs.length c (flatI qs) hx (flatI_len qs) ?_ (flatI_one hq) ?_ ?_ ?_ ?_
    · intro j u' hj
      have hlen := (List.getElem?_eq_some_iff.1 hj).1
      rw [flatI_len] at hlen
      obtain ⟨b, o', e, hc⟩ := hcells (by rw [List.length_map]; omega)
      obtain rfl : ad = ⟨b, o', none⟩ := Option.some.inj e
      have := hc j u' hj
      rw [Addr.add_lit]
      exact (hb.cell (p := ⟨b, o' + j, none⟩) (lt_of_cellB this)).trans this
    · unfold maxLen; omega
    · omega
    · omega
    · intro v' w' hown' hg _
      refine h v' w' ⟨ps ++ qs, by simp, ?_, fun p hp => ?_⟩ ?_
      · have : flatI (ps ++ qs) = flatI ps ++ flatI qs := by simp [flatI]
        rw [this, List.length_append]
        exact hown'
      · rcases List.mem_append.1 hp with hp | hp
        · exact h2 p hp
        · exact hq p hp
      · refine Below.grown hb hg (by omega) fun k hk => ?_
        exact (h1.lt k hk).1
theorem wpList_wanted {P : Program} {ops : Array Oper} {rest : List Oper} {o : Oper} {a : Act} {Q : Exit → Act → World → Prop} {w : World} (hg : Region.wanted o (yielded ops a.tmps) = true)
    (h : ∀ K : Act → World → Prop, (∀ a w, wpList P ops Q rest a w → K a w) → o.wp P a w K Q) : wpList P ops Q (o :: rest) a w :=
  wpList_step fun K hK => by simp only [hg, if_true]; exact h K hK
/-- append of bytes, where the operation is guarded. -/
theorem wp_appBg {ops : Array Oper} {rest : List Oper} {o : Oper} {a : Act} {Q : Exit → Act → World → Prop} {w : World} (hgd : Region.wanted o (yielded ops a.tmps) = true) (s x : Operand)
    (ho : o.op = .call { callee := .builtin .append, args := #[s, x], argTypes := #[22, 22] })
    (B : Nat) (v u : Value) (xs ys : List Nat) (hs : a.eval s = v) (hown : Ob w B v xs) (hx : a.eval x = u) (hy : By w u ys)
    (hl : xs.length + ys.length ≤ 140737488355328) (hB : B ≤ w.heap.size) (h : ∀ v' w', Ob w' B v' (xs ++ ys) → Below B w w' → wpList Try.prog ops Q rest (a.put o.dst v') w') : wpList Try.prog ops Q (o :: rest) a w := by
  obtain ⟨i0, hi, hz0, hz1, hz2⟩ := info_parts Try.iU8
  obtain ⟨ad, c, rfl, hyc, hn, hcells⟩ := hy
  refine wpList_wanted hgd fun K hK => ?_
  cases ad with
  | none =>
    have hc0 := hn rfl
    have hy0 : ys = [] := List.length_eq_zero_iff.1 (by omega)
    subst hc0 hy0
    have hrun := run_append_owned_none (P := Try.prog) (w := w) B 22 o.type 5 i0 1 Try.uBytes hi v xs.length (xs.map b8) hown
    have hx' : a.eval x = .slice none 0 0 := hx
    unfold Oper.wp
    simp [execOp, ho, resolve, invoke, builtin, hs, hx', hrun, Result.andThen]
    exact hK _ _ (h v w (by rw [List.append_nil]; exact hown) (Below.refl _ _))
  | some ad =>
    refine wp_append_own w s x 22 ho B 5 i0 (.int .u8 0) 1 1 Try.uBytes hi hz0 hz1 hz2 rfl (by decide) v xs.length (xs.map b8) hs hown ad ys.length c (ys.map b8) hx (by simp) ?_ ?_ ?_ ?_ ?_ ?_
    · intro j u hj
      have hj2 : j < ys.length := by
        have := (List.getElem?_eq_some_iff.1 hj).1
        simpa using this
      obtain ⟨b, o', e, hc⟩ := hcells (by omega)
      obtain rfl : ad = ⟨b, o', none⟩ := Option.some.inj e
      have := hc j hj2
      rw [List.getElem?_map, List.getElem?_eq_getElem hj2] at hj
      simp at hj
      simp only [List.getD_eq_getElem?_getD, List.getElem?_eq_getElem hj2, Option.getD_some] at this
      subst hj
      rw [Addr.add_lit]
      exact this
    · intro u hu
      simp at hu
      obtain ⟨y, _, rfl⟩ := hu
      rfl
    · unfold maxLen; omega
    · omega
    · omega
    · intro v' w' hown' hg _
      refine hK _ _ (h v' w' ?_ ?_)
      · unfold Ob
        rw [List.map_append, List.length_append]
        exact hown'
      · exact Below.grown (Below.refl _ _) hg hB fun k hk => (hown.lt k hk).1
end Go.Proofs.Ytkgfeacednomfab
