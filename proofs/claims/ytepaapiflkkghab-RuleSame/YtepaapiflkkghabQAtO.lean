/- Own rows of attributes: append. -/
import Derived.Test.YtepaapiflkkghabQYcToAtS
namespace Go.Proofs.Ytepaapiflkkghab
open Go.RowKit Go.Deep Go.ChangeShapes
set_option linter.unusedSimpArgs false
theorem iAttr : (Try.prog.info? 38).map (fun i => (i.zero, i.size, i.bytes)) = some (some (.agg atZ.toArray), 2, 32) := by kernel_rfl
theorem lt_cellA {w : World} {a : Addr} {v : Value} (h : w.cell? a = some v) : a.block < w.heap.size := by
  apply Classical.byContradiction
  intro hn
  have hk : w.heap[a.block]? = none := Array.getElem?_eq_none (by omega)
  simp [World.cell?, hk] at h
/-- Bytes that stay where a row of attributes above B is appended to. -/
def Vk (w : World) (B : Nat) (u : Value) (xs : List Nat) : Prop := By w u xs ∧ (0 < xs.length → ∀ g, u.ownBlock = some g → g < B ∨ ∃ cur m, w.heap[g]? = some (.cells cur 5 m))
theorem Vk.up {W w1 : World} {B : Nat} {v : Value} {xs : List Nat} (h : Vk W B v xs) (hb : Below W.heap.size W w1) : Vk w1 B v xs :=
  ⟨h.1.up hb (Nat.le_refl _), fun hp g hg => by
    rcases h.2 hp g hg with h | ⟨cur, m, e⟩
    · exact .inl h
    · exact .inr ⟨cur, m, (hb.block g (Array.getElem?_eq_some_iff.1 e).1).trans e⟩⟩
theorem Vk.mono {w : World} {B C : Nat} {v : Value} {xs : List Nat} (h : Vk w B v xs) (hBC : B ≤ C) : Vk w C v xs :=
  ⟨h.1, fun hp g hg => (h.2 hp g hg).imp (fun h => Nat.lt_of_lt_of_le h hBC) id⟩
/-- Bytes that lie there already. -/
theorem By.vk {w : World} {v : Value} {xs : List Nat} (h : By w v xs) : Vk w w.heap.size v xs :=
  ⟨h, fun hp g hg => by
    obtain ⟨a, c, rfl, _, _, h3⟩ := h
    obtain ⟨b, o, rfl, hc⟩ := h3 hp
    obtain rfl : b = g := Option.some.inj hg
    exact .inl (lt_of_cellB (hc 0 hp))⟩
theorem By.oneC {w : World} {v : Value} {xs : List Nat} (h : By w v xs) : v.oneCell' = true := by
  obtain ⟨a, c, rfl, _⟩ := h
  rfl
def flatA (ps : List (Ar × Value)) : List Value := ps.flatMap fun p => [.int .i64 p.1.k, p.2]
theorem flatA_len : ∀ ps : List (Ar × Value), (flatA ps).length = ps.length * 2
  | [] => rfl
  | p :: ps => by
    have := flatA_len ps
    simp only [flatA, List.flatMap_cons, List.length_append, List.length_cons, List.length_nil] at this ⊢
    omega
theorem flatA_get : ∀ (ps : List (Ar × Value)) (j : Nat) (p : Ar × Value), ps[j]? = some p → (flatA ps)[j * 2]? = some (.int .i64 p.1.k) ∧ (flatA ps)[j * 2 + 1]? = some p.2
  | [], j, p, h => by simp at h
  | q :: ps, 0, p, h => by
    obtain rfl : q = p := by simpa using h
    exact ⟨rfl, rfl⟩
  | q :: ps, j + 1, p, h => by
    have := flatA_get ps j p (by simpa using h)
    rw [show (j + 1) * 2 = j * 2 + 2 by omega]
    exact ⟨this.1, this.2⟩
theorem flatA_app (ps qs : List (Ar × Value)) : flatA (ps ++ qs) = flatA ps ++ flatA qs := by unfold flatA; rw [List.flatMap_append]
theorem own_upA {W w1 : World} {B e n k : Nat} {v : Value} {xs : List Value} (h : W.ownsRow B e k v n xs) (hb : Below W.heap.size W w1) : w1.ownsRow B e k v n xs := by
  refine ⟨h.1, ?_⟩
  rcases h.2 with h' | ⟨g, cap, cur, e, hB, hg, rest⟩
  · exact .inl h'
  · exact .inr ⟨g, cap, cur, e, hB, (hb.block g (Array.getElem?_eq_some_iff.1 hg).1).trans hg, rest⟩
theorem own_objA {w : World} {B e n k : Nat} {v : Value} {xs : List Value} (h : w.ownsRow B e k v n xs) {g : Nat} (hg : v.ownBlock = some g) : ∃ cur, w.heap[g]? = some (.cells cur e (0, 0)) := by
  rcases h.2 with ⟨e, e2⟩ | ⟨g', cap, cur, e, hB, hg', hn, rest⟩
  · rw [e] at hg; cases hg
  · rw [e] at hg
    obtain rfl : g' = g := Option.some.inj hg
    exact ⟨cur, hg'⟩
/-- A row of attributes that the call made. -/
def Oa (w : World) (B : Nat) (v : Value) (l : List Ar) : Prop := ∃ ps : List (Ar × Value), ps.map Prod.fst = l ∧ w.ownsRow B 38 2 v ps.length (flatA ps) ∧ ∀ p ∈ ps, Vk w B p.2 p.1.v
theorem Oa.nil (w : World) (B : Nat) : Oa w B (.slice none 0 0) [] := ⟨[], rfl, World.ownsRow_nil _ _ _ _, by simp⟩
theorem Oa.up {W w1 : World} {B : Nat} {v : Value} {l : List Ar} (h : Oa W B v l) (hb : Below W.heap.size W w1) : Oa w1 B v l := by
  obtain ⟨ps, e, h1, h2⟩ := h
  exact ⟨ps, e, own_upA h1 hb, fun p hp => (h2 p hp).up hb⟩
theorem Oa.ats {w : World} {B : Nat} {v : Value} {l : List Ar} (h : Oa w B v l) : Ats w v l := by
  obtain ⟨ps, rfl, h1, h2⟩ := h
  rcases id h1.2 with ⟨e, e2⟩ | ⟨g, cap, cur, e, hB, hg, hn, rest⟩
  · have : ps = [] := List.length_eq_zero_iff.1 e2
    subst this
    rw [e]
    exact Ats.nil w
  · refine ⟨_, cap, by rw [e, List.length_map], by rw [List.length_map]; exact hn, (fun h => by cases h), fun hp => ⟨g, 0, rfl, fun j x hx => ?_⟩⟩
    subst e
    obtain ⟨p, hp1, hp2⟩ : ∃ p, ps[j]? = some p ∧ p.1 = x := by
      rw [List.getElem?_map] at hx
      cases e3 : ps[j]? with
      | none => rw [e3] at hx; cases hx
      | some p => rw [e3] at hx; exact ⟨p, rfl, by simpa using hx⟩
    have hj : j < ps.length := (List.getElem?_eq_some_iff.1 hp1).1
    obtain ⟨c0, c1⟩ := flatA_get ps j p hp1
    rw [← hp2]
    refine ⟨?_, p.2, ?_, (h2 p (List.mem_of_getElem? hp1)).1⟩
    · rw [Nat.zero_add, h1.cellAt (j * 2) (by omega)]; exact c0
    · rw [Nat.zero_add, h1.cellAt (j * 2 + 1) (by omega)]; exact c1
theorem Oa.ge {w : World} {B : Nat} {v : Value} {l : List Ar} (h : Oa w B v l) : ∀ g, v.ownBlock = some g → B ≤ g := fun g hg => by
  obtain ⟨ps, _, h1, _⟩ := h
  exact (h1.lt g hg).1
theorem Vk.kept {w w' : World} {B e n : Nat} {v u : Value} {xs : List Nat} {ys : List Value} (h : Vk w B u xs) (ho : w.ownsRow B 38 e v n ys) (hg : w.grownBy w' v.ownBlock) : Vk w' B u xs := by
  by_cases hp : 0 < xs.length
  · have ne : ∀ g, u.ownBlock = some g → some g ≠ v.ownBlock := by
      intro g hu e2
      rcases h.2 hp g hu with h1 | ⟨c1, m, h1⟩
      · have := (ho.lt g e2.symm).1
        omega
      · obtain ⟨c2, h2⟩ := own_objA ho e2.symm
        rw [h1] at h2
        simp at h2
    obtain ⟨⟨a, c, rfl, h1, h2, h3⟩, hk⟩ := h
    refine ⟨⟨a, c, rfl, h1, h2, fun hp => ?_⟩, fun _ g hu => ?_⟩
    · obtain ⟨b, o, rfl, hc⟩ := h3 hp
      exact ⟨b, o, rfl, fun j hj => hg.cell (hc j hj) (ne b rfl)⟩
    · rcases hk hp g hu with h | ⟨cur, m, e⟩
      · exact .inl h
      · exact .inr ⟨cur, m, (hg.block g (Array.getElem?_eq_some_iff.1 e).1 (ne g hu)).trans e⟩
  · obtain ⟨⟨a, c, rfl, h1, h2, h3⟩, hk⟩ := h
    exact ⟨⟨a, c, rfl, h1, h2, fun h => absurd h hp⟩, fun h => absurd h hp⟩
/-- A slice of attributes that may be appended. -/
def As (w : World) (B : Nat) (u : Value) (l : List Ar) : Prop := ∃ (ps : List (Ar × Value)) (a : Option Addr) (c : Nat), ps.map Prod.fst = l ∧ u = .slice a ps.length c ∧ (a = none → ps.length = 0 ∧ c = 0) ∧ (∀ ad, a = some ad → ∀ j v, (flatA ps)[j]? = some v → w.cell? (ad.add j) = some v) ∧ ∀ p ∈ ps, Vk w B p.2 p.1.v
theorem Ats.as {w : World} {u : Value} {l : List Ar} (h : Ats w u l) : As w w.heap.size u l := by
  obtain ⟨a, c, rfl, h1, h2, h3⟩ := h
  have each : ∀ i, i < l.length → ∃ p : Ar × Value, l[i]? = some p.1 ∧ (∃ b o, a = some ⟨b, o, none⟩ ∧ w.cell? ⟨b, o + i * 2, none⟩ = some (.int .i64 p.1.k) ∧ w.cell? ⟨b, o + i * 2 + 1, none⟩ = some p.2) ∧ By w p.2 p.1.v := fun i hi => by
    obtain ⟨b, o, e, hc⟩ := h3 (by omega)
    obtain ⟨c0, v, c1, hv⟩ := hc i l[i] (List.getElem?_eq_getElem hi)
    exact ⟨(l[i], v), List.getElem?_eq_getElem hi, ⟨b, o, e, c0, c1⟩, hv⟩
  have hinh : Inhabited (Ar × Value) := ⟨(ar0, undef)⟩
  obtain ⟨f, hf⟩ := choose_lt each
  have hl : ((List.range l.length).map f).length = l.length := by rw [List.length_map, List.length_range]
  refine ⟨(List.range l.length).map f, a, c, ?_, by rw [hl], fun e => ⟨?_, h2 e⟩, fun ad e j v hv => ?_, fun p hp => ?_⟩
  · refine List.ext_getElem? fun i => ?_
    rw [List.getElem?_map, List.getElem?_map]
    by_cases hi : i < l.length
    · rw [List.getElem?_range hi]
      exact (hf i hi).1.symm
    · rw [List.getElem?_eq_none (by rw [List.length_range]; omega), List.getElem?_eq_none (by omega)]
      rfl
  · rw [hl]
    have := h2 e
    omega
  · have hj : j < l.length * 2 := by
      have := (List.getElem?_eq_some_iff.1 hv).1
      rwa [flatA_len, hl] at this
    have hd : j / 2 < l.length := by omega
    have hp : ((List.range l.length).map f)[j / 2]? = some (f (j / 2)) := by rw [List.getElem?_map, List.getElem?_range hd]; rfl
    obtain ⟨g0, g1⟩ := flatA_get _ _ _ hp
    obtain ⟨_, ⟨b, o, e', c0, c1⟩, _⟩ := hf (j / 2) hd
    rw [e] at e'
    obtain rfl := Option.some.inj e'
    rw [Addr.add_lit]
    by_cases hm : j % 2 = 0
    · have ej : j / 2 * 2 = j := by omega
      rw [ej] at g0 c0
      rw [hv] at g0
      rw [Option.some.inj g0]
      exact c0
    · have ej : j / 2 * 2 + 1 = j := by omega
      rw [ej] at g1
      rw [Nat.add_assoc, ej] at c1
      rw [hv] at g1
      rw [Option.some.inj g1]
      exact c1
  · obtain ⟨i, hi, rfl⟩ := List.mem_map.1 hp
    exact (hf i (List.mem_range.1 hi)).2.2.vk
theorem As.up {W w1 : World} {B : Nat} {u : Value} {l : List Ar} (h : As W B u l) (hb : Below W.heap.size W w1) : As w1 B u l := by
  obtain ⟨ps, a, c, e, e2, h1, h2, h3⟩ := h
  exact ⟨ps, a, c, e, e2, h1, fun ad ea j v hv => (hb.cell (p := ad.add j) (lt_cellA (h2 ad ea j v hv))).trans (h2 ad ea j v hv), fun p hp => (h3 p hp).up hb⟩
theorem As.mono {w : World} {B C : Nat} {u : Value} {l : List Ar} (h : As w B u l) (hBC : B ≤ C) : As w C u l := by
  obtain ⟨ps, a, c, e, e2, h1, h2, h3⟩ := h
  exact ⟨ps, a, c, e, e2, h1, h2, fun p hp => (h3 p hp).mono hBC⟩
/-- One element in a slice of its own. -/
theorem As.one {w : World} {B : Nat} (x : Ar) (u : Value) (hu : Vk w B u x.v) (b : Nat) (c0 : w.cell? ⟨b, 0, none⟩ = some (.int .i64 x.k)) (c1 : w.cell? ⟨b, 1, none⟩ = some u) : As w B (.slice (some ⟨b, 0, none⟩) 1 1) [x] := by
  refine ⟨[(x, u)], _, 1, rfl, rfl, (fun h => by cases h), fun ad e j v hv => ?_, fun p hp => ?_⟩
  · obtain rfl := Option.some.inj e
    rw [Addr.add_lit, Nat.zero_add]
    match j, hv with
    | 0, hv =>
      obtain rfl := Option.some.inj hv
      exact c0
    | 1, hv =>
      obtain rfl := Option.some.inj hv
      exact c1
  · obtain rfl := List.mem_singleton.1 hp
    exact hu
theorem wp_appA {ops : Array Oper} {rest : List Oper} {o : Oper} {a : Act} {Q : Exit → Act → World → Prop} {w : World} (hgd : o.guard = none) (s x : Operand)
    (ho : o.op = .call { callee := .builtin .append, args := #[s, x], argTypes := #[22, 22] })
    (B : Nat) (v u : Value) (l m : List Ar) (hs : a.eval s = v) (hown : Oa w B v l) (hx : a.eval x = u) (hy : As w B u m) (hl : l.length + m.length ≤ 4000000) (hB : B ≤ w.heap.size)
    (h : ∀ v' w', Oa w' B v' (l ++ m) → w.grownBy w' v.ownBlock → wpList Try.prog ops Q rest (a.put o.dst v') w') : wpList Try.prog ops Q (o :: rest) a w := by
  obtain ⟨i0, hi, hz0, hz1, hz2⟩ := info_parts iAttr
  obtain ⟨qs, ad, c, rfl, rfl, hyn, hcells, hvk⟩ := hy
  obtain ⟨ps, rfl, h1, h2⟩ := hown
  rw [List.length_map, List.length_map] at hl
  cases ad with
  | none =>
    obtain ⟨hq, rfl⟩ := hyn rfl
    have hq' : qs = [] := List.length_eq_zero_iff.1 hq
    subst hq'
    refine wpList_append_own_none hgd s x 22 ho B 38 i0 2 Try.uAttrs hi v ps.length (flatA ps) hs h1 hx ?_
    exact h v w (by rw [List.map_nil, List.append_nil]; exact ⟨ps, rfl, h1, h2⟩) (World.grownBy.refl _ _)
  | some ad =>
    refine wpList_append_own w hgd s x 22 ho B 38 i0 (.agg atZ.toArray) 2 32 Try.uAttrs hi hz0 hz1 hz2 rfl (by decide) v ps.length (flatA ps) hs h1 ad qs.length c (flatA qs) hx (flatA_len qs) (fun j u hj => hcells ad rfl j u hj) ?_ (by unfold maxLen; omega) (by omega) hB fun v' w' a1 a2 _ => h v' w' ?_ a2
    · intro u hu
      obtain ⟨p, hp, hs⟩ := List.mem_flatMap.1 hu
      simp only [List.mem_cons, List.not_mem_nil, or_false] at hs
      rcases hs with rfl | rfl
      · rfl
      · exact (hvk p hp).1.oneC
    · refine ⟨ps ++ qs, by rw [List.map_append], ?_, fun p hp => ?_⟩
      · rw [List.length_append, flatA_app]
        exact a1
      · rcases List.mem_append.1 hp with hp | hp
        · exact (h2 p hp).kept h1 a2
        · exact (hvk p hp).kept h1 a2
end Go.Proofs.Ytepaapiflkkghab
