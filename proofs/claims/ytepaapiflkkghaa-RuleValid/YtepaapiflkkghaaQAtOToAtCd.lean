/- Texts that were joined: AtO, UpG, UpQ, UpW, UpZe, AtCd. -/
import Derived.Test.YtepaapiflkkghaaQAtS
import Derived.Test.YtepaapiflkkghaaQUpToKnO
import Derived.Test.YtepaapiflkkghaaQUpMToUpMG
import Derived.OrdersHeld
import Derived.Test.YtepaapiflkkghaaQNumToKn
import Derived.Test.YtepaapiflkkghaaQYcToYo
import Derived.Test.YtepaapiflkkghaaQAtMToRuM
/- Own rows of attributes: append. -/
namespace Go.Proofs.Ytepaapiflkkghaa
open Go.RowKit Go.Deep Go.ChangeShapes
set_option linter.unusedSimpArgs false
theorem iAttr : (Try.prog.info? 64).map (fun i => (i.zero, i.size, i.bytes)) = some (some (.agg atZ.toArray), 2, 32) := by kernel_rfl
theorem lt_cellA {w : World} {a : Addr} {v : Value} (h : w.cell? a = some v) : a.block < w.heap.size := by
  apply Classical.byContradiction
  intro hn
  have hk : w.heap[a.block]? = none := Array.getElem?_eq_none (by omega)
  simp [World.cell?, hk] at h
/-- Bytes that stay where a row of attributes above B is appended to. -/
def Vk (w : World) (B : Nat) (u : Value) (xs : List Nat) : Prop := By w u xs ∧ (0 < xs.length → ∀ g, u.ownBlock = some g → g < B ∨ ∃ cur m, w.heap[g]? = some (.cells cur 5 m))
theorem Vk.up {W w1 : World} {B : Nat} {v : Value} {xs : List Nat} (h : Vk W B v xs) (hb : Below W.heap.size W w1) : Vk w1 B v xs :=
  ⟨h.1.up hb (Nat.le_refl _), fun hp g hg => by
    rcases h.2 hp g hg with h | ⟨cur, m, e⟩
    · exact .inl h
    · exact .inr ⟨cur, m, (hb.block g (Array.getElem?_eq_some_iff.1 e).1).trans e⟩⟩
theorem Vk.mono {w : World} {B C : Nat} {v : Value} {xs : List Nat} (h : Vk w B v xs) (hBC : B ≤ C) : Vk w C v xs :=
  ⟨h.1, fun hp g hg => (h.2 hp g hg).imp (fun h => Nat.lt_of_lt_of_le h hBC) id⟩
/-- Bytes that lie there already. -/
theorem By.vk {w : World} {v : Value} {xs : List Nat} (h : By w v xs) : Vk w w.heap.size v xs :=
  ⟨h, fun hp g hg => by
    obtain ⟨a, c, rfl, _, _, h3⟩ := h
    obtain ⟨b, o, rfl, hc⟩ := h3 hp
    obtain rfl : b = g := Option.some.inj hg
    exact .inl (lt_of_cellB (hc 0 hp))⟩
theorem By.oneC {w : World} {v : Value} {xs : List Nat} (h : By w v xs) : v.oneCell' = true := by
  obtain ⟨a, c, rfl, _⟩ := h
  rfl
def flatA (ps : List (Ar × Value)) : List Value := ps.flatMap fun p => [.int .i64 p.1.k, p.2]
theorem flatA_len : ∀ ps : List (Ar × Value), (flatA ps).length = ps.length * 2
  | [] => rfl
  | p :: ps => by
    have := flatA_len ps
    simp only [flatA, List.flatMap_cons, List.length_append, List.length_cons, List.length_nil] at this ⊢
    omega
theorem flatA_get : ∀ (ps : List (Ar × Value)) (j : Nat) (p : Ar × Value), ps[j]? = some p → (flatA ps)[j * 2]? = some (.int .i64 p.1.k) ∧ (flatA ps)[j * 2 + 1]? = some p.2
  | [], j, p, h => by simp at h
  | q :: ps, 0, p, h => by
    obtain rfl : q = p := by simpa using h
    exact ⟨rfl, rfl⟩
  | q :: ps, j + 1, p, h => by
    have := flatA_get ps j p (by simpa using h)
    rw [show (j + 1) * 2 = j * 2 + 2 by omega]
    exact ⟨this.1, this.2⟩
theorem flatA_app (ps qs : List (Ar × Value)) : flatA (ps ++ qs) = flatA ps ++ flatA qs := by unfold flatA; rw [List.flatMap_append]
theorem own_upA {W w1 : World} {B e n k : Nat} {v : Value} {xs : List Value} (h : W.ownsRow B e k v n xs) (hb : Below W.heap.size W w1) : w1.ownsRow B e k v n xs := by
  refine ⟨h.1, ?_⟩
  rcases h.2 with h' | ⟨g, cap, cur, e, hB, hg, rest⟩
  · exact .inl h'
  · exact .inr ⟨g, cap, cur, e, hB, (hb.block g (Array.getElem?_eq_some_iff.1 hg).1).trans hg, rest⟩
theorem own_objA {w : World} {B e n k : Nat} {v : Value} {xs : List Value} (h : w.ownsRow B e k v n xs) {g : Nat} (hg : v.ownBlock = some g) : ∃ cur, w.heap[g]? = some (.cells cur e (0, 0)) := by
  rcases h.2 with ⟨e, e2⟩ | ⟨g', cap, cur, e, hB, hg', hn, rest⟩
  · rw [e] at hg; cases hg
  · rw [e] at hg
    obtain rfl : g' = g := Option.some.inj hg
    exact ⟨cur, hg'⟩
/-- A row of attributes that the call made. -/
def Oa (w : World) (B : Nat) (v : Value) (l : List Ar) : Prop := ∃ ps : List (Ar × Value), ps.map Prod.fst = l ∧ w.ownsRow B 64 2 v ps.length (flatA ps) ∧ ∀ p ∈ ps, Vk w B p.2 p.1.v
theorem Oa.nil (w : World) (B : Nat) : Oa w B (.slice none 0 0) [] := ⟨[], rfl, World.ownsRow_nil _ _ _ _, by simp⟩
theorem Oa.up {W w1 : World} {B : Nat} {v : Value} {l : List Ar} (h : Oa W B v l) (hb : Below W.heap.size W w1) : Oa w1 B v l := by
  obtain ⟨ps, e, h1, h2⟩ := h
  exact ⟨ps, e, own_upA h1 hb, fun p hp => (h2 p hp).up hb⟩
theorem Oa.ats {w : World} {B : Nat} {v : Value} {l : List Ar} (h : Oa w B v l) : Ats w v l := by
  obtain ⟨ps, rfl, h1, h2⟩ := h
  rcases id h1.2 with ⟨e, e2⟩ | ⟨g, cap, cur, e, hB, hg, hn, rest⟩
  · have : ps = [] := List.length_eq_zero_iff.1 e2
    subst this
    rw [e]
    exact Ats.nil w
  · refine ⟨_, cap, by rw [e, List.length_map], by rw [List.length_map]; exact hn, (fun h => by cases h), fun hp => ⟨g, 0, rfl, fun j x hx => ?_⟩⟩
    subst e
    obtain ⟨p, hp1, hp2⟩ : ∃ p, ps[j]? = some p ∧ p.1 = x := by
      rw [List.getElem?_map] at hx
      cases e3 : ps[j]? with
      | none => rw [e3] at hx; cases hx
      | some p => rw [e3] at hx; exact ⟨p, rfl, by simpa using hx⟩
    have hj : j < ps.length := (List.getElem?_eq_some_iff.1 hp1).1
    obtain ⟨c0, c1⟩ := flatA_get ps j p hp1
    rw [← hp2]
    refine ⟨?_, p.2, ?_, (h2 p (List.mem_of_getElem? hp1)).1⟩
    · rw [Nat.zero_add, h1.cellAt (j * 2) (by omega)]; exact c0
    · rw [Nat.zero_add, h1.cellAt (j * 2 + 1) (by omega)]; exact c1
theorem Oa.ge {w : World} {B : Nat} {v : Value} {l : List Ar} (h : Oa w B v l) : ∀ g, v.ownBlock = some g → B ≤ g := fun g hg => by
  obtain ⟨ps, _, h1, _⟩ := h
  exact (h1.lt g hg).1
theorem Vk.kept {w w' : World} {B e n : Nat} {v u : Value} {xs : List Nat} {ys : List Value} (h : Vk w B u xs) (ho : w.ownsRow B 64 e v n ys) (hg : w.grownBy w' v.ownBlock) : Vk w' B u xs := by
  by_cases hp : 0 < xs.length
  · have ne : ∀ g, u.ownBlock = some g → some g ≠ v.ownBlock := by
      intro g hu e2
      rcases h.2 hp g hu with h1 | ⟨c1, m, h1⟩
      · have := (ho.lt g e2.symm).1
        omega
      · obtain ⟨c2, h2⟩ := own_objA ho e2.symm
        rw [h1] at h2
        simp at h2
    obtain ⟨⟨a, c, rfl, h1, h2, h3⟩, hk⟩ := h
    refine ⟨⟨a, c, rfl, h1, h2, fun hp => ?_⟩, fun _ g hu => ?_⟩
    · obtain ⟨b, o, rfl, hc⟩ := h3 hp
      exact ⟨b, o, rfl, fun j hj => hg.cell (hc j hj) (ne b rfl)⟩
    · rcases hk hp g hu with h | ⟨cur, m, e⟩
      · exact .inl h
      · exact .inr ⟨cur, m, (hg.block g (Array.getElem?_eq_some_iff.1 e).1 (ne g hu)).trans e⟩
  · obtain ⟨⟨a, c, rfl, h1, h2, h3⟩, hk⟩ := h
    exact ⟨⟨a, c, rfl, h1, h2, fun h => absurd h hp⟩, fun h => absurd h hp⟩
/-- A slice of attributes that may be appended. -/
def As (w : World) (B : Nat) (u : Value) (l : List Ar) : Prop := ∃ (ps : List (Ar × Value)) (a : Option Addr) (c : Nat), ps.map Prod.fst = l ∧ u = .slice a ps.length c ∧ (a = none → ps.length = 0 ∧ c = 0) ∧ (∀ ad, a = some ad → ∀ j v, (flatA ps)[j]? = some v → w.cell? (ad.add j) = some v) ∧ ∀ p ∈ ps, Vk w B p.2 p.1.v
theorem Ats.as {w : World} {u : Value} {l : List Ar} (h : Ats w u l) : As w w.heap.size u l := by
  obtain ⟨a, c, rfl, h1, h2, h3⟩ := h
  have each : ∀ i, i < l.length → ∃ p : Ar × Value, l[i]? = some p.1 ∧ (∃ b o, a = some ⟨b, o, none⟩ ∧ w.cell? ⟨b, o + i * 2, none⟩ = some (.int .i64 p.1.k) ∧ w.cell? ⟨b, o + i * 2 + 1, none⟩ = some p.2) ∧ By w p.2 p.1.v := fun i hi => by
    obtain ⟨b, o, e, hc⟩ := h3 (by omega)
    obtain ⟨c0, v, c1, hv⟩ := hc i l[i] (List.getElem?_eq_getElem hi)
    exact ⟨(l[i], v), List.getElem?_eq_getElem hi, ⟨b, o, e, c0, c1⟩, hv⟩
  have hinh : Inhabited (Ar × Value) := ⟨(ar0, undef)⟩
  obtain ⟨f, hf⟩ := choose_lt each
  have hl : ((List.range l.length).map f).length = l.length := by rw [List.length_map, List.length_range]
  refine ⟨(List.range l.length).map f, a, c, ?_, by rw [hl], fun e => ⟨?_, h2 e⟩, fun ad e j v hv => ?_, fun p hp => ?_⟩
  · refine List.ext_getElem? fun i => ?_
    rw [List.getElem?_map, List.getElem?_map]
    by_cases hi : i < l.length
    · rw [List.getElem?_range hi]
      exact (hf i hi).1.symm
    · rw [List.getElem?_eq_none (by rw [List.length_range]; omega), List.getElem?_eq_none (by omega)]
      rfl
  · rw [hl]
    have := h2 e
    omega
  · have hj : j < l.length * 2 := by
      have := (List.getElem?_eq_some_iff.1 hv).1
      rwa [flatA_len, hl] at this
    have hd : j / 2 < l.length := by omega
    have hp : ((List.range l.length).map f)[j / 2]? = some (f (j / 2)) := by rw [List.getElem?_map, List.getElem?_range hd]; rfl
    obtain ⟨g0, g1⟩ := flatA_get _ _ _ hp
    obtain ⟨_, ⟨b, o, e', c0, c1⟩, _⟩ := hf (j / 2) hd
    rw [e] at e'
    obtain rfl := Option.some.inj e'
    rw [Addr.add_lit]
    by_cases hm : j % 2 = 0
    · have ej : j / 2 * 2 = j := by omega
      rw [ej] at g0 c0
      rw [hv] at g0
      rw [Option.some.inj g0]
      exact c0
    · have ej : j / 2 * 2 + 1 = j := by omega
      rw [ej] at g1
      rw [Nat.add_assoc, ej] at c1
      rw [hv] at g1
      rw [Option.some.inj g1]
      exact c1
  · obtain ⟨i, hi, rfl⟩ := List.mem_map.1 hp
    exact (hf i (List.mem_range.1 hi)).2.2.vk
theorem As.up {W w1 : World} {B : Nat} {u : Value} {l : List Ar} (h : As W B u l) (hb : Below W.heap.size W w1) : As w1 B u l := by
  obtain ⟨ps, a, c, e, e2, h1, h2, h3⟩ := h
  exact ⟨ps, a, c, e, e2, h1, fun ad ea j v hv => (hb.cell (p := ad.add j) (lt_cellA (h2 ad ea j v hv))).trans (h2 ad ea j v hv), fun p hp => (h3 p hp).up hb⟩
theorem As.mono {w : World} {B C : Nat} {u : Value} {l : List Ar} (h : As w B u l) (hBC : B ≤ C) : As w C u l := by
  obtain ⟨ps, a, c, e, e2, h1, h2, h3⟩ := h
  exact ⟨ps, a, c, e, e2, h1, h2, fun p hp => (h3 p hp).mono hBC⟩
/-- One element in a slice of its own. -/
theorem As.one {w : World} {B : Nat} (x : Ar) (u : Value) (hu : Vk w B u x.v) (b : Nat) (c0 : w.cell? ⟨b, 0, none⟩ = some (.int .i64 x.k)) (c1 : w.cell? ⟨b, 1, none⟩ = some u) : As w B (.slice (some ⟨b, 0, none⟩) 1 1) [x] := by
  refine ⟨[(x, u)], _, 1, rfl, rfl, (fun h => by cases h), fun ad e j v hv => ?_, fun p hp => ?_⟩
  · obtain rfl := Option.some.inj e
    rw [Addr.add_lit, Nat.zero_add]
    match j, hv with
    | 0, hv =>
      obtain rfl := Option.some.inj hv
      exact c0
    | 1, hv =>
      obtain rfl := Option.some.inj hv
      exact c1
  · obtain rfl := List.mem_singleton.1 hp
    exact hu
theorem wp_appA {ops : Array Oper} {rest : List Oper} {o : Oper} {a : Act} {Q : Exit → Act → World → Prop} {w : World} (hgd : o.guard = none) (s x : Operand)
    (ho : o.op = .call { callee := .builtin .append, args := #[s, x], argTypes := #[22, 22] })
    (B : Nat) (v u : Value) (l m : List Ar) (hs : a.eval s = v) (hown : Oa w B v l) (hx : a.eval x = u) (hy : As w B u m) (hl : l.length + m.length ≤ 4000000) (hB : B ≤ w.heap.size)
    (h : ∀ v' w', Oa w' B v' (l ++ m) → w.grownBy w' v.ownBlock → wpList Try.prog ops Q rest (a.put o.dst v') w') : wpList Try.prog ops Q (o :: rest) a w := by
  obtain ⟨i0, hi, hz0, hz1, hz2⟩ := info_parts iAttr
  obtain ⟨qs, ad, c, rfl, rfl, hyn, hcells, hvk⟩ := hy
  obtain ⟨ps, rfl, h1, h2⟩ := hown
  rw [List.length_map, List.length_map] at hl
  cases ad with
  | none =>
    obtain ⟨hq, rfl⟩ := hyn rfl
    have hq' : qs = [] := List.length_eq_zero_iff.1 hq
    subst hq'
    refine wpList_append_own_none hgd s x 22 ho B 64 i0 2 Try.uAttrs hi v ps.length (flatA ps) hs h1 hx ?_
    exact h v w (by rw [List.map_nil, List.append_nil]; exact ⟨ps, rfl, h1, h2⟩) (World.grownBy.refl _ _)
  | some ad =>
    refine wpList_append_own w hgd s x 22 ho B 64 i0 (.agg atZ.toArray) 2 32 Try.uAttrs hi hz0 hz1 hz2 rfl (by decide) v ps.length (flatA ps) hs h1 ad qs.length c (flatA qs) hx (flatA_len qs) (fun j u hj => hcells ad rfl j u hj) ?_ (by unfold maxLen; omega) (by omega) hB fun v' w' a1 a2 _ => h v' w' ?_ a2
    · intro u hu
      obtain ⟨p, hp, hs⟩ := List.mem_flatMap.1 hu
      simp only [List.mem_cons, List.not_mem_nil, or_false] at hs
      rcases hs with rfl | rfl
      · rfl
      · exact (hvk p hp).1.oneC
    · refine ⟨ps ++ qs, by rw [List.map_append], ?_, fun p hp => ?_⟩
      · rw [List.length_append, flatA_app]
        exact a1
      · rcases List.mem_append.1 hp with hp | hp
        · exact (h2 p hp).kept h1 a2
        · exact (hvk p hp).kept h1 a2
end Go.Proofs.Ytepaapiflkkghaa

/- A drawn region in which some operations may be taken first (they yield their value in every world, and each other one waits for them or is apart from them), and the others then come one by one. Over any program. -/
namespace Go.Proofs.Ytepaapiflkkghaa
open Go.RowKit
section
variable {P : Program} {ops : Array Oper} {Q : Exit → Act → World → Prop}
end
end Go.Proofs.Ytepaapiflkkghaa

/- A drawn region: some operations are taken first (they yield their value in every world that keeps a condition), the others come one by one, and each keeps the condition. Over any program. -/
namespace Go.Proofs.Ytepaapiflkkghaa
open Go.RowKit
section
variable {P : Program} {ops : Array Oper} {Q : Exit → Act → World → Prop} {S : World → Prop}
/-- Another end, of the normal way alone. -/
def upN (Q : Exit → Act → World → Prop) (K : Act → World → Prop) : Exit → Act → World → Prop
  | .normal, a, w => K a w
  | e, a, w => Q e a w
theorem wpOp_of_list {i : Nat} {o : Oper} {a : Act} {w : World} {K : Act → World → Prop} (hi : ops[i]? = some o) (h : wpList P ops (upN Q K) [o] a w) : wpOp P ops Q i K a w := by
  unfold wpOp
  simp only [hi]
  unfold wpList at h
  split
  · rename_i hw
    rw [if_pos hw] at h
    rcases h with h | ⟨h1, h2⟩
    · refine .inl ?_
      unfold Oper.wp at h ⊢
      generalize (execOp a.eval o).run P w = r at *
      cases r with
      | ok n w' =>
        cases n <;> simp only [Oper.upon] at h ⊢
        case value v => exact h
        case skip => exact h
        case defer d => exact h
        case enter f args =>
          refine Calls.mono h fun e w'' he => ?_
          cases e with
          | returned u => exact he
          | panicked c => exact he
          | outgrown => exact he
        case row row args => exact h
      | halt x w' => cases x <;> simp only [Oper.upon] at h ⊢ <;> exact h
    · exact .inr ⟨h1, h2⟩
  · rename_i hw
    rw [if_neg hw] at h
    exact h
end
end Go.Proofs.Ytepaapiflkkghaa

/- A drawn region walked along its orders: one operation after another, each out of those that may come up. Over any program. -/
namespace Go.Proofs.Ytepaapiflkkghaa
open Go.RowKit
section
variable {P : Program} {ops : Array Oper} {Q : Exit → Act → World → Prop} {S : World → Prop} {fuel : Nat} {listed : Array Bool} {a : Act} {w : World}
theorem wanted_none {o : Oper} {y : Array Value} (h : o.guard = none) : Region.wanted o (yielded ops y) = true := by simp [Region.wanted, h]
/-- An operation that yields a value with a property. -/
theorem anyH_y {i : Nat} {o : Oper} {φ : Value → World → Prop} (ho : ops[i]? = some o) (hw : Region.wanted o (yielded ops a.tmps) = true) (h : YieldsP P o a w φ) (hk : ∀ v w', φ v w' → Below w.heap.size w w' → S w' ∧ wpAnyH P .any ops Q S fuel (listed.setIfInBounds i true) (a.put o.dst v) w') : wpOp P ops Q i (fun a' w' => S w' ∧ wpAnyH P .any ops Q S fuel (listed.setIfInBounds i true) a' w') a w :=
  wpOp_of_list ho (by
    unfold wpList
    rw [if_pos hw]
    exact .inl (YieldsP.wp h fun v w' hv hb => hk v w' hv hb))
/-- An operation by a walk's law. -/
theorem anyH_l {i : Nat} {o : Oper} (ho : ops[i]? = some o) (h : wpList P ops (upN Q fun a' w' => S w' ∧ wpAnyH P .any ops Q S fuel (listed.setIfInBounds i true) a' w') [o] a w) : wpOp P ops Q i (fun a' w' => S w' ∧ wpAnyH P .any ops Q S fuel (listed.setIfInBounds i true) a' w') a w := wpOp_of_list ho h
theorem anyH_end {K : Act → World → Prop} (h : K a w) : wpList P ops (upN Q K) [] a w := h
theorem anyH_one {i : Nat} (hr : Region.ready .any ops listed = [i]) (h : wpOp P ops Q i (fun a' w' => S w' ∧ wpAnyH P .any ops Q S fuel (listed.setIfInBounds i true) a' w') a w) : wpAnyH P .any ops Q S (fuel + 1) listed a w :=
  wpAnyH_all hr (by simp) fun j hj => by
    obtain rfl : j = i := by simpa using hj
    exact h
theorem anyH_two {i k : Nat} (hr : Region.ready .any ops listed = [i, k]) (h : wpOp P ops Q i (fun a' w' => S w' ∧ wpAnyH P .any ops Q S fuel (listed.setIfInBounds i true) a' w') a w) (h2 : wpOp P ops Q k (fun a' w' => S w' ∧ wpAnyH P .any ops Q S fuel (listed.setIfInBounds k true) a' w') a w) : wpAnyH P .any ops Q S (fuel + 1) listed a w :=
  wpAnyH_all hr (by simp) fun j hj => by
    have hj : j = i ∨ j = k := by simpa using hj
    rcases hj with rfl | rfl
    · exact h
    · exact h2
end
end Go.Proofs.Ytepaapiflkkghaa

/- Single operations by their values; a call within a walk along orders. -/
namespace Go.Proofs.Ytepaapiflkkghaa
open Go.RowKit
set_option linter.unusedSimpArgs false
theorem exec_mvM {o : Oper} {a : Act} {v : Value} (x : Operand) (ho : o.op = .move x) (hx : a.eval x = v) (W : World) : (execOp a.eval o).run Try.prog W = .ok (.value v) W := by
  generalize a.eval = ev at *
  unfold execOp
  simp [ho, hx, go_sem]
end Go.Proofs.Ytepaapiflkkghaa

/- The document's card of attributes: its cells; CardOf. -/
namespace Go.Proofs.Ytepaapiflkkghaa
open Go.RowKit
attribute [local go_sem] World.cell?_alloc_some cell_alloc2 cell_alloc3 cell_alloc4 frozen?_alloc_cells frozen_out
set_option linter.unusedSimpArgs false
/-- The cells of a card: which kinds are there, and their values. -/
def crdC (f : Nat → Option (List Nat)) : List Value := ((List.range 19).map fun i => .bool (f i).isSome) ++ ((List.range 19).map fun i => .string (sOf ((f i).getD [])))
theorem crdC_length (f : Nat → Option (List Nat)) : (crdC f).length = 38 := by simp [crdC]
theorem crdC_has (f : Nat → Option (List Nat)) {i : Nat} (hi : i < 19) : (crdC f)[i]? = some (.bool (f i).isSome) := by
  rw [crdC, List.getElem?_append_left (by simpa using hi), List.getElem?_map, List.getElem?_range hi]
  rfl
theorem crdC_val (f : Nat → Option (List Nat)) {i : Nat} (hi : i < 19) : (crdC f)[19 + i]? = some (.string (sOf ((f i).getD []))) := by
  rw [crdC, List.getElem?_append_right (by simp), List.getElem?_map]
  simp [List.getElem?_range hi]
theorem crdC_put (f : Nat → Option (List Nat)) {i : Nat} (hi : i < 19) (v : List Nat) : ((crdC f).set i (.bool true)).set (19 + i) (.string (sOf v)) = crdC (putF f i v) := by
  refine List.ext_getElem (by simp [crdC_length]) fun q h1 h2 => ?_
  rw [crdC_length] at h2
  have e1 : ∀ g : Nat → Option (List Nat), ∀ hq, (crdC g)[q]'hq = if q < 19 then .bool (g q).isSome else .string (sOf ((g (q - 19)).getD [])) := fun g hq => by
    by_cases h : q < 19
    · have := crdC_has g h
      rw [List.getElem?_eq_getElem hq] at this
      rw [if_pos h]
      exact Option.some.inj this
    · have := crdC_val g (show q - 19 < 19 by omega)
      rw [show 19 + (q - 19) = q by omega, List.getElem?_eq_getElem hq] at this
      rw [if_neg h]
      exact Option.some.inj this
  rw [List.getElem_set, List.getElem_set, e1, e1]
  unfold putF
  by_cases h3 : 19 + i = q
  · rw [if_pos h3, if_neg (by omega), if_pos (by omega)]
    rfl
  · rw [if_neg h3]
    by_cases h4 : i = q
    · rw [if_pos h4, if_pos (by omega), if_pos h4.symm]
      rfl
    · rw [if_neg h4]
      by_cases h5 : q < 19
      · rw [if_pos h5, if_pos h5, if_neg (fun e => h4 e.symm)]
      · rw [if_neg h5, if_neg h5, if_neg (by omega)]
theorem u_card : Try.prog.underlying 31 = some (.struct (match Try.prog.underlying 31 with | some (.struct fs) => fs | _ => #[])) := by kernel_rfl
theorem info_card (f : Nat → Option (List Nat)) : (Try.prog.info? 31).map (·.size) = some (crdC f).length := by rw [crdC_length]; kernel_rfl
theorem zero_card (w : World) : (zeroValue 31).run Try.prog w = .ok (.agg (crdC fun _ => none).toArray) w := I.zero_of (by kernel_rfl) w
theorem one_crd (f : Nat → Option (List Nat)) : ∀ v ∈ crdC f, v.oneCell' = true := fun v hv => by
  unfold crdC at hv
  rcases List.mem_append.1 hv with hv | hv
  · obtain ⟨i, _, rfl⟩ := List.mem_map.1 hv
    rfl
  · obtain ⟨i, _, rfl⟩ := List.mem_map.1 hv
    rfl
theorem exec_faA {o : Oper} {a : Act} {b q f : Nat} (x : Operand) (ho : o.op = .fieldAddr 64 x f) (hf : f < 2) (hx : a.eval x = .pointer (some ⟨b, q, none⟩)) (w : World) : (execOp a.eval o).run Try.prog w = .ok (.value (.pointer (some ⟨b, q + f, none⟩))) w := by
  generalize a.eval = ev at *
  match f, hf with
  | 0, _ =>
    unfold execOp
    simp [ho, hx, go_sem]
  | 1, _ =>
    unfold execOp
    simp [ho, hx, go_sem]
theorem exec_faC {o : Oper} {a : Act} {b q f : Nat} (x : Operand) (ho : o.op = .fieldAddr 31 x f) (hf : f < 2) (hx : a.eval x = .pointer (some ⟨b, q, none⟩)) (w : World) : (execOp a.eval o).run Try.prog w = .ok (.value (.pointer (some ⟨b, q + f * 19, none⟩))) w := by
  generalize a.eval = ev at *
  match f, hf with
  | 0, _ =>
    unfold execOp
    simp [ho, hx, go_sem]
  | 1, _ =>
    unfold execOp
    simp [ho, hx, go_sem]
theorem exec_ixB {o : Oper} {a : Act} {b q i r : Nat} (x y : Operand) (ho : o.op = .indexAddr 28 x y) (hx : a.eval x = .pointer (some ⟨b, q, none⟩)) (hy : a.eval y = .int .i64 (i : Int)) (hi : i < 19) (hr : q + i = r) (w : World) : (execOp a.eval o).run Try.prog w = .ok (.value (.pointer (some ⟨b, r, none⟩))) w := by
  subst hr
  have i0 : (0 : Int) ≤ (i : Int) := by omega
  have i1 : (i : Int) < 19 := by omega
  generalize a.eval = ev at *
  unfold execOp
  simp [ho, hx, hy, go_sem, i0, i1]
theorem exec_ixS {o : Oper} {a : Act} {b q i r : Nat} (x y : Operand) (ho : o.op = .indexAddr 29 x y) (hx : a.eval x = .pointer (some ⟨b, q, none⟩)) (hy : a.eval y = .int .i64 (i : Int)) (hi : i < 19) (hr : q + i = r) (w : World) : (execOp a.eval o).run Try.prog w = .ok (.value (.pointer (some ⟨b, r, none⟩))) w := by
  subst hr
  have i0 : (0 : Int) ≤ (i : Int) := by omega
  have i1 : (i : Int) < 19 := by omega
  generalize a.eval = ev at *
  unfold execOp
  simp [ho, hx, hy, go_sem, i0, i1]
theorem exec_ldi {o : Oper} {a : Act} {b q : Nat} {i : Int} (x : Operand) (ho : o.op = .load 3 x) (hx : a.eval x = .pointer (some ⟨b, q, none⟩)) (w : World) (hc : w.cell? ⟨b, q, none⟩ = some (.int .i64 i)) : (execOp a.eval o).run Try.prog w = .ok (.value (.int .i64 i)) w := by
  generalize a.eval = ev at *
  unfold execOp
  simp [ho, hx, go_sem, hc]
theorem exec_ldb {o : Oper} {a : Act} {b q : Nat} {d : Option Addr} {n c : Nat} (x : Operand) (ho : o.op = .load 42 x) (hx : a.eval x = .pointer (some ⟨b, q, none⟩)) (w : World) (hc : w.cell? ⟨b, q, none⟩ = some (.slice d n c)) : (execOp a.eval o).run Try.prog w = .ok (.value (.slice d n c)) w := by
  generalize a.eval = ev at *
  unfold execOp
  simp [ho, hx, go_sem, hc]
theorem exec_lds {o : Oper} {a : Act} {b q : Nat} {s : ByteArray} (x : Operand) (ho : o.op = .load 9 x) (hx : a.eval x = .pointer (some ⟨b, q, none⟩)) (w : World) (hc : w.cell? ⟨b, q, none⟩ = some (.string s)) : (execOp a.eval o).run Try.prog w = .ok (.value (.string s)) w := by
  generalize a.eval = ev at *
  unfold execOp
  simp [ho, hx, go_sem, hc]
theorem exec_cvA {o : Oper} {a : Act} (x : Operand) (ho : o.op = .convert 42 9 x) (u : Value) (xs : List Nat) (hx : a.eval x = u) (w : World) (h : By w u xs) : (execOp a.eval o).run Try.prog w = .ok (.value (.string (sOf xs))) w := by
  have e1 := bytes_conv h
  generalize a.eval = ev at *
  unfold execOp
  simp [ho, hx, e1]
end Go.Proofs.Ytepaapiflkkghaa
