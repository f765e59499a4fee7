/- Turnings among the arguments: what a slice of them holds, out of its reading. -/
import Derived.Test.YtepaapiflkkghabQAtOz
namespace Go.Proofs.Ytepaapiflkkghab
open Go.ChangeShapes Go.WideShapes Go.ChangeAt Go.RowKit Go.Deep
/-- A turning: copied, or changed; by a template. -/
structure Tu where
  c : Bool
  l : List Ar
def tu0 : Tu := ⟨false, []⟩
/-- A template as its bounds are. -/
def Tu.ok (x : Tu) : Prop := (∀ y ∈ x.l, y.ok) ∧ x.l.length ≤ 140737488351232 ∧ ∀ y ∈ x.l, y.v.length ≤ 140737488351232
theorem Try.uTurns : Try.prog.underlying 23 = some (.slice 28) := by kernel_rfl
theorem cellsTurn : Try.prog.cellsOf 28 = 2 := by kernel_rfl
theorem cellsBoolU : Try.prog.cellsOf 4 = 1 := by kernel_rfl
theorem cellsAttrsU : Try.prog.cellsOf 22 = 1 := by kernel_rfl
theorem uBoolU : Try.prog.underlying 4 = some .bool := by kernel_rfl
/-- The slice v holds the turnings l. -/
def Tus (w : World) (v : Value) (l : List Tu) : Prop :=
  ∃ a c, v = .slice a l.length c ∧ l.length ≤ c ∧ (0 < l.length → ∃ b o, a = some ⟨b, o, none⟩ ∧ ∀ j x, l[j]? = some x → w.cell? ⟨b, o + j * 2, none⟩ = some (.bool x.c) ∧ ∃ u, w.cell? ⟨b, o + j * 2 + 1, none⟩ = some u ∧ Ats w u x.l)
theorem Tus.up {W w1 : World} {v : Value} {l : List Tu} (h : Tus W v l) (hb : Below W.heap.size W w1) : Tus w1 v l := by
  obtain ⟨a, c, e, h1, h3⟩ := h
  refine ⟨a, c, e, h1, fun hp => ?_⟩
  obtain ⟨b, o, e2, hc⟩ := h3 hp
  refine ⟨b, o, e2, fun j x hx => ?_⟩
  obtain ⟨t1, u, t2, t3⟩ := hc j x hx
  exact ⟨(hb.cell (p := ⟨b, _, none⟩) (lt_of_cellB t1)).trans t1, u, (hb.cell (p := ⟨b, _, none⟩) (lt_of_cellB t2)).trans t2, t3.up hb (Nat.le_refl _)⟩
theorem tus_parts {w : World} {v : Value} {l : List Tu} (h : Tus w v l) : ∃ a c, v = .slice a l.length c := by
  obtain ⟨a, c, e, -⟩ := h
  exact ⟨a, c, e⟩
theorem Tus.addr {w : World} {a : Option Addr} {n c : Nat} {l : List Tu} (h : Tus w (.slice a n c) l) (hn : 0 < l.length) : ∃ b o, a = some ⟨b, o, none⟩ := by
  obtain ⟨a', c', e, -, h2⟩ := h
  cases e
  obtain ⟨b, o, rfl, -⟩ := h2 hn
  exact ⟨b, o, rfl⟩
/-- An element's cells, and its template. -/
theorem Tus.elem {w : World} {b o n c : Nat} {l : List Tu} (h : Tus w (.slice (some ⟨b, o, none⟩) n c) l) {j : Nat} {x : Tu} (hx : l[j]? = some x) : ∃ a d, w.cell? ⟨b, o + j * 2, none⟩ = some (.bool x.c) ∧ w.cell? ⟨b, o + j * 2 + 1, none⟩ = some (.slice a x.l.length d) ∧ Ats w (.slice a x.l.length d) x.l := by
  obtain ⟨a', c', e, -, h2⟩ := h
  cases e
  have hj := (List.getElem?_eq_some_iff.1 hx).1
  obtain ⟨b', o', e, h3⟩ := h2 (by omega)
  cases e
  obtain ⟨h1, u, h4, h5⟩ := h3 j x hx
  obtain ⟨a, d, rfl⟩ := ats_parts h5
  exact ⟨a, d, h1, h4, h5⟩
section
variable {H : Type} {enc : TypeId × Value → H} {w : World} {base : Nat} {spare : Nat → Bool} {held : Bool}
theorem tus_open {fuel : Nat} {v : Value} {x : DataW H × List MemPlace} (h : DataW.trod enc Try.prog w base spare held fuel 23 [v] = some x)
    (hB : ∀ (elems sp : List (DataW H)), x.1 = .slice elems sp → ∀ (i : Nat) (d0 : DataW H) (es sp' : List (DataW H)), elems[i]? = some (DataW.agg [d0, .slice es sp']) → es.length ≤ 140737488351232 ∧ ∀ (i' : Nat) (d1 : DataW H) (es2 sp2 : List (DataW H)), es[i']? = some (DataW.agg [d1, .slice es2 sp2]) → es2.length ≤ 140737488351232) :
    ∃ l, (∀ x ∈ l, Tu.ok x) ∧ Tus w v l := by
  rcases open_slice_pairs Try.uTurns Try.underlying28 cellsTurn rfl rfl cellsBoolU cellsAttrsU h with ⟨hcs, hx⟩ | ⟨a, len, cap, m, n, V0, V1, D0, D1, P0, P1, hcs, _, hl, hm, hme, hx, hcell⟩
  · obtain rfl : v = .slice none 0 0 := by simpa using hcs
    exact ⟨[], by simp, none, 0, rfl, Nat.le_refl _, fun h => absurd h (Nat.lt_irrefl _)⟩
  · obtain rfl : v = .slice (some a) len cap := by simpa using hcs
    have hle : len ≤ m := by
      rw [hme]
      by_cases hs : spare a.block = true <;> simp [hs] <;> omega
    have each : ∀ i, i < len → ∃ x : Tu, x.ok ∧ w.cell? (a.add (i * 2)) = some (.bool x.c) ∧ ∃ u, w.cell? (a.add (i * 2 + 1)) = some u ∧ Ats w u x.l := by
      intro i hi
      obtain ⟨c0, c1, t0, t1⟩ := hcell i (by omega)
      obtain ⟨bz, hz, _⟩ := DataW.trod_bool uBoolU t0
      have hv : V0 i = .bool bz := by simpa using hz
      have hD : ∀ es sp, D1 i = .slice es sp → es.length ≤ 140737488351232 ∧ ∀ (i' : Nat) (d1 : DataW H) (es2 sp2 : List (DataW H)), es[i']? = some (DataW.agg [d1, .slice es2 sp2]) → es2.length ≤ 140737488351232 := fun es sp hd => hB _ _ (by rw [hx]) i (D0 i) es sp (by simp [hi, hd])
      obtain ⟨l, h1, h2, h3, h4⟩ := ats_openZ t1 140737488351232 fun elems sp hd i' d1 es2 sp2 he => (hD elems sp hd).2 i' d1 es2 sp2 he
      refine ⟨⟨bz, l⟩, ⟨h1, ?_, h2⟩, by rw [c0, hv], V1 i, c1, h3⟩
      rcases h4 with ⟨_, h⟩ | ⟨es, sp, hd, h⟩
      · show l.length ≤ _
        rw [h]
        exact Nat.zero_le _
      · have := (hD es sp hd).1
        show l.length ≤ _
        omega
    have hinh : Inhabited Tu := ⟨tu0⟩
    obtain ⟨f, hf⟩ := choose_lt each
    refine ⟨(List.range len).map f, ?_, some a, cap, by simp, by simpa using hl, fun hp => ?_⟩
    · intro x hx
      simp only [List.mem_map, List.mem_range] at hx
      obtain ⟨i, hi, rfl⟩ := hx
      exact (hf i hi).1
    · have hp' : 0 < len := by simpa using hp
      have h0 := (hf 0 hp').2.1
      rw [Nat.zero_mul, Addr.add_zero'] at h0
      have hs := spotless h0
      refine ⟨a.block, a.off, congrArg some hs, fun j x hx => ?_⟩
      have hj : j < len := by
        have := (List.getElem?_eq_some_iff.1 hx).1
        simpa using this
      have e : f j = x := by simpa [hj] using hx
      obtain ⟨_, c0, u, c1, h2⟩ := hf j hj
      rw [hs, Addr.add_lit, e] at c0
      rw [hs, Addr.add_lit] at c1
      rw [e] at h2
      exact ⟨c0, u, by rw [Nat.add_assoc]; exact c1, h2⟩
end
theorem wts_each {H : Type} : ∀ (ts : List TypeId) (ds : List (DataW H)) (j : Nat) (t : TypeId) (d : DataW H), ts[j]? = some t → ds[j]? = some d → ∀ z ∈ d.weights Try.prog t, z ∈ DataW.weightsEach Try.prog ts ds := by
  intro ts
  induction ts with
  | nil => intro ds j t d h; simp at h
  | cons t0 ts ih =>
    intro ds j t d h1 h2 z hz
    cases ds with
    | nil => simp at h2
    | cons d0 ds =>
      rw [DataW.weightsEach]
      cases j with
      | zero =>
        simp at h1 h2
        subst h1 h2
        exact List.mem_append.2 (.inl hz)
      | succ j => exact List.mem_append.2 (.inr (ih ds j t d (by simpa using h1) (by simpa using h2) z hz))
theorem wts_all {H : Type} : ∀ (e : TypeId) (l : List (DataW H)) (i : Nat) (d : DataW H), l[i]? = some d → ∀ z ∈ d.weights Try.prog e, z ∈ DataW.weightsAll Try.prog e l := by
  intro e l
  induction l with
  | nil => intro i d h; simp at h
  | cons d0 l ih =>
    intro i d h z hz
    rw [DataW.weightsAll]
    cases i with
    | zero =>
      simp at h
      subst h
      exact List.mem_append.2 (.inl hz)
    | succ i => exact List.mem_append.2 (.inr (ih i d (by simpa using h) z hz))
/-- What a template among turnings weighs, and a value in it. -/
theorem sized_innerU {H : Type} {ts : List TypeId} {ds : List (DataW H)} (h : (DataW.weightsEach Try.prog ts ds).all (· ≤ reachBytes) = true) {j : Nat} {elems sp : List (DataW H)} (ht : ts[j]? = some 23) (hd : ds[j]? = some (.slice elems sp)) {i : Nat} {d0 : DataW H} {es sp' : List (DataW H)} (he : elems[i]? = some (.agg [d0, .slice es sp'])) :
    es.length ≤ 140737488351232 ∧ ∀ (i' : Nat) (d1 : DataW H) (es2 sp2 : List (DataW H)), es[i']? = some (DataW.agg [d1, .slice es2 sp2]) → es2.length ≤ 140737488351232 := by
  have up : ∀ z, z ∈ DataW.weights Try.prog 22 (.slice es sp' : DataW H) → z ≤ reachBytes := fun z hz => by
    have m2 : z ∈ DataW.weights Try.prog 28 (.agg [d0, .slice es sp'] : DataW H) := by
      rw [DataW.weights, Try.underlying28]
      exact wts_each [4, 22] _ 1 22 (.slice es sp') rfl rfl _ hz
    have m3 := wts_all 28 elems i _ he _ m2
    have m4 : z ∈ DataW.weights Try.prog 23 (.slice elems sp : DataW H) := by
      rw [DataW.weights, Try.uTurns]
      simp only [List.mem_cons, List.mem_append]
      exact .inr (.inl m3)
    exact of_decide_eq_true (List.all_eq_true.1 h _ (wts_each ts ds j _ _ ht hd _ m4))
  constructor
  · have := up ((es.length + sp'.length) * Try.prog.bytesOf 38) (by rw [DataW.weights, Try.uAttrs]; simp)
    rw [show Try.prog.bytesOf 38 = 32 by kernel_rfl] at this
    simp only [reachBytes] at this
    omega
  · intro i' d1 es2 sp2 he2
    have m1 : (es2.length + sp2.length) * Try.prog.bytesOf 5 ∈ DataW.weights Try.prog 33 (.slice es2 sp2 : DataW H) := by
      rw [DataW.weights, Try.uBytes]
      simp
    have m2 : (es2.length + sp2.length) * Try.prog.bytesOf 5 ∈ DataW.weights Try.prog 38 (.agg [d1, .slice es2 sp2] : DataW H) := by
      rw [DataW.weights, Try.underlying38]
      exact wts_each [3, 33] _ 1 33 (.slice es2 sp2) rfl rfl _ m1
    have m3 := wts_all 38 es i' _ he2 _ m2
    have := up _ (by rw [DataW.weights, Try.uAttrs]; simp only [List.mem_cons, List.mem_append]; exact .inr (.inl m3))
    rw [show Try.prog.bytesOf 5 = 1 by kernel_rfl, Nat.mul_one] at this
    simp only [reachBytes] at this
    omega
end Go.Proofs.Ytepaapiflkkghab
