/- Attributes: what a slice of them holds, out of its reading, with its values' lengths. -/
import Derived.Test.YtepaapiflkkghaaQBKToAtD
import Derived.SizedLaws
namespace Go.Proofs.Ytepaapiflkkghaa
open Go.ChangeShapes Go.WideShapes Go.ChangeAt Go.RowKit Go.Deep
theorem len_of_trodA0 {H : Type} {enc : TypeId × Value → H} {w : World} {base : Nat} {spare : Nat → Bool} {held : Bool} {fuel n c : Nat} {a : Option Addr} {x : DataW H × List MemPlace} (h : DataW.trod enc Try.prog w base spare held fuel 42 [.slice a n c] = some x) : (x.1 = .nil ∧ n = 0) ∨ ∃ es sp, x.1 = .slice es sp ∧ es.length = n := by
  rcases open_ints Try.uBytes Try.uU8 Try.cellsU8 h with ⟨hcs, hx⟩ | ⟨a', len, cap, zs, hcs, _, hl, hm, hz, hx, hcell, hwz⟩
  · left
    simp only [List.cons.injEq, Value.slice.injEq, and_true] at hcs
    exact ⟨by rw [hx], hcs.2.1⟩
  · right
    simp only [List.cons.injEq, Value.slice.injEq, and_true] at hcs
    obtain ⟨_, rfl, rfl⟩ := hcs
    refine ⟨_, _, by rw [hx], ?_⟩
    simp only [lits, List.length_map, List.length_take, hz]
    split <;> omega
section
variable {H : Type} {enc : TypeId × Value → H} {w : World} {base : Nat} {spare : Nat → Bool} {held : Bool}
theorem len_of_trodA {fuel n c : Nat} {a : Option Addr} {x : DataW H × List MemPlace} (h : DataW.trod enc Try.prog w base spare held fuel 42 [.slice a n c] = some x) (B : Nat) (hB : ∀ es sp, x.1 = .slice es sp → es.length ≤ B) : n ≤ B := by
  rcases len_of_trodA0 h with ⟨_, h⟩ | ⟨es, sp, hd, h⟩
  · omega
  · have := hB es sp hd; omega
theorem ats_openZ {fuel : Nat} {v : Value} {x : DataW H × List MemPlace} (h : DataW.trod enc Try.prog w base spare held fuel 22 [v] = some x) (B : Nat)
    (hB : ∀ (elems sp : List (DataW H)), x.1 = .slice elems sp → ∀ (i : Nat) (d0 : DataW H) (es sp' : List (DataW H)), elems[i]? = some (DataW.agg [d0, .slice es sp']) → es.length ≤ B) :
    ∃ l, (∀ x ∈ l, x.ok) ∧ (∀ x ∈ l, x.v.length ≤ B) ∧ Ats w v l ∧ ((x.1 = .nil ∧ l = []) ∨ ∃ es sp, x.1 = .slice es sp ∧ es.length = l.length) := by
  rcases open_slice_pairs Try.uAttrs Try.underlying64 cellsAttr rfl rfl cellsIntA cellsBytesA h with ⟨hcs, hx⟩ | ⟨a, len, cap, m, n, V0, V1, D0, D1, P0, P1, hcs, _, hl, hm, hme, hx, hcell⟩
  · obtain rfl : v = .slice none 0 0 := by simpa using hcs
    exact ⟨[], by simp, by simp, Ats.nil w, .inl ⟨by rw [hx], rfl⟩⟩
  · obtain rfl : v = .slice (some a) len cap := by simpa using hcs
    have hle : len ≤ m := by
      rw [hme]
      by_cases hs : spare a.block = true <;> simp [hs] <;> omega
    have each : ∀ i, i < len → ∃ x : Ar, x.ok ∧ x.v.length ≤ B ∧ w.cell? (a.add (i * 2)) = some (.int .i64 x.k) ∧ ∃ u, w.cell? (a.add (i * 2 + 1)) = some u ∧ By w u x.v := by
      intro i hi
      obtain ⟨c0, c1, t0, t1⟩ := hcell i (by omega)
      obtain ⟨z, hz, _, hw⟩ := DataW.trod_int Try.underlying3 t0
      obtain ⟨xs, h1, h2, _⟩ := by_of_trod t1
      have hv : V0 i = .int .i64 z := by simpa using hz
      refine ⟨⟨z, xs⟩, ⟨int_of_wf hw, h1⟩, ?_, ?_, V1 i, c1, h2⟩
      · obtain ⟨va, vc, e, _⟩ := id h2
        rw [e] at t1
        refine len_of_trodA t1 B fun es sp hd => ?_
        refine hB _ _ (by rw [hx]) i (D0 i) es sp ?_
        simp only at hd
        simp [hi, hd]
      · rw [c0, hv]
    have hinh : Inhabited Ar := ⟨ar0⟩
    obtain ⟨f, hf⟩ := choose_lt each
    refine ⟨(List.range len).map f, ?_, ?_, ⟨some a, cap, by simp, by simpa using hl, (fun h => by cases h), fun hp => ?_⟩, ?_⟩
    · intro x hx
      simp only [List.mem_map, List.mem_range] at hx
      obtain ⟨i, hi, rfl⟩ := hx
      exact (hf i hi).1
    · intro x hx
      simp only [List.mem_map, List.mem_range] at hx
      obtain ⟨i, hi, rfl⟩ := hx
      exact (hf i hi).2.1
    · have hp' : 0 < len := by simpa using hp
      have h0 := (hf 0 hp').2.2.1
      rw [Nat.zero_mul, Addr.add_zero'] at h0
      have hs := spotless h0
      refine ⟨a.block, a.off, congrArg some hs, fun j x hx => ?_⟩
      have hj : j < len := by
        have := (List.getElem?_eq_some_iff.1 hx).1
        simpa using this
      have e : f j = x := by simpa [hj] using hx
      obtain ⟨_, _, c0, u, c1, h2⟩ := hf j hj
      rw [hs, Addr.add_lit, e] at c0
      rw [hs, Addr.add_lit] at c1
      rw [e] at h2
      exact ⟨c0, u, by rw [Nat.add_assoc]; exact c1, h2⟩
    · exact .inr ⟨_, _, by rw [hx], by simp⟩
end
/-- What a value of an attribute weighs. -/
theorem sized_innerA {H : Type} {ts : List TypeId} {ds : List (DataW H)} (h : (DataW.weightsEach Try.prog ts ds).all (· ≤ reachBytes) = true) {j : Nat} {elems sp : List (DataW H)} (ht : ts[j]? = some 22) (hd : ds[j]? = some (.slice elems sp)) {i : Nat} {d0 : DataW H} {es sp' : List (DataW H)} (he : elems[i]? = some (.agg [d0, .slice es sp'])) : es.length ≤ reachBytes := by
  have hw : ∀ (ts : List TypeId) (ds : List (DataW H)) (j : Nat) (t : TypeId) (d : DataW H), ts[j]? = some t → ds[j]? = some d → ∀ z ∈ d.weights Try.prog t, z ∈ DataW.weightsEach Try.prog ts ds := by
    intro ts
    induction ts with
    | nil => intro ds j t d h; simp at h
    | cons t0 ts ih =>
      intro ds j t d h1 h2 z hz
      cases ds with
      | nil => simp at h2
      | cons d0 ds =>
        rw [DataW.weightsEach]
        cases j with
        | zero =>
          simp at h1 h2
          subst h1 h2
          exact List.mem_append.2 (.inl hz)
        | succ j => exact List.mem_append.2 (.inr (ih ds j t d (by simpa using h1) (by simpa using h2) z hz))
  have ha : ∀ (e : TypeId) (l : List (DataW H)) (i : Nat) (d : DataW H), l[i]? = some d → ∀ z ∈ d.weights Try.prog e, z ∈ DataW.weightsAll Try.prog e l := by
    intro e l
    induction l with
    | nil => intro i d h; simp at h
    | cons d0 l ih =>
      intro i d h z hz
      rw [DataW.weightsAll]
      cases i with
      | zero =>
        simp at h
        subst h
        exact List.mem_append.2 (.inl hz)
      | succ i => exact List.mem_append.2 (.inr (ih i d (by simpa using h) z hz))
  have m1 : (es.length + sp'.length) * Try.prog.bytesOf 5 ∈ DataW.weights Try.prog 42 (.slice es sp' : DataW H) := by
    rw [DataW.weights, Try.uBytes]
    simp
  have m2 : (es.length + sp'.length) * Try.prog.bytesOf 5 ∈ DataW.weights Try.prog 64 (.agg [d0, .slice es sp'] : DataW H) := by
    rw [DataW.weights, Try.underlying64]
    exact hw [3, 42] _ 1 42 (.slice es sp') rfl rfl _ m1
  have m3 := ha 64 elems i _ he _ m2
  have m4 : (es.length + sp'.length) * Try.prog.bytesOf 5 ∈ DataW.weights Try.prog 22 (.slice elems sp : DataW H) := by
    rw [DataW.weights, Try.uAttrs]
    simp only [List.mem_cons, List.mem_append]
    exact .inr (.inl m3)
  have m5 := hw ts ds j _ _ ht hd _ m4
  have := List.all_eq_true.1 h _ m5
  rw [show Try.prog.bytesOf 5 = 1 by kernel_rfl, Nat.mul_one] at this
  have := of_decide_eq_true this
  omega
end Go.Proofs.Ytepaapiflkkghaa
