/- Slices of slices of bytes, and slices of digests, among the arguments: what they hold, out of their readings. -/
import Derived.Test.YtmpniingbioggaaDoorTSl
import Derived.Test.YtmpniingbioggaaDoorHOpen
import Derived.Test.YtmpniingbioggaaDoorHLaid
import Derived.Test.YtmpniingbioggaaDoorTFloor
import Derived.SizedLaws
namespace Go.Proofs.YtmpniingbioggaaDoor
open Go.ChangeShapes Go.WideShapes Go.ChangeAt Go.RowKit Go.Deep
section
variable {H : Type} {enc : TypeId × Value → H} {w : World} {base : Nat} {spare : Nat → Bool} {held : Bool}
theorem len_of_trod_ {fuel n c : Nat} {a : Option Addr} {x : DataW H × List MemPlace} (h : DataW.trod enc Tryd.prog w base spare held fuel 23 [.slice a n c] = some x) (B : Nat) (hB : ∀ es sp, x.1 = .slice es sp → es.length ≤ B) : n ≤ B := by
  rcases len_of_trod h with ⟨_, h⟩ | ⟨es, sp, hd, h⟩
  · omega
  · have := hB es sp hd; omega
theorem bss_open {fuel : Nat} {u : Value} {x : DataW H × List MemPlace} (h : DataW.trod enc Tryd.prog w base spare held fuel 22 [u] = some x) (B : Nat)
    (hB : ∀ (elems sp : List (DataW H)), x.1 = .slice elems sp → ∀ (i : Nat) (es sp' : List (DataW H)), elems[i]? = some (DataW.slice es sp') → es.length ≤ B) :
    ∃ ls, (∀ p ∈ ls, (∀ y ∈ p, y < 256) ∧ p.length ≤ B) ∧ Sb w u ls ∧ ((x.1 = .nil ∧ ls = []) ∨ ∃ es sp, x.1 = .slice es sp ∧ es.length = ls.length) := by
  rcases open_slice1 uBss Tryd.cellsBytes h with ⟨hcs, hx⟩ | ⟨a, len, cap, m, n, V, D, Pl, hcs, _, hl, hm, hmm, hx, hcell⟩
  · obtain rfl : u = .slice none 0 0 := by simpa using hcs
    exact ⟨[], (fun p hp => by cases hp), ⟨none, 0, rfl, Nat.le_refl _, fun h => absurd h (Nat.lt_irrefl _)⟩, .inl ⟨by rw [hx], rfl⟩⟩
  · obtain rfl : u = .slice (some a) len cap := by simpa using hcs
    have hle : len ≤ m := by
      rw [hmm]
      split <;> omega
    have each : ∀ i, i < len → ∃ xs : List Nat, lowB xs ∧ By w (V i) xs ∧ xs.length ≤ B := by
      intro i hi
      obtain ⟨_, t⟩ := hcell i (by omega)
      obtain ⟨xs, h1, h2, _⟩ := by_of_trod t
      refine ⟨xs, h1, h2, ?_⟩
      obtain ⟨va, vc, e, _⟩ := id h2
      rw [e] at t
      refine len_of_trod_ t B fun es sp hd => ?_
      refine hB _ _ (by rw [hx]) i es sp ?_
      simp only at hd
      simp [hi, hd]
    obtain ⟨f, hf⟩ := choose_lt each
    have hfl : ((List.range len).map f).length = len := by simp
    refine ⟨(List.range len).map f, ?_, ⟨some a, cap, by rw [hfl], by rw [hfl]; exact hl, fun hp => ?_⟩, .inr ⟨_, _, by rw [hx], by simp⟩⟩
    · intro p hp
      obtain ⟨i, hi, rfl⟩ := List.mem_map.1 hp
      exact ⟨(hf i (List.mem_range.1 hi)).1, (hf i (List.mem_range.1 hi)).2.2⟩
    · rw [hfl] at hp
      obtain ⟨c0, _⟩ := hcell 0 (by omega)
      rw [Addr.add_zero'] at c0
      have hs := spotless c0
      refine ⟨a.block, a.off, congrArg some hs, fun j hj => ?_⟩
      rw [hfl] at hj
      obtain ⟨cj, _⟩ := hcell j (by omega)
      rw [hs, Addr.add_lit] at cj
      refine ⟨V j, cj, ?_⟩
      have e : ((List.range len).map f).getD j [] = f j := by simp [List.getD_eq_getElem?_getD, hj]
      rw [e]
      exact (hf j hj).2.1
theorem dss_open {fuel : Nat} {u : Value} {x : DataW H × List MemPlace} (h : DataW.trod enc Tryd.prog w base spare held fuel 25 [u] = some x) :
    ∃ ds, Dlow ds ∧ Ds w u ds ∧ ((x.1 = .nil ∧ ds = []) ∨ ∃ es sp, x.1 = .slice es sp ∧ es.length = ds.length) := by
  rcases open_slice uDss h with ⟨hcs, hx⟩ | ⟨a, len, cap, m, n, D, Pl, hcs, _, hl, hm, hmm, hx, hcell⟩
  · obtain rfl : u = .slice none 0 0 := by simpa using hcs
    exact ⟨[], (fun p hp => by cases hp), ⟨none, 0, rfl, Nat.le_refl _, fun h => absurd h (Nat.lt_irrefl _)⟩, .inl ⟨by rw [hx], rfl⟩⟩
  · obtain rfl : u = .slice (some a) len cap := by simpa using hcs
    have hle : len ≤ m := by
      rw [hmm]
      split <;> omega
    rw [cellsD32] at hcell
    have each : ∀ i, i < len → ∃ xs : List Nat, (xs.length = 32 ∧ ∀ y ∈ xs, y < 256) ∧ ∀ r, r < 32 → w.cell? (a.add (i * 32 + r)) = some (b8 (xs.getD r 0)) := by
      intro i hi
      obtain ⟨cs', hc, t⟩ := hcell i (by omega)
      obtain ⟨zs, h1, h2, _, h4⟩ := trod_arr u_d32 Tryd.uU8 Tryd.cellsU8 cellsD32 t
      obtain ⟨_, hcl, hcc⟩ := World.cells?_some hc
      refine ⟨zs.map Int.toNat, ⟨by simp [h1], ?_⟩, fun r hr => ?_⟩
      · intro y hy
        obtain ⟨z, hz, rfl⟩ := List.mem_map.1 hy
        have := byte_of_wf (h4 z hz)
        omega
      · have hc1 := hcc r hr
        rw [h2] at hc1
        have hrz : r < zs.length := by omega
        have e : (zs.map Int.toNat).getD r 0 = (zs.getD r 0).toNat := by simp [List.getD_eq_getElem?_getD, hrz]
        have hb := byte_of_wf (h4 (zs.getD r 0) (by rw [List.getD_eq_getElem?_getD, List.getElem?_eq_getElem hrz]; simp))
        have ea : (a.add (i * 32)).add r = a.add (i * 32 + r) := Addr.add_add _ _ _
        rw [ea] at hc1
        rw [hc1, e]
        simp only [b8]
        rw [show (((zs.getD r 0).toNat : Nat) : Int) = zs.getD r 0 by omega]
        simp [List.getD_eq_getElem?_getD, hrz]
    obtain ⟨f, hf⟩ := choose_lt each
    have hfl : ((List.range len).map f).length = len := by simp
    refine ⟨(List.range len).map f, ?_, ⟨some a, cap, by rw [hfl], by rw [hfl]; exact hl, fun hp => ?_⟩, .inr ⟨_, _, by rw [hx], by simp⟩⟩
    · intro p hp
      obtain ⟨i, hi, rfl⟩ := List.mem_map.1 hp
      exact (hf i (List.mem_range.1 hi)).1
    · rw [hfl] at hp
      have c0 := (hf 0 hp).2 0 (by decide)
      rw [Nat.zero_mul, Nat.add_zero, Addr.add_zero'] at c0
      have hs := spotless c0
      refine ⟨a.block, a.off, congrArg some hs, fun j hj r v hv => ?_⟩
      rw [hfl] at hj
      have e : ((List.range len).map f).getD j [] = f j := by simp [List.getD_eq_getElem?_getD, hj]
      rw [e] at hv
      have hr : r < 32 := by
        have := (List.getElem?_eq_some_iff.1 hv).1
        rw [List.length_map, (hf j hj).1.1] at this
        exact this
      have cj := (hf j hj).2 r hr
      rw [hs, Addr.add_lit] at cj
      rw [Nat.add_assoc, cj]
      have hrl : r < (f j).length := by rw [(hf j hj).1.1]; exact hr
      simp [hrl] at hv
      rw [← hv]
      simp [List.getD_eq_getElem?_getD, hrl]
end
/-- What a slice within a slice weighs. -/
theorem sized_inner {H : Type} {ts : List TypeId} {ds : List (DataW H)} (h : (DataW.weightsEach Tryd.prog ts ds).all (· ≤ reachBytes) = true) {j : Nat} {elems sp : List (DataW H)} (ht : ts[j]? = some 22) (hd : ds[j]? = some (.slice elems sp)) {i : Nat} {es sp' : List (DataW H)} (he : elems[i]? = some (.slice es sp')) : es.length ≤ reachBytes := by
  have hw : ∀ (ts : List TypeId) (ds : List (DataW H)) (j : Nat) (t : TypeId) (d : DataW H), ts[j]? = some t → ds[j]? = some d → ∀ z ∈ d.weights Tryd.prog t, z ∈ DataW.weightsEach Tryd.prog ts ds := by
    intro ts
    induction ts with
    | nil => intro ds j t d h; simp at h
    | cons t0 ts ih =>
      intro ds j t d h1 h2 z hz
      cases ds with
      | nil => simp at h2
      | cons d0 ds =>
        rw [DataW.weightsEach]
        cases j with
        | zero =>
          simp at h1 h2
          subst h1 h2
          exact List.mem_append.2 (.inl hz)
        | succ j => exact List.mem_append.2 (.inr (ih ds j t d (by simpa using h1) (by simpa using h2) z hz))
  have ha : ∀ (e : TypeId) (l : List (DataW H)) (i : Nat) (d : DataW H), l[i]? = some d → ∀ z ∈ d.weights Tryd.prog e, z ∈ DataW.weightsAll Tryd.prog e l := by
    intro e l
    induction l with
    | nil => intro i d h; simp at h
    | cons d0 l ih =>
      intro i d h z hz
      rw [DataW.weightsAll]
      cases i with
      | zero =>
        simp at h
        subst h
        exact List.mem_append.2 (.inl hz)
      | succ i => exact List.mem_append.2 (.inr (ih i d (by simpa using h) z hz))
  have m1 : (es.length + sp'.length) * Tryd.prog.bytesOf 5 ∈ DataW.weights Tryd.prog 23 (.slice es sp' : DataW H) := by
    rw [DataW.weights, Tryd.uBytes]
    simp
  have m2 := ha 23 elems i _ he _ m1
  have m3 : (es.length + sp'.length) * Tryd.prog.bytesOf 5 ∈ DataW.weights Tryd.prog 22 (.slice elems sp : DataW H) := by
    rw [DataW.weights, uBss]
    simp only [List.mem_cons, List.mem_append]
    exact .inr (.inl m2)
  have m4 := hw ts ds j _ _ ht hd _ m3
  have := List.all_eq_true.1 h _ m4
  rw [Tryd.bytesU8, Nat.mul_one] at this
  have := of_decide_eq_true this
  omega
theorem bulk_mem {H : Type} {l : List (DataW H)} {d : DataW H} : ∀ {i : Nat}, l[i]? = some d → Rows.uptoBulk d ≤ Rows.uptoBulkAll l := by
  induction l with
  | nil => intro i h; simp at h
  | cons x r ih =>
    intro i h
    rw [Rows.uptoBulkAll]
    cases i with
    | zero =>
      simp at h
      subst h
      omega
    | succ i =>
      have := ih (i := i) (by simpa using h)
      omega
theorem bulk_inner {H : Type} {elems sp es sp' : List (DataW H)} {i : Nat} (he : elems[i]? = some (.slice es sp')) : es.length ≤ Rows.uptoBulk (.slice elems sp) := by
  have h1 := bulk_mem he
  have h2 := bulk_le es sp'
  rw [show Rows.uptoBulk (.slice elems sp) = Rows.uptoBulkAll elems + Rows.uptoBulkAll sp + 1 by simp [Rows.uptoBulk]]
  omega
theorem uInt_ : Tryd.prog.underlying 3 = some (.int .i64) := by kernel_rfl
theorem cellsBss : Tryd.prog.cellsOf 22 = 1 := by kernel_rfl
theorem bytesBytes : Tryd.prog.bytesOf 23 = 24 := by kernel_rfl
theorem bytesD32 : Tryd.prog.bytesOf 24 = 32 := by kernel_rfl
end Go.Proofs.YtmpniingbioggaaDoor
