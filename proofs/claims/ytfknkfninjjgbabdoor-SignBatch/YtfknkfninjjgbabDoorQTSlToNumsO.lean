/- Texts that were joined: TSl, TOpen, NumsO. -/
import Derived.Test.YtfknkfninjjgbabDoorQHLaidToSDig
import Derived.Test.YtfknkfninjjgbabDoorQUpS
import Derived.Great.BuildSlice
import Derived.Test.YtfknkfninjjgbabDoorQArrToHOpen
import Derived.SizedLaws
import Derived.Test.YtfknkfninjjgbabDoorQYoToSgAlone
import Derived.Test.YtfknkfninjjgbabDoorQOwn
/- Slices of digests, and slices of slices of bytes: what one holds; rows of digests that a call made. -/
namespace Go.Proofs.YtfknkfninjjgbabDoor
open Go.RowKit
set_option linter.unusedSimpArgs false
theorem uDss : Tryd.prog.underlying 41 = some (.slice 22) := by kernel_rfl
theorem uBss : Tryd.prog.underlying 42 = some (.slice 23) := by kernel_rfl
def Dlow (ds : List (List Nat)) : Prop := ∀ d ∈ ds, d.length = 32 ∧ ∀ x ∈ d, x < 256
def Dok (ds : List (List Nat)) : Prop := ∀ d ∈ ds, d.length = 32
theorem Dok.at {ds : List (List Nat)} (h : Dok ds) (j : Nat) (hj : j < ds.length) : (ds.getD j []).length = 32 := by
  rw [List.getD_eq_getElem?_getD, List.getElem?_eq_getElem hj]
  exact h _ (List.getElem_mem hj)
/-- The slice v holds the digests ds. -/
def Ds (w : World) (v : Value) (ds : List (List Nat)) : Prop :=
  ∃ a c, v = .slice a ds.length c ∧ ds.length ≤ c ∧ (0 < ds.length → ∃ b o, a = some ⟨b, o, none⟩ ∧ ∀ j, j < ds.length → w.rangeAt b (o + j * 32) ((ds.getD j []).map b8))
theorem Ds.nil (w : World) : Ds w (.slice none 0 0) [] := ⟨none, 0, rfl, Nat.le_refl _, fun h => absurd h (Nat.lt_irrefl _)⟩
theorem range_up {W w1 : World} {B b o : Nat} {vs : List Value} (h : W.rangeAt b o vs) (hb : Below B W w1) (hB : W.heap.size ≤ B) : w1.rangeAt b o vs :=
  fun j v hj => (hb.cell (p := ⟨b, o + j, none⟩) (Nat.lt_of_lt_of_le (lt_of_cellB (h j v hj)) hB)).trans (h j v hj)
theorem Ds.up {W w1 : World} {v : Value} {ds : List (List Nat)} {B : Nat} (h : Ds W v ds) (hb : Below B W w1) (hB : W.heap.size ≤ B) : Ds w1 v ds := by
  obtain ⟨a, c, e, hc, h3⟩ := h
  refine ⟨a, c, e, hc, fun hp => ?_⟩
  obtain ⟨b, o, e2, hr⟩ := h3 hp
  exact ⟨b, o, e2, fun j hj => range_up (hr j hj) hb hB⟩
/-- The slice v holds slices, and these the bytes ls. -/
def Sb (w : World) (v : Value) (ls : List (List Nat)) : Prop :=
  ∃ a c, v = .slice a ls.length c ∧ ls.length ≤ c ∧ (0 < ls.length → ∃ b o, a = some ⟨b, o, none⟩ ∧ ∀ j, j < ls.length → ∃ u, w.cell? ⟨b, o + j, none⟩ = some u ∧ By w u (ls.getD j []))
theorem Sb.up {W w1 : World} {v : Value} {ls : List (List Nat)} {B : Nat} (h : Sb W v ls) (hb : Below B W w1) (hB : W.heap.size ≤ B) : Sb w1 v ls := by
  obtain ⟨a, c, e, hc, h3⟩ := h
  refine ⟨a, c, e, hc, fun hp => ?_⟩
  obtain ⟨b, o, e2, hr⟩ := h3 hp
  refine ⟨b, o, e2, fun j hj => ?_⟩
  obtain ⟨u, hu, hy⟩ := hr j hj
  exact ⟨u, (hb.cell (p := ⟨b, o + j, none⟩) (Nat.lt_of_lt_of_le (lt_of_cellB hu) hB)).trans hu, hy.up hb hB⟩
/-- The slice v is a row of digests that the call made. -/
def Od (w : World) (B : Nat) (v : Value) (ds : List (List Nat)) : Prop := Dok ds ∧ w.ownsRow B 22 32 v ds.length (ds.flatten.map b8)
theorem Od.nil (w : World) (B : Nat) : Od w B (.slice none 0 0) [] := ⟨(fun d h => by cases h), World.ownsRow_nil _ _ _ _⟩
theorem Od.up {W w1 : World} {B : Nat} {v : Value} {xs : List (List Nat)} (h : Od W B v xs) (hb : Below W.heap.size W w1) : Od w1 B v xs := by
  refine ⟨h.1, h.2.1, ?_⟩
  rcases h.2.2 with h' | ⟨g, cap, cur, e, hB, hg, rest⟩
  · exact .inl h'
  · exact .inr ⟨g, cap, cur, e, hB, (hb.block g (Array.getElem?_eq_some_iff.1 hg).1).trans hg, rest⟩
theorem flat_at : ∀ {ds : List (List Nat)} (_ : Dok ds) (j r : Nat), r < 32 → (ds.flatten)[j * 32 + r]? = (ds.getD j [])[r]?
  | [], _, j, r, _ => by simp
  | d :: ds, h, 0, r, hr => by
    have hd := h d (by simp)
    rw [List.flatten_cons, Nat.zero_mul, Nat.zero_add, List.getElem?_append_left (by omega)]
    simp
  | d :: ds, h, j + 1, r, hr => by
    have hd := h d (by simp)
    have := flat_at (ds := ds) (fun x hx => h x (by simp [hx])) j r hr
    rw [List.flatten_cons, List.getElem?_append_right (by rw [hd]; omega), hd, show (j + 1) * 32 + r - 32 = j * 32 + r by omega, this]
    simp
theorem Od.form {w : World} {B : Nat} {v : Value} {ds : List (List Nat)} (h : Od w B v ds) (hp : 0 < ds.length) : ∃ g c, v = .slice (some ⟨g, 0, none⟩) ds.length c ∧ B ≤ g ∧ ds.length ≤ c ∧ ∀ j, j < ds.length → w.rangeAt g (j * 32) ((ds.getD j []).map b8) := by
  rcases h.2.2 with ⟨e, e2⟩ | ⟨g, cap, cur, e, hB, hg, hn, rest⟩
  · omega
  · refine ⟨g, cap, e, hB, hn, fun j hj r u hu => ?_⟩
    have h2 : w.ownsRow B 22 32 (.slice (some ⟨g, 0, none⟩) ds.length cap) ds.length (ds.flatten.map b8) := by rw [← e]; exact h.2
    have hr : r < 32 := by
      have := (List.getElem?_eq_some_iff.1 hu).1
      rw [List.length_map, h.1.at j hj] at this
      exact this
    rw [h2.cellAt (j * 32 + r) (by omega)]
    rw [List.getElem?_map, flat_at h.1 j r hr, ← List.getElem?_map]
    exact hu
theorem Od.ds {w : World} {B : Nat} {v : Value} {ds : List (List Nat)} (h : Od w B v ds) : Ds w v ds := by
  rcases Nat.eq_zero_or_pos ds.length with h0 | h0
  · rcases h.2.2 with ⟨e, e2⟩ | ⟨g, cap, cur, e, _, _, hn, _⟩
    · exact ⟨none, 0, by rw [e, h0], by omega, fun hp => by omega⟩
    · exact ⟨_, cap, e, hn, fun hp => by omega⟩
  · obtain ⟨g, c, e, _, hn, hc⟩ := h.form h0
    exact ⟨_, c, e, hn, fun _ => ⟨g, 0, rfl, fun j hj => by rw [Nat.zero_add]; exact hc j hj⟩⟩
/-- A row of digests stays when another row, in a block ahead of it, is appended to. -/
theorem Od.grown {w w' : World} {B : Nat} {v : Value} {ds : List (List Nat)} {row : Option Nat} (h : Od w B v ds) (hg : w.grownBy w' row) (hr : ∀ g, row = some g → g < B) : Od w' B v ds := by
  refine ⟨h.1, h.2.1, ?_⟩
  rcases h.2.2 with h' | ⟨g, cap, cur, e, hB, hgg, rest⟩
  · exact .inl h'
  · exact .inr ⟨g, cap, cur, e, hB, (hg.block g (Array.getElem?_eq_some_iff.1 hgg).1 (fun e => by have := hr g e.symm; omega)).trans hgg, rest⟩
theorem Od.low {w : World} {B : Nat} {v : Value} {ds : List (List Nat)} (h : Od w B v ds) : ∀ g, v.ownBlock = some g → g < w.heap.size := fun g hg => (World.ownsRow.lt h.2 g hg).2
def MP.d1 (y : List Nat) : MP := ⟨fun v w => ∃ g, v = .slice (some ⟨g, 0, none⟩) 1 1 ∧ w.rangeAt g 0 (y.map b8), fun ⟨g, e, h⟩ hk => ⟨g, e, range_up h hk (Nat.le_refl _)⟩⟩
end Go.Proofs.YtfknkfninjjgbabDoor

/- Slices of slices of bytes, and slices of digests, among the arguments: what they hold, out of their readings. -/
namespace Go.Proofs.YtfknkfninjjgbabDoor
open Go.ChangeShapes Go.WideShapes Go.ChangeAt Go.RowKit Go.Deep
section
variable {H : Type} {enc : TypeId × Value → H} {w : World} {base : Nat} {spare : Nat → Bool} {held : Bool}
theorem len_of_trod_ {fuel n c : Nat} {a : Option Addr} {x : DataW H × List MemPlace} (h : DataW.trod enc Tryd.prog w base spare held fuel 23 [.slice a n c] = some x) (B : Nat) (hB : ∀ es sp, x.1 = .slice es sp → es.length ≤ B) : n ≤ B := by
  rcases len_of_trod h with ⟨_, h⟩ | ⟨es, sp, hd, h⟩
  · omega
  · have := hB es sp hd; omega
theorem bss_open {fuel : Nat} {u : Value} {x : DataW H × List MemPlace} (h : DataW.trod enc Tryd.prog w base spare held fuel 42 [u] = some x) (B : Nat)
    (hB : ∀ (elems sp : List (DataW H)), x.1 = .slice elems sp → ∀ (i : Nat) (es sp' : List (DataW H)), elems[i]? = some (DataW.slice es sp') → es.length ≤ B) :
    ∃ ls, (∀ p ∈ ls, (∀ y ∈ p, y < 256) ∧ p.length ≤ B) ∧ Sb w u ls ∧ ((x.1 = .nil ∧ ls = []) ∨ ∃ es sp, x.1 = .slice es sp ∧ es.length = ls.length) := by
  rcases open_slice1 uBss Tryd.cellsBytes h with ⟨hcs, hx⟩ | ⟨a, len, cap, m, n, V, D, Pl, hcs, _, hl, hm, hmm, hx, hcell⟩
  · obtain rfl : u = .slice none 0 0 := by simpa using hcs
    exact ⟨[], (fun p hp => by cases hp), ⟨none, 0, rfl, Nat.le_refl _, fun h => absurd h (Nat.lt_irrefl _)⟩, .inl ⟨by rw [hx], rfl⟩⟩
  · obtain rfl : u = .slice (some a) len cap := by simpa using hcs
    have hle : len ≤ m := by
      rw [hmm]
      split <;> omega
    have each : ∀ i, i < len → ∃ xs : List Nat, lowB xs ∧ By w (V i) xs ∧ xs.length ≤ B := by
      intro i hi
      obtain ⟨_, t⟩ := hcell i (by omega)
      obtain ⟨xs, h1, h2, _⟩ := by_of_trod t
      refine ⟨xs, h1, h2, ?_⟩
      obtain ⟨va, vc, e, _⟩ := id h2
      rw [e] at t
      refine len_of_trod_ t B fun es sp hd => ?_
      refine hB _ _ (by rw [hx]) i es sp ?_
      simp only at hd
      simp [hi, hd]
    obtain ⟨f, hf⟩ := choose_lt each
    have hfl : ((List.range len).map f).length = len := by simp
    refine ⟨(List.range len).map f, ?_, ⟨some a, cap, by rw [hfl], by rw [hfl]; exact hl, fun hp => ?_⟩, .inr ⟨_, _, by rw [hx], by simp⟩⟩
    · intro p hp
      obtain ⟨i, hi, rfl⟩ := List.mem_map.1 hp
      exact ⟨(hf i (List.mem_range.1 hi)).1, (hf i (List.mem_range.1 hi)).2.2⟩
    · rw [hfl] at hp
      obtain ⟨c0, _⟩ := hcell 0 (by omega)
      rw [Addr.add_zero'] at c0
      have hs := spotless c0
      refine ⟨a.block, a.off, congrArg some hs, fun j hj => ?_⟩
      rw [hfl] at hj
      obtain ⟨cj, _⟩ := hcell j (by omega)
      rw [hs, Addr.add_lit] at cj
      refine ⟨V j, cj, ?_⟩
      have e : ((List.range len).map f).getD j [] = f j := by simp [List.getD_eq_getElem?_getD, hj]
      rw [e]
      exact (hf j hj).2.1
theorem dss_open {fuel : Nat} {u : Value} {x : DataW H × List MemPlace} (h : DataW.trod enc Tryd.prog w base spare held fuel 41 [u] = some x) :
    ∃ ds, Dlow ds ∧ Ds w u ds ∧ ((x.1 = .nil ∧ ds = []) ∨ ∃ es sp, x.1 = .slice es sp ∧ es.length = ds.length) := by
  rcases open_slice uDss h with ⟨hcs, hx⟩ | ⟨a, len, cap, m, n, D, Pl, hcs, _, hl, hm, hmm, hx, hcell⟩
  · obtain rfl : u = .slice none 0 0 := by simpa using hcs
    exact ⟨[], (fun p hp => by cases hp), ⟨none, 0, rfl, Nat.le_refl _, fun h => absurd h (Nat.lt_irrefl _)⟩, .inl ⟨by rw [hx], rfl⟩⟩
  · obtain rfl : u = .slice (some a) len cap := by simpa using hcs
    have hle : len ≤ m := by
      rw [hmm]
      split <;> omega
    rw [cellsD32] at hcell
    have each : ∀ i, i < len → ∃ xs : List Nat, (xs.length = 32 ∧ ∀ y ∈ xs, y < 256) ∧ ∀ r, r < 32 → w.cell? (a.add (i * 32 + r)) = some (b8 (xs.getD r 0)) := by
      intro i hi
      obtain ⟨cs', hc, t⟩ := hcell i (by omega)
      obtain ⟨zs, h1, h2, _, h4⟩ := trod_arr u_d32 Tryd.uU8 Tryd.cellsU8 cellsD32 t
      obtain ⟨_, hcl, hcc⟩ := World.cells?_some hc
      refine ⟨zs.map Int.toNat, ⟨by simp [h1], ?_⟩, fun r hr => ?_⟩
      · intro y hy
        obtain ⟨z, hz, rfl⟩ := List.mem_map.1 hy
        have := byte_of_wf (h4 z hz)
        omega
      · have hc1 := hcc r hr
        rw [h2] at hc1
        have hrz : r < zs.length := by omega
        have e : (zs.map Int.toNat).getD r 0 = (zs.getD r 0).toNat := by simp [List.getD_eq_getElem?_getD, hrz]
        have hb := byte_of_wf (h4 (zs.getD r 0) (by rw [List.getD_eq_getElem?_getD, List.getElem?_eq_getElem hrz]; simp))
        have ea : (a.add (i * 32)).add r = a.add (i * 32 + r) := Addr.add_add _ _ _
        rw [ea] at hc1
        rw [hc1, e]
        simp only [b8]
        rw [show (((zs.getD r 0).toNat : Nat) : Int) = zs.getD r 0 by omega]
        simp [List.getD_eq_getElem?_getD, hrz]
    obtain ⟨f, hf⟩ := choose_lt each
    have hfl : ((List.range len).map f).length = len := by simp
    refine ⟨(List.range len).map f, ?_, ⟨some a, cap, by rw [hfl], by rw [hfl]; exact hl, fun hp => ?_⟩, .inr ⟨_, _, by rw [hx], by simp⟩⟩
    · intro p hp
      obtain ⟨i, hi, rfl⟩ := List.mem_map.1 hp
      exact (hf i (List.mem_range.1 hi)).1
    · rw [hfl] at hp
      have c0 := (hf 0 hp).2 0 (by decide)
      rw [Nat.zero_mul, Nat.add_zero, Addr.add_zero'] at c0
      have hs := spotless c0
      refine ⟨a.block, a.off, congrArg some hs, fun j hj r v hv => ?_⟩
      rw [hfl] at hj
      have e : ((List.range len).map f).getD j [] = f j := by simp [List.getD_eq_getElem?_getD, hj]
      rw [e] at hv
      have hr : r < 32 := by
        have := (List.getElem?_eq_some_iff.1 hv).1
        rw [List.length_map, (hf j hj).1.1] at this
        exact this
      have cj := (hf j hj).2 r hr
      rw [hs, Addr.add_lit] at cj
      rw [Nat.add_assoc, cj]
      have hrl : r < (f j).length := by rw [(hf j hj).1.1]; exact hr
      simp [hrl] at hv
      rw [← hv]
      simp [List.getD_eq_getElem?_getD, hrl]
end
/-- What a slice within a slice weighs. -/
theorem sized_inner {H : Type} {ts : List TypeId} {ds : List (DataW H)} (h : (DataW.weightsEach Tryd.prog ts ds).all (· ≤ reachBytes) = true) {j : Nat} {elems sp : List (DataW H)} (ht : ts[j]? = some 42) (hd : ds[j]? = some (.slice elems sp)) {i : Nat} {es sp' : List (DataW H)} (he : elems[i]? = some (.slice es sp')) : es.length ≤ reachBytes := by
  have hw : ∀ (ts : List TypeId) (ds : List (DataW H)) (j : Nat) (t : TypeId) (d : DataW H), ts[j]? = some t → ds[j]? = some d → ∀ z ∈ d.weights Tryd.prog t, z ∈ DataW.weightsEach Tryd.prog ts ds := by
    intro ts
    induction ts with
    | nil => intro ds j t d h; simp at h
    | cons t0 ts ih =>
      intro ds j t d h1 h2 z hz
      cases ds with
      | nil => simp at h2
      | cons d0 ds =>
        rw [DataW.weightsEach]
        cases j with
        | zero =>
          simp at h1 h2
          subst h1 h2
          exact List.mem_append.2 (.inl hz)
        | succ j => exact List.mem_append.2 (.inr (ih ds j t d (by simpa using h1) (by simpa using h2) z hz))
  have ha : ∀ (e : TypeId) (l : List (DataW H)) (i : Nat) (d : DataW H), l[i]? = some d → ∀ z ∈ d.weights Tryd.prog e, z ∈ DataW.weightsAll Tryd.prog e l := by
    intro e l
    induction l with
    | nil => intro i d h; simp at h
    | cons d0 l ih =>
      intro i d h z hz
      rw [DataW.weightsAll]
      cases i with
      | zero =>
        simp at h
        subst h
        exact List.mem_append.2 (.inl hz)
      | succ i => exact List.mem_append.2 (.inr (ih i d (by simpa using h) z hz))
  have m1 : (es.length + sp'.length) * Tryd.prog.bytesOf 5 ∈ DataW.weights Tryd.prog 23 (.slice es sp' : DataW H) := by
    rw [DataW.weights, Tryd.uBytes]
    simp
  have m2 := ha 23 elems i _ he _ m1
  have m3 : (es.length + sp'.length) * Tryd.prog.bytesOf 5 ∈ DataW.weights Tryd.prog 42 (.slice elems sp : DataW H) := by
    rw [DataW.weights, uBss]
    simp only [List.mem_cons, List.mem_append]
    exact .inr (.inl m2)
  have m4 := hw ts ds j _ _ ht hd _ m3
  have := List.all_eq_true.1 h _ m4
  rw [Tryd.bytesU8, Nat.mul_one] at this
  have := of_decide_eq_true this
  omega
theorem bytesBytes : Tryd.prog.bytesOf 23 = 24 := by kernel_rfl
theorem bytesD32 : Tryd.prog.bytesOf 22 = 32 := by kernel_rfl
end Go.Proofs.YtfknkfninjjgbabDoor

/- Slices of numbers among the arguments: what they hold, out of their readings. -/
namespace Go.Proofs.YtfknkfninjjgbabDoor
open Go.ChangeShapes Go.WideShapes Go.ChangeAt Go.RowKit Go.Deep
theorem uNums : Tryd.prog.underlying 43 = some (.slice 26) := by kernel_rfl
theorem bytesNum : Tryd.prog.bytesOf 26 = 32 := by kernel_rfl
section
variable {H : Type} {enc : TypeId × Value → H} {w : World} {base : Nat} {spare : Nat → Bool} {held : Bool}
theorem nums_open {fuel : Nat} {u : Value} {x : DataW H × List MemPlace} (h : DataW.trod enc Tryd.prog w base spare held fuel 43 [u] = some x) :
    ∃ ns : List Nm, (∀ x ∈ ns, x.ok) ∧ Nms w u ns ∧ ((x.1 = .nil ∧ ns = []) ∨ ∃ es sp, x.1 = .slice es sp ∧ es.length = ns.length) := by
  rcases open_slice uNums h with ⟨hcs, hx⟩ | ⟨a, len, cap, m, n, D, Pl, hcs, _, hl, hm, hmm, hx, hcell⟩
  · obtain rfl : u = .slice none 0 0 := by simpa using hcs
    exact ⟨[], (fun p hp => by cases hp), ⟨none, 0, rfl, fun h => absurd h (Nat.lt_irrefl _)⟩, .inl ⟨by rw [hx], rfl⟩⟩
  · obtain rfl : u = .slice (some a) len cap := by simpa using hcs
    have hle : len ≤ m := by
      rw [hmm]
      split <;> omega
    rw [Tryd.cellsNum] at hcell
    have each : ∀ i, i < len → ∃ x : Nm, x.ok ∧ ∀ r v, (c4 x)[r]? = some v → w.cell? (a.add (i * 4 + r)) = some v := by
      intro i hi
      obtain ⟨cs', hc, t⟩ := hcell i (by omega)
      obtain ⟨zs, h1, h2, _, h4⟩ := trod_arr Tryd.underlying26 Tryd.underlying24 Tryd.cellsU64 Tryd.cellsNum t
      obtain ⟨_, hcl, hcc⟩ := World.cells?_some hc
      obtain ⟨z0, z1, z2, z3, rfl⟩ := list4 zs h1
      refine ⟨⟨z0, z1, z2, z3⟩, ⟨word_of_wf (h4 z0 (by simp)), word_of_wf (h4 z1 (by simp)), word_of_wf (h4 z2 (by simp)), word_of_wf (h4 z3 (by simp))⟩, fun r v hv => ?_⟩
      have hr : r < 4 := (List.getElem?_eq_some_iff.1 hv).1
      have hc1 := hcc r hr
      have ea : (a.add (i * 4)).add r = a.add (i * 4 + r) := Addr.add_add _ _ _
      rw [ea] at hc1
      rw [hc1]
      subst h2
      have hv' : (List.map (Value.int IntKind.u64) [z0, z1, z2, z3])[r]? = some v := by simpa using hv
      obtain ⟨hlt, he⟩ := List.getElem?_eq_some_iff.1 hv'
      rw [← he]
      simp
    have _inh : Inhabited Nm := ⟨⟨0, 0, 0, 0⟩⟩
    obtain ⟨f, hf⟩ := choose_lt each
    have hfl : ((List.range len).map f).length = len := by simp
    refine ⟨(List.range len).map f, ?_, ⟨some a, cap, by rw [hfl], fun hp => ?_⟩, .inr ⟨_, _, by rw [hx], by simp⟩⟩
    · intro p hp
      obtain ⟨i, hi, rfl⟩ := List.mem_map.1 hp
      exact (hf i (List.mem_range.1 hi)).1
    · rw [hfl] at hp
      have c0 := (hf 0 hp).2 0 _ rfl
      rw [Nat.zero_mul, Nat.add_zero, Addr.add_zero'] at c0
      have hs := spotless c0
      refine ⟨a.block, a.off, congrArg some hs, fun j x hj r v hv => ?_⟩
      rw [List.getElem?_map] at hj
      have hjl : j < len := by
        rcases Nat.lt_or_ge j len with h' | h'
        · exact h'
        · rw [List.getElem?_eq_none (by simpa using h')] at hj
          cases hj
      rw [List.getElem?_range hjl] at hj
      obtain rfl := Option.some.inj hj
      have cj := (hf j hjl).2 r v hv
      rw [hs, Addr.add_lit] at cj
      rw [Nat.add_assoc]
      exact cj
end
end Go.Proofs.YtfknkfninjjgbabDoor
