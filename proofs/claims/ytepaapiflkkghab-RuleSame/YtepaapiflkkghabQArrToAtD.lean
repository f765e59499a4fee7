/- Texts that were joined: Arr, HOpen, AtD. -/
import Derived.ProofKit
import Derived.OpenShut
import Derived.Test.YtepaapiflkkghabQBs
import Derived.Deep.SlicePairs
import Derived.Carry
/- An array of integers among the arguments: its value and its datum out of its reading, and its reading again in whatever world. Over any program. -/
namespace Go.Proofs.Ytepaapiflkkghab
open Go.ChangeShapes Go.WideShapes Go.ChangeAt Go.RowKit
section
variable {P : Program} {H : Type} {enc : TypeId × Value → H} {w : World} {base : Nat} {spare : Nat → Bool} {held : Bool}

end

theorem byte_of_wf {x : Int} (h : (Lit.int .u8 x).wf = true) : 0 ≤ x ∧ x < 256 := by
  simp [Lit.wf, IntKind.min, IntKind.max, IntKind.signed, IntKind.bits] at h
  exact ⟨by omega, by omega⟩
theorem int_of_wf {x : Int} (h : (Lit.int .i64 x).wf = true) : -9223372036854775808 ≤ x ∧ x ≤ 9223372036854775807 := by
  simp [Lit.wf, IntKind.min, IntKind.max, IntKind.signed, IntKind.bits] at h
  exact ⟨by omega, by omega⟩
end Go.Proofs.Ytepaapiflkkghab

/- A slice of bytes among the arguments: what it holds, out of its reading; small closed facts that a row's proof asks for. -/
namespace Go.Proofs.Ytepaapiflkkghab
open Go.ChangeShapes Go.WideShapes Go.ChangeAt Go.RowKit Go.Deep
theorem Try.own : ownKnob Try.prog.godebug = none := by kernel_rfl
theorem Try.cellsU8 : Try.prog.cellsOf 5 = 1 := by kernel_rfl
section
variable {H : Type} {enc : TypeId × Value → H} {w : World} {base : Nat} {spare : Nat → Bool} {held : Bool}
def lowB (xs : List Nat) : Prop := ∀ x ∈ xs, x < 256
theorem spotless {w : World} {a : Addr} {v : Value} (h : w.cell? a = some v) : a = ⟨a.block, a.off, none⟩ := by
  obtain ⟨b, o, s⟩ := a
  cases s with
  | none => rfl
  | some s =>
    unfold World.cell? at h
    split at h <;> simp at h
theorem by_of_trod {fuel : Nat} {u : Value} {x : DataW H × List MemPlace} (h : DataW.trod enc Try.prog w base spare held fuel 33 [u] = some x) : ∃ xs, lowB xs ∧ By w u xs ∧ xs.length ≤ maxLen := by
  rcases open_ints Try.uBytes Try.uU8 Try.cellsU8 h with ⟨hcs, hx⟩ | ⟨a, len, cap, zs, hcs, _, hl, hm, hz, hx, hcell, hwz⟩
  · obtain rfl : u = .slice none 0 0 := by simpa using hcs
    exact ⟨[], by simp [lowB], By.nil w, by simp⟩
  · obtain rfl : u = .slice (some a) len cap := by simpa using hcs
    have hle : len ≤ zs.length := by
      rw [hz]
      by_cases hs : spare a.block = true <;> simp [hs] <;> omega
    have hlen : ((zs.take len).map Int.toNat).length = len := by simp; omega
    refine ⟨(zs.take len).map Int.toNat, ?_, ⟨some a, cap, by rw [hlen], by rw [hlen]; exact hl, (fun h => by cases h), fun hp => ?_⟩, by rw [hlen]; omega⟩
    · intro y hy
      simp only [List.mem_map] at hy
      obtain ⟨z, hz1, rfl⟩ := hy
      have := byte_of_wf (hwz z (List.mem_of_mem_take hz1))
      omega
    · rw [hlen] at hp
      have h0 := hcell 0 (by omega)
      rw [Addr.add_zero'] at h0
      have hs := spotless h0
      refine ⟨a.block, a.off, congrArg some hs, fun j hj => ?_⟩
      rw [hlen] at hj
      have hc := hcell j (by omega)
      rw [hs, Addr.add_lit] at hc
      rw [hc]
      have hb := byte_of_wf (hwz (zs.getD j 0) (by rw [List.getD_eq_getElem?_getD, List.getElem?_eq_getElem (by omega)]; simp))
      have e : ((zs.take len).map Int.toNat).getD j 0 = (zs.getD j 0).toNat := by
        simp [List.getD_eq_getElem?_getD, hj, List.getElem?_eq_getElem (show j < zs.length by omega)]
      rw [e]
      simp only [b8]
      rw [show (((zs.getD j 0).toNat : Nat) : Int) = zs.getD j 0 by omega]
end
theorem Try.laidOut : laidOutB Try.prog = true := by kernel_rfl
end Go.Proofs.Ytepaapiflkkghab

/- Attributes: what a slice of them holds, out of its reading. -/
namespace Go.Proofs.Ytepaapiflkkghab
open Go.ChangeShapes Go.WideShapes Go.ChangeAt Go.RowKit Go.Deep
/-- An attribute. -/
structure Ar where
  k : Int
  v : List Nat
def ar0 : Ar := ⟨0, []⟩
def Ar.ok (x : Ar) : Prop := (-9223372036854775808 ≤ x.k ∧ x.k ≤ 9223372036854775807) ∧ lowB x.v
theorem Try.uAttrs : Try.prog.underlying 22 = some (.slice 38) := by kernel_rfl
/-- The slice v holds the attributes l. -/
def Ats (w : World) (v : Value) (l : List Ar) : Prop :=
  ∃ a c, v = .slice a l.length c ∧ l.length ≤ c ∧ (a = none → c = 0) ∧ (0 < l.length → ∃ b o, a = some ⟨b, o, none⟩ ∧ ∀ j x, l[j]? = some x → w.cell? ⟨b, o + j * 2, none⟩ = some (.int .i64 x.k) ∧ ∃ u, w.cell? ⟨b, o + j * 2 + 1, none⟩ = some u ∧ By w u x.v)
theorem Ats.nil (w : World) : Ats w (.slice none 0 0) [] := ⟨none, 0, rfl, Nat.le_refl _, fun _ => rfl, fun h => absurd h (Nat.lt_irrefl _)⟩
theorem Ats.up {W w1 : World} {v : Value} {l : List Ar} {B : Nat} (h : Ats W v l) (hb : Below B W w1) (hB : W.heap.size ≤ B) : Ats w1 v l := by
  obtain ⟨a, c, e, h1, h2, h3⟩ := h
  refine ⟨a, c, e, h1, h2, fun hp => ?_⟩
  obtain ⟨b, o, e2, hc⟩ := h3 hp
  refine ⟨b, o, e2, fun j x hx => ?_⟩
  obtain ⟨t1, u, t2, t3⟩ := hc j x hx
  exact ⟨(hb.cell (p := ⟨b, _, none⟩) (Nat.lt_of_lt_of_le (lt_of_cellB t1) hB)).trans t1, u, (hb.cell (p := ⟨b, _, none⟩) (Nat.lt_of_lt_of_le (lt_of_cellB t2) hB)).trans t2, t3.up hb hB⟩
theorem ats_parts {w : World} {v : Value} {l : List Ar} (h : Ats w v l) : ∃ a c, v = .slice a l.length c := by
  obtain ⟨a, c, e, -⟩ := h
  exact ⟨a, c, e⟩
/-- Its elements' cells, in every later world. -/
theorem Ats.rows {w : World} {a : Option Addr} {n c : Nat} {l : List Ar} (h : Ats w (.slice a n c) l) (hn : 0 < n) : ∃ b o, a = some ⟨b, o, none⟩ ∧ ∀ W, Below w.heap.size w W → ∀ i x, l[i]? = some x → W.cell? ⟨b, o + i * 2, none⟩ = some (.int .i64 x.k) ∧ ∃ u, W.cell? ⟨b, o + i * 2 + 1, none⟩ = some u ∧ By W u x.v := by
  obtain ⟨a', c', e, -, -, h2⟩ := id h
  cases e
  obtain ⟨b, o, rfl, -⟩ := h2 hn
  refine ⟨b, o, rfl, fun W hW => ?_⟩
  obtain ⟨a', c', e, -, -, h2⟩ := h.up hW (Nat.le_refl _)
  cases e
  obtain ⟨b', o', e, h3⟩ := h2 hn
  cases e
  exact h3
section
variable {H : Type} {enc : TypeId × Value → H} {w : World} {base : Nat} {spare : Nat → Bool} {held : Bool}
theorem cellsAttr : Try.prog.cellsOf 38 = 2 := by kernel_rfl
theorem cellsIntA : Try.prog.cellsOf 3 = 1 := by kernel_rfl
theorem cellsBytesA : Try.prog.cellsOf 33 = 1 := by kernel_rfl
end
end Go.Proofs.Ytepaapiflkkghab
