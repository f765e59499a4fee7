/- A slice of bytes, of items, and an item, among the arguments: what it holds, out of its reading. -/
import Derived.Test.YtkgfeacednomfaaDerW
import Derived.Test.YtkgfeacednomfaaArr
import Derived.Test.YtkgfeacednomfaaOwnD
import Derived.Deep.SlicePairs
import Derived.Carry
namespace Go.Proofs.Ytkgfeacednomfaa
open Go.ChangeShapes Go.WideShapes Go.ChangeAt Go.RowKit Go.Deep
section
variable {H : Type} {enc : TypeId × Value → H} {w : World} {base : Nat} {spare : Nat → Bool} {held : Bool}
def lowB (xs : List Nat) : Prop := ∀ x ∈ xs, x < 256
def lowI (l : List It) : Prop := ∀ x ∈ l, x.tag < 256 ∧ lowB x.body
theorem spotless {w : World} {a : Addr} {v : Value} (h : w.cell? a = some v) : a = ⟨a.block, a.off, none⟩ := by
  obtain ⟨b, o, s⟩ := a
  cases s with
  | none => rfl
  | some s =>
    unfold World.cell? at h
    split at h <;> simp at h
theorem by_of_trod {fuel : Nat} {u : Value} {x : DataW H × List MemPlace} (h : DataW.trod enc Try.prog w base spare held fuel 57 [u] = some x) : ∃ xs, lowB xs ∧ By w u xs ∧ xs.length ≤ maxLen := by
  rcases open_ints Try.uBytes Try.uU8 Try.cellsU8 h with ⟨hcs, hx⟩ | ⟨a, len, cap, zs, hcs, _, hl, hm, hz, hx, hcell, hwz⟩
  · obtain rfl : u = .slice none 0 0 := by simpa using hcs
    exact ⟨[], by simp [lowB], By.nil w, by simp⟩
  · obtain rfl : u = .slice (some a) len cap := by simpa using hcs
    have hle : len ≤ zs.length := by
      rw [hz]
      by_cases hs : spare a.block = true <;> simp [hs] <;> omega
    have hlen : ((zs.take len).map Int.toNat).length = len := by simp; omega
    refine ⟨(zs.take len).map Int.toNat, ?_, ⟨some a, cap, by rw [hlen], by rw [hlen]; exact hl, (fun h => by cases h), fun hp => ?_⟩, by rw [hlen]; omega⟩
    · intro y hy
      simp only [List.mem_map] at hy
      obtain ⟨z, hz1, rfl⟩ := hy
      have := byte_of_wf (hwz z (List.mem_of_mem_take hz1))
      omega
    · rw [hlen] at hp
      have h0 := hcell 0 (by omega)
      rw [Addr.add_zero'] at h0
      have hs := spotless h0
      refine ⟨a.block, a.off, congrArg some hs, fun j hj => ?_⟩
      rw [hlen] at hj
      have hc := hcell j (by omega)
      rw [hs, Addr.add_lit] at hc
      rw [hc]
      have hb := byte_of_wf (hwz (zs.getD j 0) (by rw [List.getD_eq_getElem?_getD, List.getElem?_eq_getElem (by omega)]; simp))
      have e : ((zs.take len).map Int.toNat).getD j 0 = (zs.getD j 0).toNat := by
        simp [List.getD_eq_getElem?_getD, hj, List.getElem?_eq_getElem (show j < zs.length by omega)]
      rw [e]
      simp only [b8]
      rw [show (((zs.getD j 0).toNat : Nat) : Int) = zs.getD j 0 by omega]
theorem its_of_trod {fuel : Nat} {v : Value} {x : DataW H × List MemPlace} (h : DataW.trod enc Try.prog w base spare held fuel 56 [v] = some x) : ∃ l, lowI l ∧ Its w v l := by
  rcases open_slice_pairs Try.uItems Try.underlying67 Try.cellsItem rfl rfl Try.cellsU8 Try.cellsBytes h with ⟨hcs, hx⟩ | ⟨a, len, cap, m, n, V0, V1, D0, D1, P0, P1, hcs, _, hl, hm, hme, hx, hcell⟩
  · obtain rfl : v = .slice none 0 0 := by simpa using hcs
    exact ⟨[], by simp [lowI], none, 0, rfl, Nat.le_refl _, fun _ => rfl, fun h => absurd h (Nat.lt_irrefl _)⟩
  · obtain rfl : v = .slice (some a) len cap := by simpa using hcs
    have hle : len ≤ m := by
      rw [hme]
      by_cases hs : spare a.block = true <;> simp [hs] <;> omega
    have each : ∀ i, i < len → ∃ x : It, (x.tag < 256 ∧ lowB x.body) ∧ w.cell? (a.add (i * 2)) = some (b8 x.tag) ∧ ∃ u, w.cell? (a.add (i * 2 + 1)) = some u ∧ By w u x.body := by
      intro i hi
      obtain ⟨c0, c1, t0, t1⟩ := hcell i (by omega)
      obtain ⟨z, hz, _, hw⟩ := DataW.trod_int Try.uU8 t0
      obtain ⟨xs, h1, h2, _⟩ := by_of_trod t1
      have hb := byte_of_wf hw
      have hv : V0 i = .int .u8 z := by simpa using hz
      refine ⟨⟨z.toNat, xs⟩, ⟨by simp only; omega, h1⟩, ?_, V1 i, c1, h2⟩
      rw [c0, hv]
      simp only [b8]
      rw [show ((z.toNat : Nat) : Int) = z by omega]
    have hinh : Inhabited It := ⟨⟨0, []⟩⟩
    obtain ⟨f, hf⟩ := choose_lt each
    refine ⟨(List.range len).map f, ?_, some a, cap, by simp, by simpa using hl, (fun h => by cases h), fun hp => ?_⟩
    · intro x hx
      simp only [List.mem_map, List.mem_range] at hx
      obtain ⟨i, hi, rfl⟩ := hx
      exact (hf i hi).1
    · have hp' : 0 < len := by simpa using hp
      have h0 := (hf 0 hp').2.1
      rw [Nat.zero_mul, Addr.add_zero'] at h0
      have hs := spotless h0
      refine ⟨a.block, a.off, congrArg some hs, fun j x hx => ?_⟩
      have hj : j < len := by
        have := (List.getElem?_eq_some_iff.1 hx).1
        simpa using this
      have e : f j = x := by simpa [hj] using hx
      obtain ⟨_, c0, u, c1, h2⟩ := hf j hj
      rw [hs, Addr.add_lit, e] at c0
      rw [hs, Addr.add_lit] at c1
      rw [e] at h2
      exact ⟨c0, u, by rw [Nat.add_assoc]; exact c1, h2⟩
end
theorem Try.laidOut : laidOutB Try.prog = true := by kernel_rfl
end Go.Proofs.Ytkgfeacednomfaa
