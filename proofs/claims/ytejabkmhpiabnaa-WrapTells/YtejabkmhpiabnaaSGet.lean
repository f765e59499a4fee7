/- The bytes of a text. -/
import Derived.Test.YtejabkmhpiabnaaBs
namespace Go.Proofs.Ytejabkmhpiabnaa
theorem sOf_get {b : List Nat} (low : ∀ x ∈ b, x < 256) (j : Nat) (h : j < (sOf b).size) : ((sOf b)[j]'h).toNat = b.getD j 0 := by
  have hj : j < b.length := by rw [sOf_size] at h; exact h
  have e : (sOf b)[j]'h = UInt8.ofNat b[j] := by
    simp [sOf, ByteArray.getElem_eq_getElem_data]
  rw [e, UInt8.toNat_ofNat', Nat.mod_eq_of_lt (low _ (List.getElem_mem hj)), List.getD_eq_getElem?_getD, List.getElem?_eq_getElem hj]
  rfl
/-- Every text is one of bytes. -/
theorem sOf_all (s : ByteArray) : ∃ cs, (∀ x ∈ cs, x < 256) ∧ s = sOf cs := by
  refine ⟨s.data.toList.map UInt8.toNat, fun x hx => ?_, ?_⟩
  · simp only [List.mem_map] at hx
    obtain ⟨y, _, rfl⟩ := hx
    exact y.toNat_lt
  · apply ByteArray.ext
    simp [sOf, Function.comp_def]
end Go.Proofs.Ytejabkmhpiabnaa
