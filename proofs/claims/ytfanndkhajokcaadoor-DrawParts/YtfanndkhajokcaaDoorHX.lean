/- Small laws that marks and trees share: bytes of digests; structs and slices that are built; an array sliced whole. -/
import Derived.Test.YtfanndkhajokcaaDoorHLaw
namespace Go.Proofs.YtfanndkhajokcaaDoor
open Go.RowKit
set_option linter.unusedSimpArgs false
theorem dbyte_lt (H : R8) (k : Nat) : dbyte H k < 256 := by
  unfold dbyte
  omega
theorem sumS_low (p : List Nat) : ∀ x ∈ sumS p, x < 256 := by
  intro x hx
  unfold sumS digS at hx
  obtain ⟨j, _, rfl⟩ := List.mem_map.1 hx
  exact dbyte_lt _ _
theorem low_app {a b : List Nat} (ha : ∀ x ∈ a, x < 256) (hb : ∀ x ∈ b, x < 256) : ∀ x ∈ a ++ b, x < 256 := fun x hx => (List.mem_append.1 hx).elim (ha x) (hb x)
theorem low_rep (n : Nat) : ∀ x ∈ List.replicate n 0, x < 256 := fun x hx => by rw [(List.mem_replicate.1 hx).2]; decide
theorem lay_foldl (off : Nat) : ∀ (v : List Value) (n : Nat) (X : Array Value) (a b c : List Value), X.toList = a ++ (b ++ c) → a.length = off + n → b.length = v.length → ((v.zipIdx n).foldl (fun (cs : Array Value) (x : Value × Nat) => cs.setIfInBounds (off + x.2) x.1) X).toList = a ++ (v ++ c)
  | [], n, X, a, b, c, hX, ha, hb => by
    rw [List.length_eq_zero_iff.1 hb] at hX
    simpa using hX
  | x :: v, n, X, a, y :: b, c, hX, ha, hb => by
    rw [List.zipIdx_cons, List.foldl_cons]
    rw [lay_foldl off v (n + 1) _ (a ++ [x]) b c ?_ (by simp; omega) (by simpa using hb)]
    · simp
    · rw [Array.toList_setIfInBounds, hX, List.set_append_right _ _ (by omega), ha]
      simp
  | x :: v, n, X, a, [], c, hX, ha, hb => by simp at hb
theorem built_of {t : TypeId} {zc : Array Value} {places : List (Nat × Nat)} (hz : (Tryd.prog.info? t).map (·.zero) = some (some (.agg zc)))
    (hp : ((Tryd.prog.underlying t).bind fun d => match d with | .struct fields => fields.toList.mapM (fun f => (Tryd.prog.info? f.type).map fun i => (f.offset, i.size)) | _ => none) = some places) (parts : List (Nat × Value)) : Tryd.prog.built t parts = Instr.fill (places.toArray[·]?) zc parts := by
  unfold Program.built
  cases e1 : Tryd.prog.info? t with
  | none => simp [e1] at hz
  | some it =>
    have e3 : it.zero = some (.agg zc) := by simpa [e1] using hz
    cases e2 : Tryd.prog.underlying t with
    | none => simp [e2] at hp
    | some d =>
      rw [e2, Option.bind_some] at hp
      cases d <;> simp at hp
      rename_i fields
      simp only [e3, hp, Value.cells]
theorem foldl_zip (A : List Value) (f : Array Value → Value × Nat → Array Value) (X : Array Value) : A.toArray.zipIdx.foldl f X = A.zipIdx.foldl f X := by
  rw [← Array.foldl_toList, Array.toList_zipIdx]
theorem fill_step (pl : Nat → Option (Nat × Nat)) (X : Array Value) (i off : Nat) (v a b c : List Value) (rest : List (Nat × Value)) (hp : pl i = some (off, v.length)) (hX : X.toList = a ++ (b ++ c)) (ha : a.length = off) (hb : b.length = v.length) :
    Instr.fill pl X ((i, .agg v.toArray) :: rest) = Instr.fill pl (a ++ (v ++ c)).toArray rest := by
  have hs : X.size = a.length + (b.length + c.length) := by
    rw [← Array.length_toList, hX]
    simp
  rw [Instr.fill, hp]
  simp only [Value.cells, List.size_toArray]
  rw [if_neg (by simp; omega)]
  congr 1
  apply Array.ext'
  rw [foldl_zip]
  exact lay_foldl off v 0 X a b c hX (by omega) hb
theorem slice_all {t e : TypeId} {n : Nat} (ht : Tryd.prog.underlying t = some (.array n e)) (hz : (Tryd.prog.info? e).map (·.size) = some 1) (hn : 0 < n) (b o : Nat) (w : World) :
    (Instr.sliceAt t (.pointer (some ⟨b, o, none⟩)) none none none).run Tryd.prog w = .ok (.slice (some ⟨b, o, none⟩) n n) w := by
  have ha : Tryd.prog.arrayLen t = n := by simp [Program.arrayLen, ht]
  have he : Tryd.prog.elem t = e := by simp [Program.elem, ht]
  rw [run_sliceAt_array_all w t ⟨b, o, none⟩ (by rw [ha, he]; exact ht), ha, he]
  cases hq : Tryd.prog.info? e with
  | none => simp [hq] at hz
  | some i =>
    have hi : i.size = 1 := by simpa [hq] using hz
    simp [sizeOf, typeInfo, hq, hi, slicedAt, Addr.add_zero', Nat.ne_of_gt hn]
theorem By.of_blk {w : World} {k n : Nat} {xs : List Nat} (h : Blk w k (xs.map b8)) (hl : xs.length = n) : By w (.slice (some ⟨k, 0, none⟩) n n) xs := by
  subst hl
  refine By.of_cells (Nat.le_refl _) fun j hj => ?_
  rw [Nat.zero_add]
  exact h.cell j _ (by simp [List.getD_eq_getElem?_getD, hj])
end Go.Proofs.YtfanndkhajokcaaDoor
