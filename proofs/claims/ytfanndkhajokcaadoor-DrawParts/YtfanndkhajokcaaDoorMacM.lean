/- Marks as functions of lists; the cells of a mark's state, and how one is built. -/
import Derived.Test.YtfanndkhajokcaaDoorHX
import Derived.Test.YtfanndkhajokcaaDoorMSame
namespace Go.Proofs.YtfanndkhajokcaaDoor
open Go.RowKit
set_option linter.unusedSimpArgs false
/-- The key, fit to a block. -/
def fitS (k : List Nat) : List Nat := if 64 < k.length then sumS k ++ List.replicate 32 0 else k ++ List.replicate (64 - k.length) 0
theorem fitS_length (k : List Nat) : (fitS k).length = 64 := by
  unfold fitS
  split
  · rw [List.length_append, sumS_length, List.length_replicate]
  · rw [List.length_append, List.length_replicate]; omega
theorem fitS_low {k : List Nat} (h : ∀ x ∈ k, x < 256) : ∀ x ∈ fitS k, x < 256 := by
  unfold fitS
  split
  · exact low_app (sumS_low k) (low_rep _)
  · exact low_app h (low_rep _)
/-- Each byte xor b. -/
def xb (K : List Nat) (b : Nat) : List Nat := K.map (· ^^^ b)
theorem xb_length (K : List Nat) (b : Nat) : (xb K b).length = K.length := by simp [xb]
theorem xb_low {K : List Nat} (h : ∀ x ∈ K, x < 256) {b : Nat} (hb : b < 256) : ∀ x ∈ xb K b, x < 256 := by
  intro x hx
  obtain ⟨y, hy, rfl⟩ := List.mem_map.1 hx
  exact xor_lt (h y hy) hb
/-- The first k bytes xor b, the others as they are. -/
def xK (K : List Nat) (b k : Nat) : List Nat := xb (K.take k) b ++ K.drop k
theorem xK_zero (K : List Nat) (b : Nat) : xK K b 0 = K := by simp [xK, xb]
theorem xK_all (K : List Nat) (b : Nat) {k : Nat} (h : K.length = k) : xK K b k = xb K b := by subst h; simp [xK]
theorem xK_length (K : List Nat) (b k : Nat) : (xK K b k).length = K.length := by
  simp [xK, xb]
  omega
theorem xK_get (K : List Nat) (b k : Nat) (h : k < K.length) : (xK K b k)[k]? = some (K.getD k 0) := by
  unfold xK
  rw [List.getElem?_append_right (by simp [xb]; omega), List.getElem?_drop]
  simp [xb, List.getD_eq_getElem?_getD, h, Nat.min_eq_left (Nat.le_of_lt h)]
theorem xK_set (K : List Nat) (b k : Nat) (h : k < K.length) : (xK K b k).set k (K.getD k 0 ^^^ b) = xK K b (k + 1) := by
  have e : (K.drop k) = K.getD k 0 :: K.drop (k + 1) := by
    rw [List.drop_eq_getElem_cons h]
    simp [List.getD_eq_getElem?_getD, h]
  have l : (xb (K.take k) b).length = k := by simp [xb]; omega
  have t : K.take (k + 1) = K.take k ++ [K.getD k 0] := by
    rw [List.take_add_one]
    simp [List.getD_eq_getElem?_getD, h]
  unfold xK
  rw [List.set_append_right _ _ (by omega), l, e, Nat.sub_self, List.set_cons_zero, t]
  simp [xb]
/-- A text's mark by a key of one block. -/
def markK (K p : List Nat) : List Nat := sumS (xb K 92 ++ sumS (xb K 54 ++ p))
def markS (k p : List Nat) : List Nat := markK (fitS k) p
theorem markK_length (K p : List Nat) : (markK K p).length = 32 := sumS_length _
/-- The cells of the state of a text. -/
def stC (p : List Nat) : List Value := cS (wordsS IV p) (restS p) (cntS 0 p)
theorem stC_length (p : List Nat) : (stC p).length = 73 := cS_length _ _ _ (restS_length p)
theorem stV_eq (p : List Nat) : stV IV 0 p = .agg (stC p).toArray := rfl
theorem one_stC (p : List Nat) : ∀ v ∈ stC p, v.oneCell' = true := one_cS _ _ _
def mC (K p : List Nat) : List Value := stC (xb K 54 ++ p) ++ stC (xb K 92)
theorem mC_length (K p : List Nat) : (mC K p).length = 146 := by rw [mC, List.length_append, stC_length, stC_length]
theorem one_mC (K p : List Nat) : ∀ v ∈ mC K p, v.oneCell' = true := fun v hv => (List.mem_append.1 hv).elim (one_stC _ v) (one_stC _ v)
/-- A mark's state: the key K, of one block, and the text p. -/
def mV (K p : List Nat) : Value := .agg (mC K p).toArray
theorem mac_places : ((Tryd.prog.underlying 70).bind fun d => match d with | .struct fields => fields.toList.mapM (fun f => (Tryd.prog.info? f.type).map fun i => (f.offset, i.size)) | _ => none) = some [(0, 73), (73, 73)] := by kernel_rfl
theorem info_mstz : (Tryd.prog.info? 70).map (·.zero) = some (some (.agg (zS ++ zS).toArray)) := by kernel_rfl
theorem built_mac (A B : List Value) (hA : A.length = 73) (hB : B.length = 73) : Tryd.prog.built 70 [(0, .agg A.toArray), (1, .agg B.toArray)] = some (A ++ B).toArray := by
  rw [built_of info_mstz mac_places, fill_step _ _ 0 0 A [] zS zS _ (by rw [hA]; rfl) (by simp) rfl (by rw [hA, zS_length]), fill_step _ _ 1 73 B A zS [] _ (by rw [hB]; rfl) (by simp) hA (by rw [hB, zS_length]), Instr.fill]
  simp
theorem info_mst : (Tryd.prog.info? 70).map (·.size) = some 146 := by kernel_rfl
theorem zero_mst (w : World) : (zeroValue 70).run Tryd.prog w = .ok (.agg (zS ++ zS).toArray) w := by
  have := info_mstz
  cases h : Tryd.prog.info? 70 with
  | none => simp [h] at this
  | some d =>
    have hz : d.zero = some (.agg (zS ++ zS).toArray) := by simpa [h] using this
    simp [zeroValue, typeInfo, h, hz]
theorem u_mst0 : (Tryd.prog.underlying 70).map TypeDesc.isRow = some true := by kernel_rfl
theorem u_mst : ∃ d, Tryd.prog.underlying 70 = some d ∧ d.isRow = true := by
  have := u_mst0
  cases h : Tryd.prog.underlying 70 with
  | none => simp [h] at this
  | some d => exact ⟨d, rfl, by simpa [h] using this⟩
end Go.Proofs.YtfanndkhajokcaaDoor
