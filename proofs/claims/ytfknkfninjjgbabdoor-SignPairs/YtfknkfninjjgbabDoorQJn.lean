/- bytes.Join, by the library's contract; a row of slices of bytes that has been made. -/
import Derived.Test.YtfknkfninjjgbabDoorQBKToHCut
import Derived.Test.YtfknkfninjjgbabDoorQUpMToSBy
import Derived.Test.YtfknkfninjjgbabDoorRows
import Derived.Shelf.Bytes.SlJoin
namespace Go.Proofs.YtfknkfninjjgbabDoor
open Go.RowKit
set_option linter.unusedSimpArgs false
def jn_ren : Go.Shelf.Ren := ⟨fun | 14 => 54 | 15 => 71 | n => n, fun | 0 => 0 | 3 => 3 | 4 => 4 | 9 => 9 | 20 => 20 | 22 => 23 | 26 => 42 | 5 => 5 | n => n, fun n => n⟩
theorem jn_lays : SlLaysJ.n14 Tryd.prog jn_ren := {
  mixed := by kernel_rfl
  f14 := Tryd.func54.trans (congrArg some (by kernel_rfl))
  f15 := Tryd.func71.trans (congrArg some (by kernel_rfl))
  t0 := Tryd.underlying0
  a0 := Tryd.isAgg0
  z0 := Tryd.sizeOf0
  v0 := Tryd.zeroValue0
  t3 := Tryd.underlying3
  a3 := Tryd.isAgg3
  z3 := Tryd.sizeOf3
  v3 := Tryd.zeroValue3
  t4 := Tryd.underlying4
  a4 := Tryd.isAgg4
  z4 := Tryd.sizeOf4
  v4 := Tryd.zeroValue4
  t9 := Tryd.underlying9
  a9 := Tryd.isAgg9
  z9 := Tryd.sizeOf9
  v9 := Tryd.zeroValue9
  t20 := Tryd.underlying20
  a20 := Tryd.isAgg20
  z20 := Tryd.sizeOf20
  v20 := Tryd.zeroValue20
  t22 := Tryd.underlying23
  a22 := Tryd.isAgg23
  z22 := Tryd.sizeOf23
  v22 := Tryd.zeroValue23
  t26 := Tryd.underlying42
  a26 := Tryd.isAgg42
  z26 := Tryd.sizeOf42
  v26 := Tryd.zeroValue42
  t5 := Tryd.underlying5
  z5 := Tryd.sizeOf5
  i5 := by kernel_rfl }
/-- Block g holds slices of these bytes. -/
def Rw (w : World) (v : Value) (ls : List (List Nat)) : Prop := ∃ (g : Nat) (us : List Value), v = .slice (some ⟨g, 0, none⟩) ls.length ls.length ∧ us.length = ls.length ∧ (∀ (i : Nat) u, us[i]? = some u → w.cell? ⟨g, i, none⟩ = some u) ∧ ∀ (i : Nat) u l, us[i]? = some u → ls[i]? = some l → By w u l
theorem Rw.up {W w1 : World} {v : Value} {ls : List (List Nat)} (h : Rw W v ls) (hb : Below W.heap.size W w1) : Rw w1 v ls := by
  obtain ⟨g, us, e, h1, h2, h3⟩ := h
  refine ⟨g, us, e, h1, fun i u hu => ?_, fun i u l hu hl => By.up (xs := l) (h3 i u l hu hl) hb (Nat.le_refl _)⟩
  have hlt : g < W.heap.size := lt_of_cellB (h2 i u hu)
  exact (hb.cell (p := ⟨g, i, none⟩) hlt).trans (h2 i u hu)
def MP.rw_ (ls : List (List Nat)) : MP := ⟨fun v w => Rw w v ls, fun h hb => Rw.up h hb⟩
def u8s (l : List Nat) : List UInt8 := l.map UInt8.ofNat
theorem u8s_length (l : List Nat) : (u8s l).length = l.length := by simp [u8s]
theorem By.holds {w : World} {v : Value} {l : List Nat} (h : By w v l) (lo : ∀ x ∈ l, x < 256) : Lib.HoldsBytes w v (u8s l) := by
  obtain ⟨a, c, e, h1, h2, h3⟩ := h
  refine ⟨a, c, by rw [u8s_length]; exact e, fun ha => ?_, fun b hb i x hx => ?_⟩
  · have := h2 ha
    have : l.length = 0 := by omega
    rw [List.length_eq_zero_iff.1 this]
    rfl
  · have hi : i < l.length := by
      have := (List.getElem?_eq_some_iff.1 hx).1
      rwa [u8s_length] at this
    obtain ⟨g, o, e2, hc⟩ := h3 (by omega)
    obtain rfl : b = ⟨g, o, none⟩ := by rw [e2] at hb; exact (Option.some.inj hb).symm
    have hv : x.toNat = l[i] := by
      have hx' := (List.getElem?_eq_some_iff.1 hx).2
      simp only [u8s, List.getElem_map] at hx'
      rw [← hx']
      simp only [UInt8.toNat_ofNat']
      exact Nat.mod_eq_of_lt (lo _ (List.getElem_mem hi))
    rw [hv, Addr.add_lit, hc i hi]
    simp [b8, hi]
theorem fresh_by {w : World} {B : Nat} {v : Value} {l : List Nat} (lo : ∀ x ∈ l, x < 256) (h : Lib.FreshBytes B w v (u8s l)) : By w v l := by
  obtain ⟨g, cap, zs, e, _, hle, _, hz, hr, hb, hc, _⟩ := h
  rw [u8s_length] at e hle hb
  rw [e]
  refine By.of_cells hle fun j hj => ?_
  rw [Nat.zero_add, hc j (by omega)]
  have hz' : j < zs.length := by omega
  have h1 : (u8s l)[j]? = some (UInt8.ofNat l[j]) := by simp [u8s, hj]
  rw [← hb] at h1
  have h2 : (Lib.bytesOf (zs.take l.length))[j]? = some (UInt8.ofNat zs[j].toNat) := by
    rw [Lib.bytesOf, List.getElem?_map, List.getElem?_take, if_pos hj, List.getElem?_eq_getElem hz']
    rfl
  have h3 := hr zs[j] (List.getElem_mem hz')
  rw [h2] at h1
  have h4 := congrArg UInt8.toNat (Option.some.inj h1)
  simp only [UInt8.toNat_ofNat'] at h4
  rw [Nat.mod_eq_of_lt (lo _ (List.getElem_mem hj)), Nat.mod_eq_of_lt (by omega)] at h4
  have h5 : zs.getD j 0 = (l[j] : Int) := by
    rw [List.getD_eq_getElem?_getD, List.getElem?_eq_getElem hz', Option.getD_some]
    omega
  rw [h5]
  simp [b8, hj]
theorem u8s_flatten (ls : List (List Nat)) : Lib.join (ls.map u8s) [] = u8s ls.flatten := by
  cases ls with
  | nil => rfl
  | cons x r =>
    rw [List.map_cons, Lib.join_cons]
    unfold Lib.joinTail u8s
    simp [List.map_flatten, Function.comp_def]
theorem u8s_lens (ls : List (List Nat)) : Lib.lens (ls.map u8s) = (ls.map List.length).sum := by
  unfold Lib.lens
  rw [List.map_map]
  congr 1
  exact List.map_congr_left fun l _ => u8s_length l
/-- bytes.Join without a separator: one behind the other. -/
theorem join_fun (ls : List (List Nat)) (h2 : 2 ≤ ls.length) (lo : ∀ l ∈ ls, ∀ x ∈ l, x < 256) (hn : ls.length ≤ 140737488355328) (hl : (ls.map List.length).sum ≤ 140737488355328) (v : Value) (w : World) (hv : Rw w v ls) :
    Calls Tryd.prog 54 #[v, .slice none 0 0] w fun e w' => (∃ v', e = .returned v' ∧ By w' v' ls.flatten) ∧ Below w.heap.size w w' := by
  obtain ⟨g, us, rfl, hus, hc, hy⟩ := hv
  have hP : Lib.PartsAt w ⟨g, 0, none⟩ us (ls.map u8s) := by
    refine ⟨by rw [List.length_map]; exact hus, fun i u hu => ?_, fun i u l hu hl => ?_⟩
    · rw [Addr.add_lit, Nat.zero_add]
      exact hc i u hu
    · rw [List.getElem?_map] at hl
      cases hq : ls[i]? with
      | none => rw [hq] at hl; cases hl
      | some l' =>
        rw [hq] at hl
        obtain rfl := Option.some.inj hl
        exact By.holds (l := l') (hy i u l' hu hq) (lo l' (List.mem_of_getElem? hq))
  have := Any.bytes_Join_many jn_lays g 0 ls.length ls.length us (ls.map u8s) (.slice none 0 0) [] w (by rw [List.length_map]) h2 hP (Nat.le_refl _) ⟨none, 0, rfl, fun _ => rfl, fun a ha => by cases ha⟩ hn (by rw [u8s_lens]; simpa using hl)
  refine Calls.mono this ?_
  rintro e w' ⟨v', he, hf, hb⟩
  rw [u8s_flatten] at hf
  exact ⟨⟨v', he, fresh_by (fun x hx => by obtain ⟨l, hl', hx'⟩ := List.mem_flatten.1 hx; exact lo l hl' x hx') hf⟩, hb⟩
/-- []..{..}: a row of slices is made. -/
theorem Rw.made (us : List Value) (ls : List (List Nat)) (w : World) (hus : us.length = ls.length) (hy : ∀ (i : Nat) u l, us[i]? = some u → ls[i]? = some l → By w u l) : Rw (w.alloc (.cells us.toArray 23)) (.slice (some ⟨w.heap.size, 0, none⟩) ls.length ls.length) ls :=
  ⟨w.heap.size, us, rfl, hus, fun i u hu => by rw [cell_top rfl]; simpa using hu, fun i u l hu hl => By.up (xs := l) (hy i u l hu hl) ((Below.refl _ _).alloc (Nat.le_refl _) _) (Nat.le_refl _)⟩
theorem Rw.made3 {x y z : Value} {k l m : List Nat} (w : World) (hx : By w x k) (hy : By w y l) (hz : By w z m) : Rw (w.alloc (.cells #[x, y, z] 23)) (.slice (some ⟨w.heap.size, 0, none⟩) 3 3) [k, l, m] :=
  Rw.made [x, y, z] [k, l, m] w rfl fun i u q hu hq => by
    match i, hu, hq with
    | 0, hu, hq => cases hu; cases hq; exact hx
    | 1, hu, hq => cases hu; cases hq; exact hy
    | 2, hu, hq => cases hu; cases hq; exact hz
theorem yields_rw3 {o : Oper} {a : Act} {w : World} (x y z : Operand) (ho : o.op = .buildSlice 42 3 #[(0, x), (1, y), (2, z)]) {u v t : Value} {k l m : List Nat} (hx : a.eval x = u) (hy : a.eval y = v) (hz : a.eval z = t) (bx : By w u k) (by_ : By w v l) (bz : By w t m) : YieldsP Tryd.prog o a w (MP.rw_ [k, l, m]).p := by
  have r := Rw.made3 w bx by_ bz
  obtain ⟨a1, c1, rfl, _⟩ := bx
  obtain ⟨a2, c2, rfl, _⟩ := by_
  obtain ⟨a3, c3, rfl, _⟩ := bz
  have e : (execOp a.eval o).run Tryd.prog w = .ok (.value (.slice (some ⟨w.heap.size, 0, none⟩) 3 3)) (w.alloc (.cells #[.slice a1 k.length c1, .slice a2 l.length c2, .slice a3 m.length c3] 23)) := by
    generalize a.eval = ev at *
    unfold execOp
    simp [ho, hx, hy, hz, go_sem]
  unfold YieldsP
  rw [e]
  exact ⟨r, (Below.refl _ _).alloc (Nat.le_refl _) _⟩
end Go.Proofs.YtfknkfninjjgbabDoor
