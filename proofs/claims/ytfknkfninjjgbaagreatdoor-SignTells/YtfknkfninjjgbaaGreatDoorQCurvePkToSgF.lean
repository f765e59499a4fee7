/- Texts that were joined: CurvePk, Len, LenW, ScalarIs, Jn, AppZ, AppF, Made, SgF. -/
import Derived.Test.YtfknkfninjjgbaaGreatDoorQOfB
import Derived.Test.YtfknkfninjjgbaaGreatDoorQShlToCvPk
import Derived.Lib.Tables
import Derived.Lib.BitFns
import Derived.Test.YtfknkfninjjgbaaGreatDoorQScDToScF
import Derived.LoopN
import Derived.Test.YtfknkfninjjgbaaGreatDoorQBKToCpy
import Derived.Test.YtfknkfninjjgbaaGreatDoorQUpToUpS
import Derived.Test.YtfknkfninjjgbaaGreatDoorRows
import Derived.Shelf.Bytes.SlJoin
import Derived.Lib.AppendZerosOnto
import Derived.ArgAppend
import Derived.Test.YtfknkfninjjgbaaGreatDoorQKnToDNum
import Derived.Test.YtfknkfninjjgbaaGreatDoorQSgMToSgTb
import Derived.Test.YtfknkfninjjgbaaGreatDoorQAdNToFiF
import Derived.Test.YtfknkfninjjgbaaGreatDoorQCvTmToCurveIs
import Derived.Test.YtfknkfninjjgbaaGreatDoorQYcToIntN
import Derived.Test.YtfknkfninjjgbaaGreatDoorQUpVToKnO
/- Package curve, as it landed: Unpack. -/
namespace Go.Proofs.YtfknkfninjjgbaaGreatDoor
open Go.RowKit
attribute [local go_sem] World.cell?_alloc_some cell_alloc2 cell_alloc3 cell_alloc4 frozen?_alloc_cells frozen_out
set_option linter.unusedSimpArgs false
/-- The point that the bytes could tell. -/
def may (n : Nat) : Cv.Pt := (if n / 2 ^ 255 % 2 = 0 then F.root (Cv.xx (n % 2 ^ 255 % F.p)) else F.sub 0 (F.root (Cv.xx (n % 2 ^ 255 % F.p))), n % 2 ^ 255 % F.p)
end Go.Proofs.YtfknkfninjjgbaaGreatDoor

/- The contracts of math/bits.Len64 and limb.Len: how many bits are needed. -/
namespace Go.Proofs.YtfknkfninjjgbaaGreatDoor
open Go.RowKit
end Go.Proofs.YtfknkfninjjgbaaGreatDoor

/- How many bits a number needs, and the contract of limb.Len. -/
namespace Go.Proofs.YtfknkfninjjgbaaGreatDoor
open Go.RowKit
end Go.Proofs.YtfknkfninjjgbaaGreatDoor

/- Package scalar, as it landed: Inv. -/
namespace Go.Proofs.YtfknkfninjjgbaaGreatDoor
open Go.RowKit
attribute [local go_sem] World.cell?_alloc_some cell_alloc2 cell_alloc3 cell_alloc4 frozen?_alloc_cells frozen_out
set_option linter.unusedSimpArgs false
end Go.Proofs.YtfknkfninjjgbaaGreatDoor

/- bytes.Join, by the library's contract; a row of slices of bytes that has been made. -/
namespace Go.Proofs.YtfknkfninjjgbaaGreatDoor
open Go.RowKit
set_option linter.unusedSimpArgs false
def jn_ren : Go.Shelf.Ren := ⟨fun | 14 => 63 | 15 => 100 | n => n, fun | 0 => 0 | 3 => 3 | 4 => 4 | 9 => 9 | 20 => 20 | 22 => 23 | 26 => 105 | 5 => 5 | n => n, fun n => n⟩
theorem jn_lays : SlLaysJ.n14 Tryz.prog jn_ren := {
 mixed := by kernel_rfl
 f14 := Tryz.func63.trans (congrArg some (by kernel_rfl))
 f15 := Tryz.func100.trans (congrArg some (by kernel_rfl))
 t0 := Tryz.underlying0
 a0 := Tryz.isAgg0
 z0 := Tryz.sizeOf0
 v0 := Tryz.zeroValue0
 t3 := Tryz.underlying3
 a3 := Tryz.isAgg3
 z3 := Tryz.sizeOf3
 v3 := Tryz.zeroValue3
 t4 := Tryz.underlying4
 a4 := Tryz.isAgg4
 z4 := Tryz.sizeOf4
 v4 := Tryz.zeroValue4
 t9 := Tryz.underlying9
 a9 := Tryz.isAgg9
 z9 := Tryz.sizeOf9
 v9 := Tryz.zeroValue9
 t20 := Tryz.underlying20
 a20 := Tryz.isAgg20
 z20 := Tryz.sizeOf20
 v20 := Tryz.zeroValue20
 t22 := Tryz.underlying23
 a22 := Tryz.isAgg23
 z22 := Tryz.sizeOf23
 v22 := Tryz.zeroValue23
 t26 := Tryz.underlying105
 a26 := Tryz.isAgg105
 z26 := Tryz.sizeOf105
 v26 := Tryz.zeroValue105
 t5 := Tryz.underlying5
 z5 := Tryz.sizeOf5
 i5 := by kernel_rfl }
/-- Block g holds slices of these bytes. -/
def Rw (w : World) (v : Value) (ls : List (List Nat)) : Prop := ∃ (g : Nat) (us : List Value), v = .slice (some ⟨g, 0, none⟩) ls.length ls.length ∧ us.length = ls.length ∧ (∀ (i : Nat) u, us[i]? = some u → w.cell? ⟨g, i, none⟩ = some u) ∧ ∀ (i : Nat) u l, us[i]? = some u → ls[i]? = some l → By w u l
theorem Rw.up {W w1 : World} {v : Value} {ls : List (List Nat)} (h : Rw W v ls) (hb : Below W.heap.size W w1) : Rw w1 v ls := by
 obtain ⟨g, us, e, h1, h2, h3⟩ := h
 refine ⟨g, us, e, h1, fun i u hu => ?_, fun i u l hu hl => By.up (xs := l) (h3 i u l hu hl) hb (Nat.le_refl _)⟩
 have hlt : g < W.heap.size := lt_of_cellB (h2 i u hu)
 exact (hb.cell (p := ⟨g, i, none⟩) hlt).trans (h2 i u hu)
def MP.rw_ (ls : List (List Nat)) : MP := ⟨fun v w => Rw w v ls, fun h hb => Rw.up h hb⟩
def u8s (l : List Nat) : List UInt8 := l.map UInt8.ofNat
theorem u8s_length (l : List Nat) : (u8s l).length = l.length := by simp [u8s]
theorem By.holds {w : World} {v : Value} {l : List Nat} (h : By w v l) (lo : ∀ x ∈ l, x < 256) : Lib.HoldsBytes w v (u8s l) := by
 obtain ⟨a, c, e, h1, h2, h3⟩ := h
 refine ⟨a, c, by rw [u8s_length]; exact e, fun ha => ?_, fun b hb i x hx => ?_⟩
 ·have := h2 ha
  have : l.length = 0 := by omega
  rw [List.length_eq_zero_iff.1 this]
  rfl
 ·have hi : i < l.length := by
   have := (List.getElem?_eq_some_iff.1 hx).1
   rwa [u8s_length] at this
  obtain ⟨g, o, e2, hc⟩ := h3 (by omega)
  obtain rfl : b = ⟨g, o, none⟩ := by rw [e2] at hb; exact (Option.some.inj hb).symm
  have hv : x.toNat = l[i] := by
   have hx' := (List.getElem?_eq_some_iff.1 hx).2
   simp only [u8s, List.getElem_map] at hx'
   rw [← hx']
   simp only [UInt8.toNat_ofNat']
   exact Nat.mod_eq_of_lt (lo _ (List.getElem_mem hi))
  rw [hv, Addr.add_lit, hc i hi]
  simp [b8, hi]
theorem fresh_by {w : World} {B : Nat} {v : Value} {l : List Nat} (lo : ∀ x ∈ l, x < 256) (h : Lib.FreshBytes B w v (u8s l)) : By w v l := by
 obtain ⟨g, cap, zs, e, _, hle, _, hz, hr, hb, hc, _⟩ := h
 rw [u8s_length] at e hle hb
 rw [e]
 refine By.of_cells hle fun j hj => ?_
 rw [Nat.zero_add, hc j (by omega)]
 have hz' : j < zs.length := by omega
 have h1 : (u8s l)[j]? = some (UInt8.ofNat l[j]) := by simp [u8s, hj]
 rw [← hb] at h1
 have h2 : (Lib.bytesOf (zs.take l.length))[j]? = some (UInt8.ofNat zs[j].toNat) := by
  rw [Lib.bytesOf, List.getElem?_map, List.getElem?_take, if_pos hj, List.getElem?_eq_getElem hz']
  rfl
 have h3 := hr zs[j] (List.getElem_mem hz')
 rw [h2] at h1
 have h4 := congrArg UInt8.toNat (Option.some.inj h1)
 simp only [UInt8.toNat_ofNat'] at h4
 rw [Nat.mod_eq_of_lt (lo _ (List.getElem_mem hj)), Nat.mod_eq_of_lt (by omega)] at h4
 have h5 : zs.getD j 0 = (l[j] : Int) := by
  rw [List.getD_eq_getElem?_getD, List.getElem?_eq_getElem hz', Option.getD_some]
  omega
 rw [h5]
 simp [b8, hj]
theorem u8s_flatten (ls : List (List Nat)) : Lib.join (ls.map u8s) [] = u8s ls.flatten := by
 cases ls with
 | nil => rfl
 | cons x r =>
  rw [List.map_cons, Lib.join_cons]
  unfold Lib.joinTail u8s
  simp [List.map_flatten, Function.comp_def]
theorem u8s_lens (ls : List (List Nat)) : Lib.lens (ls.map u8s) = (ls.map List.length).sum := by
 unfold Lib.lens
 rw [List.map_map]
 congr 1
 exact List.map_congr_left fun l _ => u8s_length l
/-- bytes.Join without a separator: one behind the other. -/
theorem join_fun (ls : List (List Nat)) (h2 : 2 ≤ ls.length) (lo : ∀ l ∈ ls, ∀ x ∈ l, x < 256) (hn : ls.length ≤ 140737488355328) (hl : (ls.map List.length).sum ≤ 140737488355328) (v : Value) (w : World) (hv : Rw w v ls) :
  Calls Tryz.prog 63 #[v, .slice none 0 0] w fun e w' => (∃ v', e = .returned v' ∧ By w' v' ls.flatten) ∧ Below w.heap.size w w' := by
 obtain ⟨g, us, rfl, hus, hc, hy⟩ := hv
 have hP : Lib.PartsAt w ⟨g, 0, none⟩ us (ls.map u8s) := by
  refine ⟨by rw [List.length_map]; exact hus, fun i u hu => ?_, fun i u l hu hl => ?_⟩
  ·rw [Addr.add_lit, Nat.zero_add]
   exact hc i u hu
  ·rw [List.getElem?_map] at hl
   cases hq : ls[i]? with
   | none => rw [hq] at hl; cases hl
   | some l' =>
    rw [hq] at hl
    obtain rfl := Option.some.inj hl
    exact By.holds (l := l') (hy i u l' hu hq) (lo l' (List.mem_of_getElem? hq))
 have := Any.bytes_Join_many jn_lays g 0 ls.length ls.length us (ls.map u8s) (.slice none 0 0) [] w (by rw [List.length_map]) h2 hP (Nat.le_refl _) ⟨none, 0, rfl, fun _ => rfl, fun a ha => by cases ha⟩ hn (by rw [u8s_lens]; simpa using hl)
 refine Calls.mono this ?_
 rintro e w' ⟨v', he, hf, hb⟩
 rw [u8s_flatten] at hf
 exact ⟨⟨v', he, fresh_by (fun x hx => by obtain ⟨l, hl', hx'⟩ := List.mem_flatten.1 hx; exact lo l hl' x hx') hf⟩, hb⟩
/-- []..{..}: a row of slices is made. -/
theorem Rw.made (us : List Value) (ls : List (List Nat)) (w : World) (hus : us.length = ls.length) (hy : ∀ (i : Nat) u l, us[i]? = some u → ls[i]? = some l → By w u l) : Rw (w.alloc (.cells us.toArray 23)) (.slice (some ⟨w.heap.size, 0, none⟩) ls.length ls.length) ls :=
 ⟨w.heap.size, us, rfl, hus, fun i u hu => by rw [cell_top rfl]; simpa using hu, fun i u l hu hl => By.up (xs := l) (hy i u l hu hl) ((Below.refl _ _).alloc (Nat.le_refl _) _) (Nat.le_refl _)⟩
theorem Rw.made2 {x y : Value} {k l : List Nat} (w : World) (hx : By w x k) (hy : By w y l) : Rw (w.alloc (.cells #[x, y] 23)) (.slice (some ⟨w.heap.size, 0, none⟩) 2 2) [k, l] :=
 Rw.made [x, y] [k, l] w rfl fun i u q hu hq => by
  match i, hu, hq with
  | 0, hu, hq => cases hu; cases hq; exact hx
  | 1, hu, hq => cases hu; cases hq; exact hy
theorem Rw.made3 {x y z : Value} {k l m : List Nat} (w : World) (hx : By w x k) (hy : By w y l) (hz : By w z m) : Rw (w.alloc (.cells #[x, y, z] 23)) (.slice (some ⟨w.heap.size, 0, none⟩) 3 3) [k, l, m] :=
 Rw.made [x, y, z] [k, l, m] w rfl fun i u q hu hq => by
  match i, hu, hq with
  | 0, hu, hq => cases hu; cases hq; exact hx
  | 1, hu, hq => cases hu; cases hq; exact hy
  | 2, hu, hq => cases hu; cases hq; exact hz
theorem yields_rw3 {o : Oper} {a : Act} {w : World} (x y z : Operand) (ho : o.op = .buildSlice 105 3 #[(0, x), (1, y), (2, z)]) {u v t : Value} {k l m : List Nat} (hx : a.eval x = u) (hy : a.eval y = v) (hz : a.eval z = t) (bx : By w u k) (by_ : By w v l) (bz : By w t m) : YieldsP Tryz.prog o a w (MP.rw_ [k, l, m]).p := by
 have r := Rw.made3 w bx by_ bz
 obtain ⟨a1, c1, rfl, _⟩ := bx
 obtain ⟨a2, c2, rfl, _⟩ := by_
 obtain ⟨a3, c3, rfl, _⟩ := bz
 have e : (execOp a.eval o).run Tryz.prog w = .ok (.value (.slice (some ⟨w.heap.size, 0, none⟩) 3 3)) (w.alloc (.cells #[.slice a1 k.length c1, .slice a2 l.length c2, .slice a3 m.length c3] 23)) := by
  generalize a.eval = ev at *
  unfold execOp
  simp [ho, hx, hy, hz, go_sem]
 unfold YieldsP
 rw [e]
 exact ⟨r, (Below.refl _ _).alloc (Nat.le_refl _) _⟩
end Go.Proofs.YtfknkfninjjgbaaGreatDoor

/- append of as many bytes 0 as a number says (append of a made slice) to a row of bytes that the call made. -/
namespace Go.Proofs.YtfknkfninjjgbaaGreatDoor
open Go.RowKit
set_option linter.unusedSimpArgs false
end Go.Proofs.YtfknkfninjjgbaaGreatDoor

/- append of bytes, and of bytes 0, onto a slice that has no room left. -/
namespace Go.Proofs.YtfknkfninjjgbaaGreatDoor
open Go.RowKit
set_option linter.unusedSimpArgs false
def MP.byF (xs : List Nat) : MP := ⟨fun v w => By w v xs, fun h hb => h.up hb (Nat.le_refl _)⟩
end Go.Proofs.YtfknkfninjjgbaaGreatDoor

/- A variable that is made among the operations of a drawn region. -/
namespace Go.Proofs.YtfknkfninjjgbaaGreatDoor
open Go.RowKit
set_option linter.unusedSimpArgs false
/-- A block that has been made, from B on. -/
def MP.made (B : Nat) (vs : List Value) : MP := ⟨fun v w => ∃ g, v = .pointer (some ⟨g, 0, none⟩) ∧ B ≤ g ∧ KBlk w g vs, fun ⟨g, e, h, hb⟩ hk => ⟨g, e, h, hb.up hk⟩⟩
theorem KBlk.made (w : World) (vs : List Value) (t : TypeId) : KBlk (w.alloc (.cells vs.toArray t)) w.heap.size vs := KBlk.of (t := t) (by show (w.heap.push _)[w.heap.size]? = _; simp)
theorem yields_mk {o : Oper} {a : Act} {w : World} {B : Nat} {T : TypeId} {zs : List Value} (ho : o.op = .alloc T) (hz : ∀ w, (zeroValue T).run Tryz.prog w = .ok (.agg zs.toArray) w) (hB : B ≤ w.heap.size) : YieldsP Tryz.prog o a w (MP.made B zs).p := by
 have e : (execOp a.eval o).run Tryz.prog w = .ok (.value (.pointer (some ⟨w.heap.size, 0, none⟩))) (w.alloc (.cells zs.toArray T)) := by
  unfold execOp
  simp [ho, go_sem, hz]
 unfold YieldsP
 rw [e]
 exact ⟨⟨_, rfl, hB, KBlk.made w zs _⟩, (Below.refl _ _).alloc (Nat.le_refl _) _⟩
end Go.Proofs.YtfknkfninjjgbaaGreatDoor

/- Package sign, as it landed: times, sum, packedBase, orOne, digest, New. -/
namespace Go.Proofs.YtfknkfninjjgbaaGreatDoor
open Go.RowKit
attribute [local go_sem] World.cell?_alloc_some cell_alloc2 cell_alloc3 cell_alloc4 frozen?_alloc_cells frozen_out
attribute [local simp] MP.eq_p
set_option linter.unusedSimpArgs false
set_option maxHeartbeats 1000000 in
theorem sgTimes_walk (n x1 y1 x y : Nm)
  (A1 : ∀ w, Calls Tryz.prog 92 #[N n, Wv x1 y1] w fun e w' => e = .returned (.tuple #[Wv x y, .int .i64 0]) ∧ Below w.heap.size w w')
  (w : World) :
  Calls Tryz.prog 51 #[N n, Wv x1 y1] w fun e w' => e = .returned (Wv x y) ∧ Below w.heap.size w w' := by
 go_enter Tryz.func51, Tryz.ntmps51
 have s0 : Hid (Kn (kzP (kalP (kal4 w (n)) (x1) (y1))) [(w.heap.size + 1 + 1, zz8), (w.heap.size + 1, (c8 (x1) (y1))), (w.heap.size, (c4 (n)))]) := ((((Kn.nil w).al (c4 (n)) 26 rfl).al (c8 (x1) (y1)) 59 (by simp)).al zz8 59 (by simp))
 have b0 : Hid (Below w.heap.size w (kzP (kalP (kal4 w (n)) (x1) (y1)))) := ((((Below.refl _ _).alloc (Nat.le_refl _) _).alloc (by simp <;> omega) _).alloc (by simp <;> omega) _)
 have un_0 : (kzP (kalP (kal4 w (n)) (x1) (y1))).cell? ⟨w.heap.size, 0, none⟩ = some (.int .u64 (n).a) := Kn.get s0.out 2 0 rfl rfl
 have un_1 : (kzP (kalP (kal4 w (n)) (x1) (y1))).cell? ⟨w.heap.size, 1, none⟩ = some (.int .u64 (n).b) := Kn.get s0.out 2 1 rfl rfl
 have un_2 : (kzP (kalP (kal4 w (n)) (x1) (y1))).cell? ⟨w.heap.size, 2, none⟩ = some (.int .u64 (n).c) := Kn.get s0.out 2 2 rfl rfl
 have un_3 : (kzP (kalP (kal4 w (n)) (x1) (y1))).cell? ⟨w.heap.size, 3, none⟩ = some (.int .u64 (n).d) := Kn.get s0.out 2 3 rfl rfl
 have up_0 : (kzP (kalP (kal4 w (n)) (x1) (y1))).cell? ⟨w.heap.size + 1, 0, none⟩ = some (.int .u64 (x1).a) := Kn.get s0.out 1 0 rfl rfl
 have up_1 : (kzP (kalP (kal4 w (n)) (x1) (y1))).cell? ⟨w.heap.size + 1, 1, none⟩ = some (.int .u64 (x1).b) := Kn.get s0.out 1 1 rfl rfl
 have up_2 : (kzP (kalP (kal4 w (n)) (x1) (y1))).cell? ⟨w.heap.size + 1, 2, none⟩ = some (.int .u64 (x1).c) := Kn.get s0.out 1 2 rfl rfl
 have up_3 : (kzP (kalP (kal4 w (n)) (x1) (y1))).cell? ⟨w.heap.size + 1, 3, none⟩ = some (.int .u64 (x1).d) := Kn.get s0.out 1 3 rfl rfl
 have up_4 : (kzP (kalP (kal4 w (n)) (x1) (y1))).cell? ⟨w.heap.size + 1, 4, none⟩ = some (.int .u64 (y1).a) := Kn.get s0.out 1 4 rfl rfl
 have up_5 : (kzP (kalP (kal4 w (n)) (x1) (y1))).cell? ⟨w.heap.size + 1, 5, none⟩ = some (.int .u64 (y1).b) := Kn.get s0.out 1 5 rfl rfl
 have up_6 : (kzP (kalP (kal4 w (n)) (x1) (y1))).cell? ⟨w.heap.size + 1, 6, none⟩ = some (.int .u64 (y1).c) := Kn.get s0.out 1 6 rfl rfl
 have up_7 : (kzP (kalP (kal4 w (n)) (x1) (y1))).cell? ⟨w.heap.size + 1, 7, none⟩ = some (.int .u64 (y1).d) := Kn.get s0.out 1 7 rfl rfl
 go_wp2_with fail
 clear un_0 un_1 un_2 un_3 up_0 up_1 up_2 up_3 up_4 up_5 up_6 up_7
 refine (A1 _).mono ?_
 rintro e w1 ⟨rfl, hb1⟩
 have s1 : Hid (Kn w1 _) := s0.out.up hb1
 have b1 : Hid (Below w.heap.size w w1) := b0.out.trans (hb1.mono b0.out.size)
 have z1 := b1.out.size
 clear hb1 s0 b0
 have s2 : Hid (Kn (kalP w1 (x) (y)) [(w1.heap.size, (c8 (x) (y))), (w.heap.size + 1 + 1, zz8), (w.heap.size + 1, (c8 (x1) (y1))), (w.heap.size, (c4 (n)))]) := s1.out.al (c8 (x) (y)) 59 rfl
 have b2 : Hid (Below w.heap.size w (kalP w1 (x) (y))) := b1.out.alloc b1.out.size _
 have z2 := b1.out.size
 clear s1 b1
 have us_0 : (kalP w1 (x) (y)).cell? ⟨w1.heap.size, 0, none⟩ = some (.int .u64 (x).a) := Kn.get s2.out 0 0 rfl rfl
 have us_1 : (kalP w1 (x) (y)).cell? ⟨w1.heap.size, 1, none⟩ = some (.int .u64 (x).b) := Kn.get s2.out 0 1 rfl rfl
 have us_2 : (kalP w1 (x) (y)).cell? ⟨w1.heap.size, 2, none⟩ = some (.int .u64 (x).c) := Kn.get s2.out 0 2 rfl rfl
 have us_3 : (kalP w1 (x) (y)).cell? ⟨w1.heap.size, 3, none⟩ = some (.int .u64 (x).d) := Kn.get s2.out 0 3 rfl rfl
 have us_4 : (kalP w1 (x) (y)).cell? ⟨w1.heap.size, 4, none⟩ = some (.int .u64 (y).a) := Kn.get s2.out 0 4 rfl rfl
 have us_5 : (kalP w1 (x) (y)).cell? ⟨w1.heap.size, 5, none⟩ = some (.int .u64 (y).b) := Kn.get s2.out 0 5 rfl rfl
 have us_6 : (kalP w1 (x) (y)).cell? ⟨w1.heap.size, 6, none⟩ = some (.int .u64 (y).c) := Kn.get s2.out 0 6 rfl rfl
 have us_7 : (kalP w1 (x) (y)).cell? ⟨w1.heap.size, 7, none⟩ = some (.int .u64 (y).d) := Kn.get s2.out 0 7 rfl rfl
 have ur_0 : (kalP w1 (x) (y)).cell? ⟨w.heap.size + 1 + 1, 0, none⟩ = some (.int .u64 0) := Kn.get s2.out 1 0 rfl rfl
 have ur_1 : (kalP w1 (x) (y)).cell? ⟨w.heap.size + 1 + 1, 1, none⟩ = some (.int .u64 0) := Kn.get s2.out 1 1 rfl rfl
 have ur_2 : (kalP w1 (x) (y)).cell? ⟨w.heap.size + 1 + 1, 2, none⟩ = some (.int .u64 0) := Kn.get s2.out 1 2 rfl rfl
 have ur_3 : (kalP w1 (x) (y)).cell? ⟨w.heap.size + 1 + 1, 3, none⟩ = some (.int .u64 0) := Kn.get s2.out 1 3 rfl rfl
 have ur_4 : (kalP w1 (x) (y)).cell? ⟨w.heap.size + 1 + 1, 4, none⟩ = some (.int .u64 0) := Kn.get s2.out 1 4 rfl rfl
 have ur_5 : (kalP w1 (x) (y)).cell? ⟨w.heap.size + 1 + 1, 5, none⟩ = some (.int .u64 0) := Kn.get s2.out 1 5 rfl rfl
 have ur_6 : (kalP w1 (x) (y)).cell? ⟨w.heap.size + 1 + 1, 6, none⟩ = some (.int .u64 0) := Kn.get s2.out 1 6 rfl rfl
 have ur_7 : (kalP w1 (x) (y)).cell? ⟨w.heap.size + 1 + 1, 7, none⟩ = some (.int .u64 0) := Kn.get s2.out 1 7 rfl rfl
 have ur_z : ∀ j, (kalP w1 (x) (y)).frozen? ⟨w.heap.size + 1 + 1, j, none⟩ = false := Kn.fz s2.out 1 rfl
 go_wp2_with fail
 clear us_0 us_1 us_2 us_3 us_4 us_5 us_6 us_7 ur_0 ur_1 ur_2 ur_3 ur_4 ur_5 ur_6 ur_7 ur_z
 have uro_0 : (kalP w1 (x) (y)).cell? ⟨w.heap.size + 1 + 1, 0, none⟩ = some (.int .u64 0) := Kn.get s2.out 1 0 rfl rfl
 have uro_1 : (kalP w1 (x) (y)).cell? ⟨w.heap.size + 1 + 1, 1, none⟩ = some (.int .u64 0) := Kn.get s2.out 1 1 rfl rfl
 have uro_2 : (kalP w1 (x) (y)).cell? ⟨w.heap.size + 1 + 1, 2, none⟩ = some (.int .u64 0) := Kn.get s2.out 1 2 rfl rfl
 have uro_3 : (kalP w1 (x) (y)).cell? ⟨w.heap.size + 1 + 1, 3, none⟩ = some (.int .u64 0) := Kn.get s2.out 1 3 rfl rfl
 have uro_4 : (kalP w1 (x) (y)).cell? ⟨w.heap.size + 1 + 1, 4, none⟩ = some (.int .u64 0) := Kn.get s2.out 1 4 rfl rfl
 have uro_5 : (kalP w1 (x) (y)).cell? ⟨w.heap.size + 1 + 1, 5, none⟩ = some (.int .u64 0) := Kn.get s2.out 1 5 rfl rfl
 have uro_6 : (kalP w1 (x) (y)).cell? ⟨w.heap.size + 1 + 1, 6, none⟩ = some (.int .u64 0) := Kn.get s2.out 1 6 rfl rfl
 have uro_7 : (kalP w1 (x) (y)).cell? ⟨w.heap.size + 1 + 1, 7, none⟩ = some (.int .u64 0) := Kn.get s2.out 1 7 rfl rfl
 have uro_z : ∀ j, (kalP w1 (x) (y)).frozen? ⟨w.heap.size + 1 + 1, j, none⟩ = false := Kn.fz s2.out 1 rfl
 have s3 : Hid (Kn (st8 (kalP w1 (x) (y)) (w.heap.size + 1 + 1) (x) (y)) [(w.heap.size + 1 + 1, (c8 (x) (y))), (w1.heap.size, (c8 (x) (y))), (w.heap.size + 1, (c8 (x1) (y1))), (w.heap.size, (c4 (n)))]) := Kn.st8 (L := [(w1.heap.size, (c8 (x) (y))), (w.heap.size + 1, (c8 (x1) (y1))), (w.heap.size, (c4 (n)))]) (s2.out.front 1 rfl) (x) (y)
 have b3 : Hid (Below w.heap.size w (st8 (kalP w1 (x) (y)) (w.heap.size + 1 + 1) (x) (y))) := below_st8 b2.out (by omega)
 clear s2 b2
 have urr_0 : (st8 (kalP w1 (x) (y)) (w.heap.size + 1 + 1) (x) (y)).cell? ⟨w.heap.size + 1 + 1, 0, none⟩ = some (.int .u64 (x).a) := Kn.get s3.out 0 0 rfl rfl
 have urr_1 : (st8 (kalP w1 (x) (y)) (w.heap.size + 1 + 1) (x) (y)).cell? ⟨w.heap.size + 1 + 1, 1, none⟩ = some (.int .u64 (x).b) := Kn.get s3.out 0 1 rfl rfl
 have urr_2 : (st8 (kalP w1 (x) (y)) (w.heap.size + 1 + 1) (x) (y)).cell? ⟨w.heap.size + 1 + 1, 2, none⟩ = some (.int .u64 (x).c) := Kn.get s3.out 0 2 rfl rfl
 have urr_3 : (st8 (kalP w1 (x) (y)) (w.heap.size + 1 + 1) (x) (y)).cell? ⟨w.heap.size + 1 + 1, 3, none⟩ = some (.int .u64 (x).d) := Kn.get s3.out 0 3 rfl rfl
 have urr_4 : (st8 (kalP w1 (x) (y)) (w.heap.size + 1 + 1) (x) (y)).cell? ⟨w.heap.size + 1 + 1, 4, none⟩ = some (.int .u64 (y).a) := Kn.get s3.out 0 4 rfl rfl
 have urr_5 : (st8 (kalP w1 (x) (y)) (w.heap.size + 1 + 1) (x) (y)).cell? ⟨w.heap.size + 1 + 1, 5, none⟩ = some (.int .u64 (y).b) := Kn.get s3.out 0 5 rfl rfl
 have urr_6 : (st8 (kalP w1 (x) (y)) (w.heap.size + 1 + 1) (x) (y)).cell? ⟨w.heap.size + 1 + 1, 6, none⟩ = some (.int .u64 (y).c) := Kn.get s3.out 0 6 rfl rfl
 have urr_7 : (st8 (kalP w1 (x) (y)) (w.heap.size + 1 + 1) (x) (y)).cell? ⟨w.heap.size + 1 + 1, 7, none⟩ = some (.int .u64 (y).d) := Kn.get s3.out 0 7 rfl rfl
 refine bodyPost_ret (v := Wv x y) ?_ rfl ⟨rfl, b3.out⟩
 show (results Tryz.f51 _).run Tryz.prog (st8 (kalP w1 (x) (y)) (w.heap.size + 1 + 1) (x) (y)) = .ok _ (st8 (kalP w1 (x) (y)) (w.heap.size + 1 + 1) (x) (y))
 clear s3 b3
 generalize (st8 (kalP w1 (x) (y)) (w.heap.size + 1 + 1) (x) (y)) = W9 at *
 simp [results, Tryz.results51, go_sem, urr_0, urr_1, urr_2, urr_3, urr_4, urr_5, urr_6, urr_7]
theorem sgTimes_fun (n : Nm) (on : n.ok) (P : Cv.Pt) (hP : Cv.On P) (w : World) : Calls Tryz.prog 51 #[N n, pv P] w fun e w' => e = .returned (pv (Cv.times n.nat P)) ∧ Below w.heap.size w w' := sgTimes_walk _ _ _ _ _ (cTimesC n P on hP) w
set_option maxHeartbeats 1000000 in
theorem sgBase_walk (n px py tx ty : Nm) (b : Nat)
  (CB : ∀ w, Calls Tryz.prog 52 #[] w fun e w' => e = .returned (Wv px py) ∧ Below w.heap.size w w')
  (TM : ∀ w, Calls Tryz.prog 51 #[N n, Wv px py] w fun e w' => e = .returned (Wv tx ty) ∧ Below w.heap.size w w')
  (PK : ∀ w, Calls Tryz.prog 50 #[Wv tx ty] w fun e w' => e = .returned (.tuple #[.agg (bR (b)).toArray, .int .i64 0]) ∧ Below w.heap.size w w')
  (w : World) :
  Calls Tryz.prog 19 #[N n] w fun e w' => e = .returned (bV b) ∧ Below w.heap.size w w' := by
 go_enter Tryz.func19, Tryz.ntmps19
 have s0 : Hid (Kn ((kal4 w (n)).alloc (.cells #[Value.int IntKind.u8 0, .int .u8 0, .int .u8 0, .int .u8 0, .int .u8 0, .int .u8 0, .int .u8 0, .int .u8 0, .int .u8 0, .int .u8 0, .int .u8 0, .int .u8 0, .int .u8 0, .int .u8 0, .int .u8 0, .int .u8 0, .int .u8 0, .int .u8 0, .int .u8 0, .int .u8 0, .int .u8 0, .int .u8 0, .int .u8 0, .int .u8 0, .int .u8 0, .int .u8 0, .int .u8 0, .int .u8 0, .int .u8 0, .int .u8 0, .int .u8 0, .int .u8 0] 22)) [(w.heap.size + 1, bZ), (w.heap.size, (c4 (n)))]) := (((Kn.nil w).al (c4 (n)) 26 rfl).al bZ 22 (by simp))
 have b0 : Hid (Below w.heap.size w ((kal4 w (n)).alloc (.cells #[Value.int IntKind.u8 0, .int .u8 0, .int .u8 0, .int .u8 0, .int .u8 0, .int .u8 0, .int .u8 0, .int .u8 0, .int .u8 0, .int .u8 0, .int .u8 0, .int .u8 0, .int .u8 0, .int .u8 0, .int .u8 0, .int .u8 0, .int .u8 0, .int .u8 0, .int .u8 0, .int .u8 0, .int .u8 0, .int .u8 0, .int .u8 0, .int .u8 0, .int .u8 0, .int .u8 0, .int .u8 0, .int .u8 0, .int .u8 0, .int .u8 0, .int .u8 0, .int .u8 0] 22))) := (((Below.refl _ _).alloc (Nat.le_refl _) _).alloc (by simp <;> omega) _)
 go_wp2_with (first | simp only [zero_b32])
 refine wp_region_alloc1 7 (.cells #[Value.int IntKind.u8 0, .int .u8 0, .int .u8 0, .int .u8 0, .int .u8 0, .int .u8 0, .int .u8 0, .int .u8 0, .int .u8 0, .int .u8 0, .int .u8 0, .int .u8 0, .int .u8 0, .int .u8 0, .int .u8 0, .int .u8 0, .int .u8 0, .int .u8 0, .int .u8 0, .int .u8 0, .int .u8 0, .int .u8 0, .int .u8 0, .int .u8 0, .int .u8 0, .int .u8 0, .int .u8 0, .int .u8 0, .int .u8 0, .int .u8 0, .int .u8 0, .int .u8 0] 22) (by kernel_rfl) (by kernel_rfl) (by kernel_rfl) (by kernel_rfl) (by decide) (fun _ _ d _ _ h => by cases d <;> exact h) rfl rfl (fun _ _ => by kernel_rfl) ?_
 apply Exists.intro
 refine ⟨fun U hU f hf hcl => ?_, fun k1 w1 hb1 hk1 hc1 => ?_⟩
 ·skip
  have un_0 := fun nx => (Kn.get (s0.out.up (hf nx).out) 1 0 rfl rfl : (f nx).cell? ⟨w.heap.size, 0, none⟩ = some (.int .u64 (n).a))
  have un_1 := fun nx => (Kn.get (s0.out.up (hf nx).out) 1 1 rfl rfl : (f nx).cell? ⟨w.heap.size, 1, none⟩ = some (.int .u64 (n).b))
  have un_2 := fun nx => (Kn.get (s0.out.up (hf nx).out) 1 2 rfl rfl : (f nx).cell? ⟨w.heap.size, 2, none⟩ = some (.int .u64 (n).c))
  have un_3 := fun nx => (Kn.get (s0.out.up (hf nx).out) 1 3 rfl rfl : (f nx).cell? ⟨w.heap.size, 3, none⟩ = some (.int .u64 (n).d))
  clear hf
  simp only [List.take_succ_cons, List.take_zero]
  repeat (go_big_quiet_step (first | (go_at_call 52; exact (CB _).mono fun e w'' ⟨he, hb⟩ => ⟨he, hcl.out _ _ hb⟩) | (go_at_call 51; exact (TM _).mono fun e w'' ⟨he, hb⟩ => ⟨he, hcl.out _ _ hb⟩) | (go_at_call 50; exact (PK _).mono fun e w'' ⟨he, hb⟩ => ⟨he, hcl.out _ _ hb⟩)))
  exact wpQuiet_nil rfl
 simp only [List.drop_succ_cons, List.drop_zero]
 have z1 := b0.out.size
 have s1 : Hid (Kn w1 [(k1, bZ), (w.heap.size + 1, bZ), (w.heap.size, (c4 (n)))]) := s0.out.fresh (vs := bZ) hb1.out hk1 hc1.out
 have g1 : w.heap.size ≤ k1 := Nat.le_trans b0.out.size hk1
 have b1 : Hid (Below w.heap.size w w1) := b0.out.trans (hb1.out.mono b0.out.size)
 clear s0 b0 hb1 hc1 hk1
 have s2x : Hid (Kn w1 [(k1, bZ), (w.heap.size + 1, bZ), (w.heap.size, (c4 (n)))]) := s1.out.front 0 rfl
 have b2x : Hid (Below w.heap.size w w1) := b1.out
 have TT2 : Hid (w1.there k1 0 (bR (b)).length) := Kn.there s2x.out 0 rfl (by rw [(bR_length (b)), bZ_length])
 go_wp2_with (first | refine I.wp_store_eq rfl 22 _ _ rfl k1 0 (bR (b)) rfl rfl TT2.out (info_bR (b)) (bR_one (b)) ?_)
 intro w2 hw2
 try simp only [Act.put, List.setIfInBounds_toArray, List.set_cons_succ, List.set_cons_zero]
 have s2 : Hid (Kn w2 [(k1, (bR (b))), (w.heap.size + 1, bZ), (w.heap.size, (c4 (n)))]) := by rw [hw2.out]; exact Kn.put s2x.out (by rw [(bR_length (b)), bZ_length])
 have b2 : Hid (Below w.heap.size w w2) := by rw [hw2.out]; exact I.below_setCells _ _ _ b2x.out g1
 have z2 := b2.out.size
 clear hw2 s2x b2x TT2 s1 b1
 have s3x : Hid (Kn w2 [(w.heap.size + 1, bZ), (k1, (bR (b))), (w.heap.size, (c4 (n)))]) := s2.out.front 1 rfl
 have b3x : Hid (Below w.heap.size w w2) := b2.out
 have TT3 : Hid (w2.there (w.heap.size + 1) 0 (bR (b)).length) := Kn.there s3x.out 0 rfl (by rw [(bR_length (b)), bZ_length])
 go_wp2_with (first | refine wp_ldW rfl 22 _ rfl k1 0 rfl (bR (b)) _ (Kn.rng s2.out 0 rfl) Tryz.underlying22 rfl (info_bR (b)) ?_ | refine I.wp_store_eq rfl 22 _ _ rfl (w.heap.size + 1) 0 (bR (b)) rfl rfl TT3.out (info_bR (b)) (bR_one (b)) ?_)
 intro w3 hw3
 try simp only [Act.put, List.setIfInBounds_toArray, List.set_cons_succ, List.set_cons_zero]
 have s3 : Hid (Kn w3 [(w.heap.size + 1, (bR (b))), (k1, (bR (b))), (w.heap.size, (c4 (n)))]) := by rw [hw3.out]; exact Kn.put s3x.out (by rw [(bR_length (b)), bZ_length])
 have b3 : Hid (Below w.heap.size w w3) := by rw [hw3.out]; exact I.below_setCells _ _ _ b3x.out (by omega)
 have z3 := b3.out.size
 clear hw3 s3x b3x TT3 s2 b2
 go_wp2_with fail
 exact bodyPost_ret (v := bV b) (I.results_cell (b := w.heap.size + 1) rfl rfl (Kn.rng s3.out 0 rfl) Tryz.underlying22 rfl (info_bR (b))) rfl ⟨rfl, b3.out⟩
theorem sgBase_fun (n : Nat) (hn : n < 2 ^ 256) (w : World) : Calls Tryz.prog 19 #[N (nm n)] w fun e w' => e = .returned (bV (Cv.pk (Cv.times n Cv.base))) ∧ Below w.heap.size w w' := by
 have T := sgTimes_fun (nm n) (nm_ok n) Cv.base Cv.base_on
 rw [nm_nat hn] at T
 exact sgBase_walk _ _ _ _ _ _ cBaseC T (cPackC _ (Cv.times_on Cv.base_on n)) w
set_option maxHeartbeats 1000000 in
theorem sgOne_walk (a sa ra : Nm) (c : Int)
  (SS : ∀ w, Calls Tryz.prog 44 #[N a, N ⟨1,0,0,0⟩] w fun e w' => e = .returned (.tuple #[N sa, .int .u64 c]) ∧ Below w.heap.size w w')
  (PK : ∀ w, Calls Tryz.prog 45 #[.int .u64 c, N a, N ⟨1,0,0,0⟩] w fun e w' => e = .returned (N ra) ∧ Below w.heap.size w w')
  (w : World) :
  Calls Tryz.prog 14 #[N a] w fun e w' => e = .returned (N ra) ∧ Below w.heap.size w w' := by
 go_enter Tryz.func14, Tryz.ntmps14
 have s0 : Hid (Kn (kz4 (kal4 w (a))) [(w.heap.size + 1, zz4), (w.heap.size, (c4 (a)))]) := (((Kn.nil w).al (c4 (a)) 26 rfl).al zz4 26 (by simp))
 have b0 : Hid (Below w.heap.size w (kz4 (kal4 w (a)))) := (((Below.refl _ _).alloc (Nat.le_refl _) _).alloc (by simp <;> omega) _)
 go_wp2_with fail
 have s1 : Hid (Kn (kal4 (kz4 (kal4 w (a))) ((⟨1,0,0,0⟩:Nm))) [(w.heap.size + 1 + 1, (c4 ((⟨1,0,0,0⟩:Nm)))), (w.heap.size + 1, zz4), (w.heap.size, (c4 (a)))]) := s0.out.al (c4 ((⟨1,0,0,0⟩:Nm))) 26 (by simp)
 have b1 : Hid (Below w.heap.size w (kal4 (kz4 (kal4 w (a))) ((⟨1,0,0,0⟩:Nm)))) := b0.out.alloc b0.out.size _
 have z1 := b0.out.size
 clear s0 b0
 have ua_0 : (kal4 (kz4 (kal4 w (a))) ((⟨1,0,0,0⟩:Nm))).cell? ⟨w.heap.size, 0, none⟩ = some (.int .u64 (a).a) := Kn.get s1.out 2 0 rfl rfl
 have ua_1 : (kal4 (kz4 (kal4 w (a))) ((⟨1,0,0,0⟩:Nm))).cell? ⟨w.heap.size, 1, none⟩ = some (.int .u64 (a).b) := Kn.get s1.out 2 1 rfl rfl
 have ua_2 : (kal4 (kz4 (kal4 w (a))) ((⟨1,0,0,0⟩:Nm))).cell? ⟨w.heap.size, 2, none⟩ = some (.int .u64 (a).c) := Kn.get s1.out 2 2 rfl rfl
 have ua_3 : (kal4 (kz4 (kal4 w (a))) ((⟨1,0,0,0⟩:Nm))).cell? ⟨w.heap.size, 3, none⟩ = some (.int .u64 (a).d) := Kn.get s1.out 2 3 rfl rfl
 have uone_0 : (kal4 (kz4 (kal4 w (a))) ((⟨1,0,0,0⟩:Nm))).cell? ⟨w.heap.size + 1 + 1, 0, none⟩ = some (.int .u64 ((⟨1,0,0,0⟩:Nm)).a) := Kn.get s1.out 0 0 rfl rfl
 have uone_1 : (kal4 (kz4 (kal4 w (a))) ((⟨1,0,0,0⟩:Nm))).cell? ⟨w.heap.size + 1 + 1, 1, none⟩ = some (.int .u64 ((⟨1,0,0,0⟩:Nm)).b) := Kn.get s1.out 0 1 rfl rfl
 have uone_2 : (kal4 (kz4 (kal4 w (a))) ((⟨1,0,0,0⟩:Nm))).cell? ⟨w.heap.size + 1 + 1, 2, none⟩ = some (.int .u64 ((⟨1,0,0,0⟩:Nm)).c) := Kn.get s1.out 0 2 rfl rfl
 have uone_3 : (kal4 (kz4 (kal4 w (a))) ((⟨1,0,0,0⟩:Nm))).cell? ⟨w.heap.size + 1 + 1, 3, none⟩ = some (.int .u64 ((⟨1,0,0,0⟩:Nm)).d) := Kn.get s1.out 0 3 rfl rfl
 go_wp2_with fail
 clear ua_0 ua_1 ua_2 ua_3 uone_0 uone_1 uone_2 uone_3
 refine (SS _).mono ?_
 rintro e w2 ⟨rfl, hb2⟩
 have s2 : Hid (Kn w2 _) := s1.out.up hb2
 have b2 : Hid (Below w.heap.size w w2) := b1.out.trans (hb2.mono b1.out.size)
 have z2 := b2.out.size
 clear hb2 s1 b1
 have s3 : Hid (Kn (kal4 w2 (sa)) [(w2.heap.size, (c4 (sa))), (w.heap.size + 1 + 1, (c4 ((⟨1,0,0,0⟩:Nm)))), (w.heap.size + 1, zz4), (w.heap.size, (c4 (a)))]) := s2.out.al (c4 (sa)) 26 rfl
 have b3 : Hid (Below w.heap.size w (kal4 w2 (sa))) := b2.out.alloc b2.out.size _
 have z3 := b2.out.size
 clear s2 b2
 have ua_0 : (kal4 w2 (sa)).cell? ⟨w.heap.size, 0, none⟩ = some (.int .u64 (a).a) := Kn.get s3.out 3 0 rfl rfl
 have ua_1 : (kal4 w2 (sa)).cell? ⟨w.heap.size, 1, none⟩ = some (.int .u64 (a).b) := Kn.get s3.out 3 1 rfl rfl
 have ua_2 : (kal4 w2 (sa)).cell? ⟨w.heap.size, 2, none⟩ = some (.int .u64 (a).c) := Kn.get s3.out 3 2 rfl rfl
 have ua_3 : (kal4 w2 (sa)).cell? ⟨w.heap.size, 3, none⟩ = some (.int .u64 (a).d) := Kn.get s3.out 3 3 rfl rfl
 have uone_0 : (kal4 w2 (sa)).cell? ⟨w.heap.size + 1 + 1, 0, none⟩ = some (.int .u64 ((⟨1,0,0,0⟩:Nm)).a) := Kn.get s3.out 1 0 rfl rfl
 have uone_1 : (kal4 w2 (sa)).cell? ⟨w.heap.size + 1 + 1, 1, none⟩ = some (.int .u64 ((⟨1,0,0,0⟩:Nm)).b) := Kn.get s3.out 1 1 rfl rfl
 have uone_2 : (kal4 w2 (sa)).cell? ⟨w.heap.size + 1 + 1, 2, none⟩ = some (.int .u64 ((⟨1,0,0,0⟩:Nm)).c) := Kn.get s3.out 1 2 rfl rfl
 have uone_3 : (kal4 w2 (sa)).cell? ⟨w.heap.size + 1 + 1, 3, none⟩ = some (.int .u64 ((⟨1,0,0,0⟩:Nm)).d) := Kn.get s3.out 1 3 rfl rfl
 go_wp2_with fail
 clear ua_0 ua_1 ua_2 ua_3 uone_0 uone_1 uone_2 uone_3
 refine (PK _).mono ?_
 rintro e w4 ⟨rfl, hb4⟩
 have s4 : Hid (Kn w4 _) := s3.out.up hb4
 have b4 : Hid (Below w.heap.size w w4) := b3.out.trans (hb4.mono b3.out.size)
 have z4 := b4.out.size
 clear hb4 s3 b3
 have uro_0 : w4.cell? ⟨w.heap.size + 1, 0, none⟩ = some (.int .u64 0) := Kn.get s4.out 2 0 rfl rfl
 have uro_1 : w4.cell? ⟨w.heap.size + 1, 1, none⟩ = some (.int .u64 0) := Kn.get s4.out 2 1 rfl rfl
 have uro_2 : w4.cell? ⟨w.heap.size + 1, 2, none⟩ = some (.int .u64 0) := Kn.get s4.out 2 2 rfl rfl
 have uro_3 : w4.cell? ⟨w.heap.size + 1, 3, none⟩ = some (.int .u64 0) := Kn.get s4.out 2 3 rfl rfl
 have uro_z : ∀ j, w4.frozen? ⟨w.heap.size + 1, j, none⟩ = false := Kn.fz s4.out 2 rfl
 have s5 : Hid (Kn (st4 w4 (w.heap.size + 1) (ra)) [(w.heap.size + 1, (c4 (ra))), (w2.heap.size, (c4 (sa))), (w.heap.size + 1 + 1, (c4 ((⟨1,0,0,0⟩:Nm)))), (w.heap.size, (c4 (a)))]) := Kn.st4 (L := [(w2.heap.size, (c4 (sa))), (w.heap.size + 1 + 1, (c4 ((⟨1,0,0,0⟩:Nm)))), (w.heap.size, (c4 (a)))]) (s4.out.front 2 rfl) (ra)
 have b5 : Hid (Below w.heap.size w (st4 w4 (w.heap.size + 1) (ra))) := below_st4 b4.out (by omega)
 clear s4 b4
 go_wp2_with fail
 clear uro_0 uro_1 uro_2 uro_3 uro_z
 have urr_0 : (st4 w4 (w.heap.size + 1) (ra)).cell? ⟨w.heap.size + 1, 0, none⟩ = some (.int .u64 (ra).a) := Kn.get s5.out 0 0 rfl rfl
 have urr_1 : (st4 w4 (w.heap.size + 1) (ra)).cell? ⟨w.heap.size + 1, 1, none⟩ = some (.int .u64 (ra).b) := Kn.get s5.out 0 1 rfl rfl
 have urr_2 : (st4 w4 (w.heap.size + 1) (ra)).cell? ⟨w.heap.size + 1, 2, none⟩ = some (.int .u64 (ra).c) := Kn.get s5.out 0 2 rfl rfl
 have urr_3 : (st4 w4 (w.heap.size + 1) (ra)).cell? ⟨w.heap.size + 1, 3, none⟩ = some (.int .u64 (ra).d) := Kn.get s5.out 0 3 rfl rfl
 refine bodyPost_ret (v := N ra) ?_ rfl ⟨rfl, b5.out⟩
 show (results Tryz.f14 _).run Tryz.prog (st4 w4 (w.heap.size + 1) (ra)) = .ok _ (st4 w4 (w.heap.size + 1) (ra))
 clear s5 b5
 generalize (st4 w4 (w.heap.size + 1) (ra)) = W9 at *
 simp [results, Tryz.results14, go_sem, urr_0, urr_1, urr_2, urr_3]
theorem one_nm : (⟨1, 0, 0, 0⟩ : Nm) = nm 1 := by unfold nm Nm.of; congr 1
theorem sgOne_fun (n : Nat) (hn : n < 2 ^ 256) (w : World) : Calls Tryz.prog 14 #[N (nm n)] w fun e w' => e = .returned (N (nm (nzN n))) ∧ Below w.heap.size w w' := by
 have SS := sub_nat (nm n) (nm 1) (nm_ok _) (nm_ok _)
 rw [← one_nm] at SS
 have PK := pick_fun (if (nm n).nat < (⟨1, 0, 0, 0⟩ : Nm).nat then 1 else 0) (nm n) (nm 1) (by split <;> exact ⟨by decide, by decide⟩) (nm_ok _) (nm_ok _)
 rw [← one_nm] at PK
 refine (sgOne_walk _ _ _ _ SS PK w).mono ?_
 rintro e w' ⟨rfl, hb⟩
 refine ⟨?_, hb⟩
 congr 2
 rw [one_nm, nm_nat hn, nm_nat (show 1 < 2 ^ 256 by decide)]
 unfold pick nzN
 by_cases h : n = 0
 ·subst h
  rfl
 ·rw [if_neg (show ¬ n < 1 by omega), if_pos (by decide), if_neg h]
set_option maxHeartbeats 1000000 in
theorem sgDig_walk (l : Nat) (ls : List (List Nat)) (p : List Nat) (q : Nm) (v : Value)
  (JN : Hid (∀ w, Rw w v ls → Calls Tryz.prog 63 #[v, .slice none 0 0] w fun e w' => (∃ v', e = .returned v' ∧ By w' v' p) ∧ Below w.heap.size w w'))
  (DG : Hid (∀ u w, By w u p → KTab w → Calls Tryz.prog 15 #[.int .u8 (l : Int), u] w fun e w' => e = .returned (N q) ∧ Below w.heap.size w w'))
  (w : World) (hv : Rw w v ls) (hT : KTab w) :
  Calls Tryz.prog 28 #[.int .u8 (l : Int), v] w fun e w' => e = .returned (N q) ∧ Below w.heap.size w w' := by
 have HV : Hid (Rw w v ls) := hv
 have HT : Hid (KTab w) := hT
 clear hv hT
 go_enter Tryz.func28, Tryz.ntmps28
 have s0 : Hid (Kn (kz4 w) [(w.heap.size, zz4)]) := ((Kn.nil w).al zz4 26 rfl)
 have b0 : Hid (Below w.heap.size w (kz4 w)) := ((Below.refl _ _).alloc (Nat.le_refl _) _)
 go_wp2_with fail
 refine (JN.out _ (HV.out.up b0.out)).mono ?_
 rintro e w1 ⟨⟨v1, rfl, hy1⟩, hb1⟩
 have s1 : Hid (Kn w1 _) := s0.out.up hb1
 have b1 : Hid (Below w.heap.size w w1) := b0.out.trans (hb1.mono b0.out.size)
 have z1 := b1.out.size
 clear hb1 s0 b0
 have HY : Hid (By w1 v1 p) := hy1
 clear hy1
 go_wp2_with fail
 refine (DG.out _ _ HY.out (HT.out.up b1.out HT.out.pos)).mono ?_
 rintro e w2 ⟨rfl, hb2⟩
 have s2 : Hid (Kn w2 _) := s1.out.up hb2
 have b2 : Hid (Below w.heap.size w w2) := b1.out.trans (hb2.mono b1.out.size)
 have z2 := b2.out.size
 clear hb2 s1 b1
 have uro_0 : w2.cell? ⟨w.heap.size, 0, none⟩ = some (.int .u64 0) := Kn.get s2.out 0 0 rfl rfl
 have uro_1 : w2.cell? ⟨w.heap.size, 1, none⟩ = some (.int .u64 0) := Kn.get s2.out 0 1 rfl rfl
 have uro_2 : w2.cell? ⟨w.heap.size, 2, none⟩ = some (.int .u64 0) := Kn.get s2.out 0 2 rfl rfl
 have uro_3 : w2.cell? ⟨w.heap.size, 3, none⟩ = some (.int .u64 0) := Kn.get s2.out 0 3 rfl rfl
 have uro_z : ∀ j, w2.frozen? ⟨w.heap.size, j, none⟩ = false := Kn.fz s2.out 0 rfl
 have s3 : Hid (Kn (st4 w2 (w.heap.size) (q)) [(w.heap.size, (c4 (q)))]) := Kn.st4 (L := []) (s2.out.front 0 rfl) (q)
 have b3 : Hid (Below w.heap.size w (st4 w2 (w.heap.size) (q))) := below_st4 b2.out (by omega)
 clear s2 b2
 go_wp2_with fail
 clear uro_0 uro_1 uro_2 uro_3 uro_z
 have urr_0 : (st4 w2 (w.heap.size) (q)).cell? ⟨w.heap.size, 0, none⟩ = some (.int .u64 (q).a) := Kn.get s3.out 0 0 rfl rfl
 have urr_1 : (st4 w2 (w.heap.size) (q)).cell? ⟨w.heap.size, 1, none⟩ = some (.int .u64 (q).b) := Kn.get s3.out 0 1 rfl rfl
 have urr_2 : (st4 w2 (w.heap.size) (q)).cell? ⟨w.heap.size, 2, none⟩ = some (.int .u64 (q).c) := Kn.get s3.out 0 2 rfl rfl
 have urr_3 : (st4 w2 (w.heap.size) (q)).cell? ⟨w.heap.size, 3, none⟩ = some (.int .u64 (q).d) := Kn.get s3.out 0 3 rfl rfl
 refine bodyPost_ret (v := N q) ?_ rfl ⟨rfl, b3.out⟩
 show (results Tryz.f28 _).run Tryz.prog (st4 w2 (w.heap.size) (q)) = .ok _ (st4 w2 (w.heap.size) (q))
 clear s3 b3
 generalize (st4 w2 (w.heap.size) (q)) = W9 at *
 simp [results, Tryz.results28, go_sem, urr_0, urr_1, urr_2, urr_3]
theorem sgDig_fun (l : Nat) (hl : l < 256) (ls : List (List Nat)) (h2 : 2 ≤ ls.length) (lo : ∀ l ∈ ls, ∀ x ∈ l, x < 256) (hn : ls.length ≤ 140737488355328) (hz : (ls.map List.length).sum ≤ 140737488355328) (v : Value) (w : World) (hv : Rw w v ls) (hT : KTab w) :
  Calls Tryz.prog 28 #[.int .u8 (l : Int), v] w fun e w' => e = .returned (N (nm (dgN l ls.flatten))) ∧ Below w.heap.size w w' :=
 sgDig_walk l ls ls.flatten _ v (fun w hv => join_fun ls h2 lo hn hz v w hv) (fun u w hu hT => sDig_fun l hl ls.flatten (fun x hx => by obtain ⟨l, hl', hx'⟩ := List.mem_flatten.1 hx; exact lo l hl' x hx') (by rw [List.length_flatten]; omega) u w hu hT) w hv hT
end Go.Proofs.YtfknkfninjjgbaaGreatDoor
