/- The contract of limb.Bytes: the bytes of a number, the least first. -/
import Derived.Test.YtjcnfffmciahiaaRows
import Derived.Test.YtjcnfffmciahiaaOct
import Derived.Test.YtjcnfffmciahiaaRow
import Derived.WalkKit
import Derived.WalkSpells
import Derived.WalkLawsBesides
namespace Go.Proofs.Ytjcnfffmciahiaa
open Go.RowKit

/-- The first k of thirty-two bytes laid, the others 0. -/
def fillB (f : Nat → Int) (k : Nat) : Array Value := ((List.range 32).map fun j => Value.int .u8 (if j < k then f j else 0)).toArray
theorem fillB_size (f : Nat → Int) (k : Nat) : (fillB f k).size = 32 := by simp [fillB]
theorem fillB_get (f : Nat → Int) (k j : Nat) (h : j < 32) : (fillB f k)[j]? = some (.int .u8 (if j < k then f j else 0)) := by simp [fillB, h]
theorem fillB_set (f : Nat → Int) (k : Nat) (h : k < 32) : (fillB f k).setIfInBounds k (.int .u8 (f k)) = fillB f (k + 1) := by
  apply Array.ext_getElem?
  intro j
  rw [Array.getElem?_setIfInBounds, fillB_size]
  rcases Nat.lt_or_ge j 32 with hj | hj
  · rw [fillB_get f k j hj, fillB_get f (k + 1) j hj]
    by_cases e : k = j
    · subst e; simp [h]
    · rw [if_neg e]
      by_cases l : j < k
      · rw [if_pos l, if_pos (by omega)]
      · rw [if_neg l, if_neg (by omega)]
  · rw [Array.getElem?_eq_none (by rw [fillB_size]; exact hj), Array.getElem?_eq_none (by rw [fillB_size]; exact hj), if_neg (by omega)]
theorem fillB_zero (f : Nat → Int) : fillB f 0 = (List.replicate 32 (Value.int .u8 0)).toArray := by
  unfold fillB
  congr 1

/-- Byte j of a number. -/
def byteAt (x : Nm) (j : Nat) : Int := x.get (j / 8) / 2 ^ (j % 8 * 8) % 256

/-- The bytes of a number. -/
def bytesOf (x : Nm) : List Int := (List.range 32).map (byteAt x)
theorem bytesOf_length (x : Nm) : (bytesOf x).length = 32 := by simp [bytesOf]
theorem fillB_all (x : Nm) : (fillB (byteAt x) 32).toList = (bytesOf x).map (Value.int .u8) := by
  unfold fillB bytesOf
  rw [List.map_map]
  apply List.map_congr_left
  intro j hj
  simp [List.mem_range.1 hj]

set_option maxHeartbeats 1000000 in
theorem bytes_fun (x : Nm) (w : World) :
    Calls Try.prog 21 #[N x] w fun e w' => e = .returned (Bs (bytesOf x)) ∧ Below w.heap.size w w' := by
  go_enter Try.func21, Try.ntmps21
  go_wp2
  go_loopw [5] (fun i w' => ∃ k : Nat, k ≤ 32 ∧ i = .int .i64 k ∧ w' = ((w.alloc (.cells #[.int .u64 x.a, .int .u64 x.b, .int .u64 x.c, .int .u64 x.d] 24)).alloc (.cells (fillB (byteAt x) 0) 39)).alloc (.cells (fillB (byteAt x) k) 39)) (fun i _ => 32 - (intOf i).toNat)
  case atStart => exact ⟨0, by omega, rfl, rfl⟩
  case round =>
    obtain ⟨k, hk, rfl, rfl⟩ := hrel
    by_cases hlt : k < 32
    · have g1 := x.get_N (k / 8) (by omega)
      have g2 : ([Value.int .u64 x.a, .int .u64 x.b, .int .u64 x.c, .int .u64 x.d] : List Value)[k / 8]? = some (.int .u64 (x.get (k / 8))) := by simpa using g1
      have g3 : (fillB (byteAt x) k)[k]? = some (.int .u8 0) := by rw [fillB_get _ _ _ hlt]; simp
      go_wp2
      go_roundw
      case rel => exact ⟨k + 1, by omega, by go_num, by rw [← fillB_set (byteAt x) k hlt]; rfl⟩
      case measure => simp [intOf]; omega
    · have hk32 : k = 32 := by omega
      subst hk32
      clear hlt hk
      have L3 : Hid (LiesB (((w.alloc (.cells #[.int .u64 x.a, .int .u64 x.b, .int .u64 x.c, .int .u64 x.d] 24)).alloc (.cells (fillB (byteAt x) 0) 39)).alloc (.cells (fillB (byteAt x) 32) 39)) (w.heap.size + 1 + 1) (bytesOf x)) :=
        LiesB.of_block (by have := (MapKept.heap_alloc ((w.alloc (.cells #[.int .u64 x.a, .int .u64 x.b, .int .u64 x.c, .int .u64 x.d] 24)).alloc (.cells (fillB (byteAt x) 0) 39)) (.cells (fillB (byteAt x) 32) 39)).1; simpa using this) (fillB_all x)
      have T2 : Hid (World.there (((w.alloc (.cells #[.int .u64 x.a, .int .u64 x.b, .int .u64 x.c, .int .u64 x.d] 24)).alloc (.cells (fillB (byteAt x) 0) 39)).alloc (.cells (fillB (byteAt x) 32) 39)) (w.heap.size + 1) 0 32) := by
        intro j hj
        have := fillB_get (byteAt x) 0 j hj
        simp [go_sem, this]
      have T3 : Hid (World.there (((w.alloc (.cells #[.int .u64 x.a, .int .u64 x.b, .int .u64 x.c, .int .u64 x.d] 24)).alloc (.cells (fillB (byteAt x) 0) 39)).alloc (.cells (fillB (byteAt x) 32) 39)) (w.heap.size + 1) 0 ((bytesOf x).map (Value.int .u8)).toArray.size) := by
        have e : ((bytesOf x).map (Value.int .u8)).toArray.size = 32 := by simp [bytesOf_length]
        rw [e]
        exact T2.out
      have T4 : Hid (World.there (((w.alloc (.cells #[.int .u64 x.a, .int .u64 x.b, .int .u64 x.c, .int .u64 x.d] 24)).alloc (.cells (fillB (byteAt x) 0) 39)).alloc (.cells (fillB (byteAt x) 32) 39)) (w.heap.size + 1) 0 ((bytesOf x).map (Value.int .u8)).length) := by
        have e : ((bytesOf x).map (Value.int .u8)).length = 32 := by simp [bytesOf_length]
        rw [e]
        exact T2.out
      go_wp2_with (first | refine wpList_load_mid rfl 39 (.tmp 3) rfl (w.heap.size + 1 + 1) 0 rfl ((bytesOf x).map (Value.int .u8)) _ L3.out Try.underlying39 rfl (info_len (bytesOf_length x)) ?_ | refine wpList_store_mid rfl 39 (.tmp 2) (.tmp 21) rfl (w.heap.size + 1) 0 ((bytesOf x).map (Value.int .u8)).toArray rfl rfl T3.out (info_size (bytesOf_length x)) (oneCell_bytes _) ?_)
      refine bodyPost_ret (v := Bs (bytesOf x)) ?_ rfl ⟨rfl, ?_⟩
      · exact results_cellN (b := w.heap.size + 1) rfl rfl (World.rangeAt_setCells_same _ _ _ _ T4.out) Try.underlying39 rfl (info_len (bytesOf_length x))
      · refine below_setCellsN _ _ _ ?_ (by omega)
        repeat (first | exact Below.refl _ _ | refine Below.alloc ?_ (by simp <;> omega) _)
end Go.Proofs.Ytjcnfffmciahiaa
