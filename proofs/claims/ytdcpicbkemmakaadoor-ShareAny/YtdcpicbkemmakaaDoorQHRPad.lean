/- The contract of sealringref.PadText. -/
import Derived.Test.YtdcpicbkemmakaaDoorQBsMkToHRd
namespace Go.Proofs.YtdcpicbkemmakaaDoor
open Go.RowKit
set_option linter.unusedSimpArgs false
attribute [local go_sem] ByteArray.size_append
/-- 128 and j bytes 0. -/
def headP (j : Nat) : List Nat := 128 :: List.replicate j 0
/-- The last k bytes of eight, the greatest first. -/
def tailP (X : Nat) : Nat → List Nat
  | 0 => []
  | k + 1 => X / 256 ^ k % 256 :: tailP X k
theorem headP_snoc (j : Nat) : headP j ++ [0] = headP (j + 1) := by
  simp [headP, List.replicate_succ']
theorem headP_length (j : Nat) : (headP j).length = j + 1 := by simp [headP]
theorem tailP_length (X : Nat) : ∀ k, (tailP X k).length = k
  | 0 => rfl
  | k + 1 => by rw [tailP, List.length_cons, tailP_length X k]
theorem tailP_get (X : Nat) : ∀ k j, j < k → (tailP X k)[j]? = some (X / 256 ^ (k - 1 - j) % 256)
  | 0, _, h => absurd h (Nat.not_lt_zero _)
  | k + 1, 0, _ => by simp [tailP]
  | k + 1, j + 1, h => by
    rw [tailP, List.getElem?_cons_succ, tailP_get X k j (by omega), show k + 1 - 1 - (j + 1) = k - 1 - j by omega]
theorem pad_parts (n : Nat) : headP (padZ n) ++ tailP (8 * n % 18446744073709551616) 8 = padS n := by
  unfold padS
  generalize 8 * n % 18446744073709551616 = X at *
  generalize padZ n = z at *
  apply List.ext_getElem?
  intro j
  rcases Nat.lt_or_ge j (z + 9) with h | h
  · have g : (padF X z 8)[j]? = some (if j = 0 then 128 else if z + 9 ≤ j + 8 then X / 256 ^ (z + 8 - j) % 256 else 0) := by simp [padF, h]
    rw [g]
    rcases Nat.lt_or_ge j (z + 1) with h1 | h1
    · rw [List.getElem?_append_left (by rw [headP_length]; exact h1)]
      cases j with
      | zero => rfl
      | succ j =>
        rw [if_neg (by omega), if_neg (by omega)]
        simp only [headP, List.getElem?_cons_succ, List.getElem?_replicate]
        rw [if_pos (by omega)]
    · rw [List.getElem?_append_right (by rw [headP_length]; exact h1), headP_length, tailP_get X 8 _ (by omega), if_neg (by omega), if_pos (by omega), show 8 - 1 - (j - (z + 1)) = z + 8 - j by omega]
  · rw [List.getElem?_eq_none (by rw [List.length_append, headP_length, tailP_length]; omega), List.getElem?_eq_none (by rw [padF_length]; omega)]
def strL : Value → Nat
  | .string b => b.size
  | _ => 0
theorem head_on (j : Nat) : sOf (headP j) ++ (⟨#[0]⟩ : ByteArray) = sOf (headP (j + 1)) := by
  rw [show (⟨#[0]⟩ : ByteArray) = sOf [0] from rfl, sOf_append, headP_snoc]
set_option maxRecDepth 20000 in
set_option maxHeartbeats 4000000 in
theorem padText_fun (n : Nat) (hn : n < 18446744073709551616) (w : World) :
    Calls Tryd.prog 91 #[.int .u64 n] w fun e w' => e = .returned (.string (sOf (padS n))) ∧ Below w.heap.size w w' := by
  have PP : Hid _ := pad_parts n
  have BW : Hid (IntKind.u64.wrap ((n : Int) * 8) = ((8 * n % 18446744073709551616 : Nat) : Int)) := by rw [Int.mul_comm]; exact bits_wrap n
  have z1 := padZ_lt n
  have zd : (n + 9 + padZ n) % 64 = 0 := by unfold padZ; omega
  have X1 : 8 * n % 18446744073709551616 < 18446744073709551616 := Nat.mod_lt _ (by decide)
  generalize padZ n = z at *
  generalize 8 * n % 18446744073709551616 = X at *
  go_enter Tryd.func91, Tryd.ntmps91
  go_wp2_with fail
  go_loopw [3] (fun s wr => ∃ j : Nat, j ≤ z ∧ s = .string (sOf (headP j)) ∧ Hid (wr = w)) (fun s _ => 200 - strL s)
  case atStart => exact ⟨0, by omega, rfl, rfl⟩
  case round =>
    obtain ⟨j, hj, rfl, hw⟩ := hrel
    have hw := hw.out
    subst hw
    have sl : (sOf (headP j)).size = j + 1 := by rw [sOf_size, headP_length]
    have HO : Hid _ := head_on j
    generalize hsj : sOf (headP j) = sj at *
    by_cases hlt : j < z
    · have t1 : ¬ ((n : Int) % 64 + ((j : Int) + 1) + 8) % 64 = 0 := by omega
      have t2 : (((n : Int) % 64 + ((j : Int) + 1) + 8) % 64 == 0) = false := by simpa using t1
      go_wp2_with fail
      go_roundw
      case rel => exact ⟨j + 1, by omega, by rw [HO.out], trivial⟩
      case measure =>
        simp only [strL, ByteArray.size_append, sl]
        show 200 - (j + 1 + 1) < 200 - (j + 1)
        omega
    · obtain rfl : j = z := by omega
      have t1 : ((n : Int) % 64 + ((j : Int) + 1) + 8) % 64 = 0 := by omega
      clear hlt hj HO
      go_wp2_with fail
      rw [BW.out]
      clear t1
      go_loopw [5, 6, 21] (fun b t i wq => ∃ k : Nat, k ≤ 8 ∧ b = .int .u64 ((X / 256 ^ k : Nat) : Int) ∧ t = .string (sOf (tailP X k)) ∧ i = .int .i64 k ∧ Hid (Below wr.heap.size wr wq)) (fun _ _ i _ => 8 - (intOf i).toNat)
      case atStart => exact ⟨0, by omega, by simp, rfl, rfl, Below.refl _ _⟩
      case round =>
        obtain ⟨k, hk, rfl, rfl, rfl, hb⟩ := hrel
        by_cases hlk : k < 8
        · have tl : (sOf (tailP X k)).size = k := by rw [sOf_size, tailP_length]
          have TO : Hid (sOf [X / 256 ^ k % 256] ++ sOf (tailP X k) = sOf (tailP X (k + 1))) := by rw [sOf_append]; exact rfl
          have e1 : ((X / 256 ^ k : Nat) : Int) % 256 = ((X / 256 ^ k % 256 : Nat) : Int) := by omega
          have e2 : ((X / 256 ^ k : Nat) : Int) / 256 = ((X / 256 ^ (k + 1) : Nat) : Int) := by rw [Nat.pow_succ, ← Nat.div_div_eq_div_mul]; omega
          have b1 : X / 256 ^ k % 256 < 256 := Nat.mod_lt _ (by decide)
          have b2 : X / 256 ^ (k + 1) < 18446744073709551616 := Nat.lt_of_le_of_lt (Nat.div_le_self _ _) X1
          generalize ht2 : tailP X (k + 1) = t2 at *
          generalize hxa : X / 256 ^ k % 256 = xa at *
          generalize hxb : X / 256 ^ (k + 1) = xb at *
          generalize X / 256 ^ k = xc at *
          have HXB : Hid (X / 256 ^ (k + 1) = xb) := hxb
          have HT2 : Hid (tailP X (k + 1) = t2) := ht2
          clear hxa hxb ht2
          have BY : Hid (∀ (W : World) (t : TypeId), By (W.alloc (.cells #[.int .u8 (xa : Int)] t)) (.slice (some ⟨W.heap.size, 0, none⟩) 1 1) [xa]) := fun W t => By.one ((cell_top rfl).trans rfl)
          have s1 : (sOf [xa]).size = 1 := by rw [sOf_size]; rfl
          go_wp2_with (refine wp_conv rfl (.tmp 26) rfl _ [xa] rfl (BY.out _ _) ?_)
          go_roundw
          case rel => exact ⟨k + 1, by omega, by rw [HXB.out], by rw [TO.out, HT2.out], by go_num, hb.out.alloc hb.out.size _⟩
          case measure => simp [intOf]; omega
        · obtain rfl : k = 8 := by omega
          have t8 : (sOf (tailP X 8)).size = 8 := by rw [sOf_size, tailP_length]
          have EE : Hid (sj ++ sOf (tailP X 8) = sOf (padS n)) := by rw [← hsj, sOf_append, PP.out]; exact rfl
          go_wp2_with fail
          rw [EE.out]
          go_ret
          exact ⟨rfl, hb.out⟩
end Go.Proofs.YtdcpicbkemmakaaDoor
