/- The contracts of sealringref.HexText, hexDigit and ReadHex. -/
import Derived.Test.YtkgfeacednomfaaHexR
namespace Go.Proofs.Ytkgfeacednomfaa
open Go.RowKit
set_option linter.unusedSimpArgs false
attribute [local go_sem] sOf_size ByteArray.size_append
set_option maxHeartbeats 1000000 in
theorem hexDigit_fun (c : Nat) (hc : c < 256) (w : World) :
    Calls Try.prog 78 #[.int .u8 (c : Int)] w fun e w' => e = .returned (.int .i64 (hexV c)) ∧ w' = w := by
  have c0 : (0 : Int) ≤ (c : Int) := by omega
  have c1 : (c : Int) < 256 := by omega
  unfold hexV
  by_cases h1 : 48 ≤ c ∧ c ≤ 57
  · rw [if_pos h1]
    have a1 : (48 : Int) ≤ (c : Int) := by omega
    have a2 : (c : Int) ≤ 57 := by omega
    clear h1 hc
    go_enter Try.func78, Try.ntmps78
    go_wp2_with fail
    go_ret
    exact ⟨by go_num, rfl⟩
  · rw [if_neg h1]
    by_cases h2 : 97 ≤ c ∧ c ≤ 102
    · rw [if_pos h2]
      have a0 : (48 : Int) ≤ (c : Int) := by omega
      have a1 : ¬ (c : Int) ≤ 57 := by omega
      have a2 : (97 : Int) ≤ (c : Int) := by omega
      have a3 : (c : Int) ≤ 102 := by omega
      clear h1 h2 hc
      go_enter Try.func78, Try.ntmps78
      go_wp2_with fail
      go_ret
      exact ⟨by go_num, rfl⟩
    · rw [if_neg h2]
      by_cases b1 : (48 : Int) ≤ (c : Int)
      · have a1 : ¬ (c : Int) ≤ 57 := by omega
        by_cases b2 : (97 : Int) ≤ (c : Int)
        · have a3 : ¬ (c : Int) ≤ 102 := by omega
          clear h1 h2 hc
          go_enter Try.func78, Try.ntmps78
          go_wp2_with fail
          go_ret
          exact ⟨by go_num, rfl⟩
        · clear h1 h2 hc
          go_enter Try.func78, Try.ntmps78
          go_wp2_with fail
          go_ret
          exact ⟨by go_num, rfl⟩
      · have b2 : ¬ (97 : Int) ≤ (c : Int) := by omega
        clear h1 h2 hc
        go_enter Try.func78, Try.ntmps78
        go_wp2_with fail
        go_ret
        exact ⟨by go_num, rfl⟩
set_option maxRecDepth 20000 in
set_option maxHeartbeats 1000000 in
theorem hexText_some (bk o c : Nat) (b : List Nat) (low : ∀ x ∈ b, x < 256) (hl : b.length ≤ 140737488351232) (w : World) (h : ∀ j, j < b.length → w.cell? ⟨bk, o + j, none⟩ = some (b8 (b.getD j 0))) :
    Calls Try.prog 54 #[.slice (some ⟨bk, o, none⟩) b.length c] w fun e w' => e = .returned (.string (sOf (hexS b))) ∧ Below w.heap.size w w' := by
  have HC : Hid _ := h
  have LO : Hid (∀ x ∈ b, x < 256) := low
  clear h low
  go_enter Try.func54, Try.ntmps54
  go_wp2_with fail
  go_loopw [3, 10] (fun s i wr => ∃ (k : Nat), k ≤ b.length ∧ i = .int .i64 k ∧ s = .string (sOf (hexS (b.take k))) ∧ Hid (Below w.heap.size w wr)) (fun _ i _ => b.length - (intOf i).toNat)
  case atStart => exact ⟨0, by omega, rfl, by simp [hexS, sOf], Below.refl _ _⟩
  case round =>
    obtain ⟨k, hk, rfl, rfl, hb⟩ := hrel
    by_cases h1 : k < b.length
    · have i1 : (k : Int) < (b.length : Int) := by omega
      obtain ⟨x, hx⟩ : ∃ x, b[k]? = some x := ⟨b[k], by simp [h1]⟩
      have c1 := HC.out k h1
      rw [List.getD_eq_getElem?_getD, hx] at c1
      replace c1 : w.cell? ⟨bk, o + k, none⟩ = some (b8 x) := c1
      have c2 := (hb.out.cell (p := ⟨bk, _, none⟩) (lt_of_cellB c1)).trans c1
      have x1 := LO.out x (List.mem_of_getElem? hx)
      have HS : Hid (sOf (hexS (b.take (k + 1))) = sOf (hexS (b.take k)) ++ sOf [hexd (x / 16)] ++ sOf [hexd (x % 16)]) := by
        have : sOf (hexS (b.take (k + 1))) = sOf (hexS (b.take k)) ++ sOf [hexd (x / 16)] ++ sOf [hexd (x % 16)] := by
          rw [hexS_take_succ hx, sOf_append, sOf_append, List.append_assoc]
          rfl
        exact this
      have tz : (sOf (hexS (b.take k))).size ≤ 281474976702464 := by
        rw [sOf_size, hexS_len, List.length_take]
        omega
      have tz1 : ((sOf (hexS (b.take k))).size : Int) ≤ 281474976702464 := by omega
      generalize sOf (hexS (b.take k)) = tx at *
      have x0 : (0 : Int) ≤ (x : Int) := by omega
      have x2 : (x : Int) < 256 := by omega
      obtain ⟨y, hy⟩ : ∃ y, y = x / 16 := ⟨_, rfl⟩
      obtain ⟨z, hz⟩ : ∃ z, z = x % 16 := ⟨_, rfl⟩
      rw [← hy, ← hz] at HS
      have xy : (x : Int) / 16 = (y : Int) := by omega
      have xz : (x : Int) % 16 = (z : Int) := by omega
      have s3 : (y : Int) < 16 := by omega
      have s4 : (z : Int) < 16 := by omega
      have s5 : (0 : Int) ≤ (y : Int) := by omega
      have s6 : (0 : Int) ≤ (z : Int) := by omega
      clear c1 hx hy hz x1
      by_cases m1 : y < 10
      · have k1 : (y : Int) < 10 := by omega
        by_cases m2 : z < 10
        · have k2 : (z : Int) < 10 := by omega
          go_wp2_with fail
          refine wp_loop_rounds 3 ?_
          rw [rounds_succ]
          go_wp2_with (first | (refine wp_conv rfl (.tmp 29) rfl _ [hexd y] rfl (By.one ((cell_top (by simp)).trans (by first | (simp [b8, hexd, m1]; done) | (simp [b8, hexd, m1]; omega)))) ?_) | (refine wp_conv rfl (.tmp 36) rfl _ [hexd y] rfl (By.one ((cell_top (by simp)).trans (by first | (simp [b8, hexd, m1]; done) | (simp [b8, hexd, m1]; omega)))) ?_))
          rw [rounds_succ]
          go_wp2_with (first | (refine wp_conv rfl (.tmp 29) rfl _ [hexd z] rfl (By.one ((cell_top (by simp)).trans (by first | (simp [b8, hexd, m2]; done) | (simp [b8, hexd, m2]; omega)))) ?_) | (refine wp_conv rfl (.tmp 36) rfl _ [hexd z] rfl (By.one ((cell_top (by simp)).trans (by first | (simp [b8, hexd, m2]; done) | (simp [b8, hexd, m2]; omega)))) ?_))
          rw [rounds_succ]
          go_wp2_with fail
          go_roundw
          case rel => exact ⟨k + 1, by omega, by go_num, by rw [HS.out], ((hb.out.alloc hb.out.size _).alloc (by simp; have := hb.out.size; omega) _).alloc (by simp; have := hb.out.size; omega) _⟩
          case measure =>
            show _ < _
            simp [intOf]
            omega
        · have k2 : ¬ (z : Int) < 10 := by omega
          go_wp2_with fail
          refine wp_loop_rounds 3 ?_
          rw [rounds_succ]
          go_wp2_with (first | (refine wp_conv rfl (.tmp 29) rfl _ [hexd y] rfl (By.one ((cell_top (by simp)).trans (by first | (simp [b8, hexd, m1]; done) | (simp [b8, hexd, m1]; omega)))) ?_) | (refine wp_conv rfl (.tmp 36) rfl _ [hexd y] rfl (By.one ((cell_top (by simp)).trans (by first | (simp [b8, hexd, m1]; done) | (simp [b8, hexd, m1]; omega)))) ?_))
          rw [rounds_succ]
          go_wp2_with (first | (refine wp_conv rfl (.tmp 29) rfl _ [hexd z] rfl (By.one ((cell_top (by simp)).trans (by first | (simp [b8, hexd, m2]; done) | (simp [b8, hexd, m2]; omega)))) ?_) | (refine wp_conv rfl (.tmp 36) rfl _ [hexd z] rfl (By.one ((cell_top (by simp)).trans (by first | (simp [b8, hexd, m2]; done) | (simp [b8, hexd, m2]; omega)))) ?_))
          rw [rounds_succ]
          go_wp2_with fail
          go_roundw
          case rel => exact ⟨k + 1, by omega, by go_num, by rw [HS.out], ((hb.out.alloc hb.out.size _).alloc (by simp; have := hb.out.size; omega) _).alloc (by simp; have := hb.out.size; omega) _⟩
          case measure =>
            show _ < _
            simp [intOf]
            omega
      · have k1 : ¬ (y : Int) < 10 := by omega
        by_cases m2 : z < 10
        · have k2 : (z : Int) < 10 := by omega
          go_wp2_with fail
          refine wp_loop_rounds 3 ?_
          rw [rounds_succ]
          go_wp2_with (first | (refine wp_conv rfl (.tmp 29) rfl _ [hexd y] rfl (By.one ((cell_top (by simp)).trans (by first | (simp [b8, hexd, m1]; done) | (simp [b8, hexd, m1]; omega)))) ?_) | (refine wp_conv rfl (.tmp 36) rfl _ [hexd y] rfl (By.one ((cell_top (by simp)).trans (by first | (simp [b8, hexd, m1]; done) | (simp [b8, hexd, m1]; omega)))) ?_))
          rw [rounds_succ]
          go_wp2_with (first | (refine wp_conv rfl (.tmp 29) rfl _ [hexd z] rfl (By.one ((cell_top (by simp)).trans (by first | (simp [b8, hexd, m2]; done) | (simp [b8, hexd, m2]; omega)))) ?_) | (refine wp_conv rfl (.tmp 36) rfl _ [hexd z] rfl (By.one ((cell_top (by simp)).trans (by first | (simp [b8, hexd, m2]; done) | (simp [b8, hexd, m2]; omega)))) ?_))
          rw [rounds_succ]
          go_wp2_with fail
          go_roundw
          case rel => exact ⟨k + 1, by omega, by go_num, by rw [HS.out], ((hb.out.alloc hb.out.size _).alloc (by simp; have := hb.out.size; omega) _).alloc (by simp; have := hb.out.size; omega) _⟩
          case measure =>
            show _ < _
            simp [intOf]
            omega
        · have k2 : ¬ (z : Int) < 10 := by omega
          go_wp2_with fail
          refine wp_loop_rounds 3 ?_
          rw [rounds_succ]
          go_wp2_with (first | (refine wp_conv rfl (.tmp 29) rfl _ [hexd y] rfl (By.one ((cell_top (by simp)).trans (by first | (simp [b8, hexd, m1]; done) | (simp [b8, hexd, m1]; omega)))) ?_) | (refine wp_conv rfl (.tmp 36) rfl _ [hexd y] rfl (By.one ((cell_top (by simp)).trans (by first | (simp [b8, hexd, m1]; done) | (simp [b8, hexd, m1]; omega)))) ?_))
          rw [rounds_succ]
          go_wp2_with (first | (refine wp_conv rfl (.tmp 29) rfl _ [hexd z] rfl (By.one ((cell_top (by simp)).trans (by first | (simp [b8, hexd, m2]; done) | (simp [b8, hexd, m2]; omega)))) ?_) | (refine wp_conv rfl (.tmp 36) rfl _ [hexd z] rfl (By.one ((cell_top (by simp)).trans (by first | (simp [b8, hexd, m2]; done) | (simp [b8, hexd, m2]; omega)))) ?_))
          rw [rounds_succ]
          go_wp2_with fail
          go_roundw
          case rel => exact ⟨k + 1, by omega, by go_num, by rw [HS.out], ((hb.out.alloc hb.out.size _).alloc (by simp; have := hb.out.size; omega) _).alloc (by simp; have := hb.out.size; omega) _⟩
          case measure =>
            show _ < _
            simp [intOf]
            omega
    · have i1 : ¬ (k : Int) < (b.length : Int) := by omega
      have e : k = b.length := by omega
      subst e
      rw [List.take_length]
      go_wp2_with fail
      go_ret
      exact ⟨rfl, hb.out⟩
end Go.Proofs.Ytkgfeacednomfaa
