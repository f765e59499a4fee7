/- The contracts of sealringref.Items and ItemsText. -/
import Derived.Test.YtkgfeacednomfaaDerWr
namespace Go.Proofs.Ytkgfeacednomfaa
open Go.RowKit
attribute [local go_sem] sOf_size ByteArray.size_append
theorem wp_conv {ops : Array Oper} {rest : List Oper} {o : Oper} {a : Act} {Q : Exit → Act → World → Prop} {w : World} (hgd : o.guard = none) (x : Operand)
    (ho : o.op = .convert 57 9 x) (u : Value) (xs : List Nat) (hx : a.eval x = u) (h : By w u xs) (hK : wpList Try.prog ops Q rest (a.put o.dst (.string (sOf xs))) w) : wpList Try.prog ops Q (o :: rest) a w := by
  refine wpList_plain hgd fun K hK2 => ?_
  unfold Oper.wp
  simp [execOp, ho, hx, bytes_conv h, Result.andThen]
  exact hK2 _ _ hK
set_option maxRecDepth 20000 in
set_option maxHeartbeats 2000000 in
theorem items_some (l : List It) (b0 o0 c : Nat) (h200 : l.length ≤ 200) (w : World)
    (hc : ∀ j x, l[j]? = some x → w.cell? ⟨b0, o0 + j * 2, none⟩ = some (b8 x.tag) ∧ ∃ u, w.cell? ⟨b0, o0 + j * 2 + 1, none⟩ = some u ∧ By w u x.body) :
    Calls Try.prog 40 #[.slice (some ⟨b0, o0, none⟩) l.length c] w fun e w' => ((∀ x ∈ l, x.body.length ≤ 4096) ∧ e = .returned (.int .i64 0) ∨ ¬ (∀ x ∈ l, x.body.length ≤ 4096) ∧ e = .returned (.int .i64 2)) ∧ Below w.heap.size w w' := by
  have HC : Hid _ := hc
  clear hc
  have i2 : ¬ (l.length : Int) > 200 := by omega
  go_enter Try.func40, Try.ntmps40
  go_wp2_with fail
  go_loopw [10] (fun i wr => ∃ (k : Nat), k ≤ l.length ∧ i = .int .i64 k ∧ Hid (∀ x ∈ l.take k, x.body.length ≤ 4096) ∧ Hid (Below w.heap.size w wr)) (fun i _ => l.length - (intOf i).toNat)
  case atStart => exact ⟨0, by omega, rfl, (by simp : ∀ x ∈ l.take 0, x.body.length ≤ 4096), Below.refl _ _⟩
  case round =>
    obtain ⟨k, hk, rfl, hle, hb⟩ := hrel
    by_cases h1 : k < l.length
    · have i1 : (k : Int) < (l.length : Int) := by omega
      obtain ⟨x, hx⟩ : ∃ x, l[k]? = some x := ⟨l[k], by simp [h1]⟩
      obtain ⟨c1, u, c2, hu⟩ := HC.out k x hx
      obtain ⟨au, cu, rfl⟩ := hu.len
      have d1 := (hb.out.cell (p := ⟨b0, _, none⟩) (lt_of_cellB c1)).trans c1
      have d2 := (hb.out.cell (p := ⟨b0, _, none⟩) (lt_of_cellB c2)).trans c2
      have HXX : Hid _ := hx
      clear hu hx c1 c2
      by_cases h3 : x.body.length ≤ 4096
      · have i3 : ¬ (x.body.length : Int) > 4096 := by omega
        go_wp2_with fail
        go_roundw
        case rel =>
          refine ⟨k + 1, by omega, by go_num, ?_, hb.out.alloc hb.out.size _⟩
          refine (fun y hy => ?_ : ∀ y ∈ l.take (k + 1), y.body.length ≤ 4096)
          rw [List.take_add_one, HXX.out] at hy
          rcases List.mem_append.1 hy with hy | hy
          · exact hle.out y hy
          · obtain rfl : y = x := by simpa using hy
            exact h3
        case measure => simp [intOf]; omega
      · have i3 : (x.body.length : Int) > 4096 := by omega
        go_wp2_with fail
        go_ret
        exact ⟨.inr ⟨fun h => h3 (h x (List.mem_of_getElem? HXX.out)), rfl⟩, hb.out.alloc hb.out.size _⟩
    · have i1 : ¬ (k : Int) < (l.length : Int) := by omega
      have e : k = l.length := by omega
      subst e
      have E : Hid (l.take l.length = l) := List.take_length
      rw [E.out] at hle
      go_wp2_with fail
      go_ret
      exact ⟨.inl ⟨hle.out, rfl⟩, hb.out⟩
set_option maxHeartbeats 1000000 in
theorem items_large (a : Option Addr) (n c : Nat) (h : 200 < n) (w : World) :
    Calls Try.prog 40 #[.slice a n c] w fun e w' => e = .returned (.int .i64 2) ∧ Below w.heap.size w w' := by
  have i2 : (n : Int) > 200 := by omega
  go_enter Try.func40, Try.ntmps40
  go_wp2_with fail
  go_ret
  exact ⟨rfl, Below.refl _ _⟩
set_option maxHeartbeats 1000000 in
theorem items_none (a : Option Addr) (c : Nat) (w : World) :
    Calls Try.prog 40 #[.slice a 0 c] w fun e w' => e = .returned (.int .i64 0) ∧ Below w.heap.size w w' := by
  go_enter Try.func40, Try.ntmps40
  go_wp2_with fail
  refine wp_loop_rounds 1 ?_
  rw [rounds_succ]
  go_wp2_with fail
  go_ret
  exact ⟨rfl, Below.refl _ _⟩
theorem items_fun (v : Value) (l : List It) (w : World) (h : Its w v l) :
    Calls Try.prog 40 #[v] w fun e w' => (okIts l ∧ e = .returned (.int .i64 0) ∨ ¬ okIts l ∧ e = .returned (.int .i64 2)) ∧ Below w.heap.size w w' := by
  obtain ⟨a, c, rfl, h1, h2, h3⟩ := h
  by_cases h200 : l.length ≤ 200
  · cases l with
    | nil =>
      refine (items_none a c w).mono ?_
      rintro e w' ⟨rfl, hb⟩
      exact ⟨.inl ⟨⟨by simp, by simp⟩, rfl⟩, hb⟩
    | cons x l =>
      obtain ⟨b, o, rfl, hc⟩ := h3 (by simp)
      refine (items_some (x :: l) b o c h200 w hc).mono ?_
      rintro e w' ⟨he, hb⟩
      refine ⟨?_, hb⟩
      rcases he with ⟨ha, he⟩ | ⟨ha, he⟩
      · exact .inl ⟨⟨h200, ha⟩, he⟩
      · exact .inr ⟨fun h => ha h.2, he⟩
  · refine (items_large a l.length c (by omega) w).mono ?_
    rintro e w' ⟨rfl, hb⟩
    exact ⟨.inr ⟨fun h => h200 h.1, rfl⟩, hb⟩
set_option maxRecDepth 20000 in
set_option maxHeartbeats 2000000 in
theorem itemsText_some (l : List It) (b0 o0 c : Nat) (h200 : l.length ≤ 200) (hall : ∀ x ∈ l, x.body.length ≤ 4096) (w : World)
    (hc : ∀ j x, l[j]? = some x → w.cell? ⟨b0, o0 + j * 2, none⟩ = some (b8 x.tag) ∧ ∃ u, w.cell? ⟨b0, o0 + j * 2 + 1, none⟩ = some u ∧ By w u x.body) :
    Calls Try.prog 41 #[.slice (some ⟨b0, o0, none⟩) l.length c] w fun e w' => e = .returned (.string (sOf (texts l))) ∧ Below w.heap.size w w' := by
  have HC : Hid _ := hc
  have HA : Hid _ := hall
  clear hc hall
  go_enter Try.func41, Try.ntmps41
  go_wp2_with fail
  go_loopw [3, 10] (fun s i wr => ∃ (k : Nat), k ≤ l.length ∧ i = .int .i64 k ∧ s = .string (sOf (texts (l.take k))) ∧ Hid (Below w.heap.size w wr)) (fun _ i _ => l.length - (intOf i).toNat)
  case atStart => exact ⟨0, by omega, rfl, by simp [texts, sOf], Below.refl _ _⟩
  case round =>
    obtain ⟨k, hk, rfl, rfl, hb⟩ := hrel
    by_cases h1 : k < l.length
    · have i1 : (k : Int) < (l.length : Int) := by omega
      obtain ⟨x, hx⟩ : ∃ x, l[k]? = some x := ⟨l[k], by simp [h1]⟩
      obtain ⟨c1, u, c2, hu⟩ := HC.out k x hx
      obtain ⟨au, cu, rfl⟩ := hu.len
      have d1 := (hb.out.cell (p := ⟨b0, _, none⟩) (lt_of_cellB c1)).trans c1
      have d2 := (hb.out.cell (p := ⟨b0, _, none⟩) (lt_of_cellB c2)).trans c2
      have HXX : Hid _ := hx
      have HU : Hid (By w _ x.body) := hu
      have h3 := HA.out x (List.mem_of_getElem? hx)
      have n0 : (0 : Int) ≤ (x.body.length : Int) := by omega
      have n1 : (x.body.length : Int) ≤ 4096 := by omega
      clear hu hx c1 c2
      have tz : (sOf (texts (l.take k))).size ≤ 820000 := by
        rw [sOf_size]
        have h5 := texts_len (l.take k) (fun y hy => HA.out y (List.mem_of_mem_take hy))
        have h6 : (l.take k).length ≤ 200 := by rw [List.length_take]; omega
        omega
      have HTX : Hid (sOf (texts (l.take (k + 1))) = sOf (texts (l.take k)) ++ sOf x.text) := (by rw [texts_take_succ HXX.out, sOf_append] : sOf (texts (l.take (k + 1))) = sOf (texts (l.take k)) ++ sOf x.text)
      have tz1 : ((sOf (texts (l.take k))).size : Int) ≤ 820000 := by omega
      generalize sOf (texts (l.take k)) = tx at *
      by_cases p1 : x.body.length < 128
      · have E : Hid (lenB x.body.length = [x.body.length]) := (by simp [lenB, p1] : lenB x.body.length = [x.body.length])
        have m1 : (x.body.length : Int) % 256 = (x.body.length : Int) := by omega
        have q1 : ¬ (x.body.length : Int) ≥ 128 := by omega
        have q2 : ¬ (x.body.length : Int) ≥ 256 := by omega
        go_wp2_with (first | (refine wp_conv rfl (.tmp 41) rfl _ [x.tag, x.body.length] rfl (By.two (by simp [b8]) (by simp [b8])) ?_) | (refine wp_conv rfl (.tmp 44) rfl _ x.body rfl (HU.out.up ((hb.out.alloc hb.out.size _).alloc (by have := hb.out.size; simp; omega) _) (Nat.le_refl _)) ?_))
        go_roundw
        case rel =>
          refine ⟨k + 1, by omega, by go_num, ?_, (hb.out.alloc hb.out.size _).alloc (by have := hb.out.size; simp; omega) _⟩
          rw [HTX.out, It.text, E.out, sOf_append]
          rfl
        case measure => simp [intOf]; omega
      · by_cases p2 : x.body.length < 256
        · have E : Hid (lenB x.body.length = [129, x.body.length]) := (by simp [lenB, p1, p2] : lenB x.body.length = [129, x.body.length])
          have m1 : (x.body.length : Int) % 256 = (x.body.length : Int) := by omega
          have q1 : (x.body.length : Int) ≥ 128 := by omega
          have q2 : ¬ (x.body.length : Int) ≥ 256 := by omega
          have HB3 : Hid (∀ o1 o2 o3, Below w.heap.size w (((wr.alloc o1).alloc o2).alloc o3)) := fun o1 o2 o3 => (((hb.out.alloc hb.out.size _).alloc (by have := hb.out.size; simp; omega) _).alloc (by have := hb.out.size; simp; omega) _)
          go_wp2_with (first | (refine wp_conv rfl (.tmp 41) rfl _ [x.tag, 129, x.body.length] rfl (By.three ((cell_top (by simp)).trans (by simp [b8])) ((cell_top (by simp)).trans (by simp [b8])) ((cell_top (by simp)).trans (by simp [b8]))) ?_) | (refine wp_conv rfl (.tmp 44) rfl _ x.body rfl (HU.out.up (HB3.out _ _ _) (Nat.le_refl _)) ?_))
          go_roundw
          case rel =>
            refine ⟨k + 1, by omega, by go_num, ?_, HB3.out _ _ _⟩
            rw [HTX.out, It.text, E.out, sOf_append]
            rfl
          case measure => simp [intOf]; omega
        · have E : Hid (lenB x.body.length = [130, x.body.length / 256, x.body.length % 256]) := (by simp [lenB, p1, p2] : lenB x.body.length = [130, x.body.length / 256, x.body.length % 256])
          have m1 : (x.body.length : Int) / 256 % 256 = ((x.body.length / 256 : Nat) : Int) := by omega
          have m2 : (x.body.length : Int) % 256 % 256 = ((x.body.length % 256 : Nat) : Int) := by omega
          have q1 : (x.body.length : Int) ≥ 128 := by omega
          have q2 : (x.body.length : Int) ≥ 256 := by omega
          have HB3 : Hid (∀ o1 o2 o3, Below w.heap.size w (((wr.alloc o1).alloc o2).alloc o3)) := fun o1 o2 o3 => (((hb.out.alloc hb.out.size _).alloc (by have := hb.out.size; simp; omega) _).alloc (by have := hb.out.size; simp; omega) _)
          go_wp2_with (first | (refine wp_conv rfl (.tmp 41) rfl _ [x.tag, 130, x.body.length / 256, x.body.length % 256] rfl (By.four ((cell_top (by simp)).trans (by simp [b8])) ((cell_top (by simp)).trans (by simp [b8])) ((cell_top (by simp)).trans (by simp [b8])) ((cell_top (by simp)).trans (by simp [b8]))) ?_) | (refine wp_conv rfl (.tmp 44) rfl _ x.body rfl (HU.out.up (HB3.out _ _ _) (Nat.le_refl _)) ?_))
          go_roundw
          case rel =>
            refine ⟨k + 1, by omega, by go_num, ?_, HB3.out _ _ _⟩
            rw [HTX.out, It.text, E.out, sOf_append]
            rfl
          case measure => simp [intOf]; omega
    · have i1 : ¬ (k : Int) < (l.length : Int) := by omega
      have e : k = l.length := by omega
      subst e
      have E : Hid (l.take l.length = l) := List.take_length
      rw [E.out]
      go_wp2_with fail
      go_ret
      exact ⟨rfl, hb.out⟩
set_option maxHeartbeats 1000000 in
theorem itemsText_none (a : Option Addr) (c : Nat) (w : World) :
    Calls Try.prog 41 #[.slice a 0 c] w fun e w' => e = .returned (.string (sOf (texts []))) ∧ Below w.heap.size w w' := by
  go_enter Try.func41, Try.ntmps41
  go_wp2_with fail
  refine wp_loop_rounds 1 ?_
  rw [rounds_succ]
  go_wp2_with fail
  go_ret
  exact ⟨rfl, Below.refl _ _⟩
theorem itemsText_fun (v : Value) (l : List It) (hok : okIts l) (w : World) (h : Its w v l) :
    Calls Try.prog 41 #[v] w fun e w' => e = .returned (.string (sOf (texts l))) ∧ Below w.heap.size w w' := by
  obtain ⟨a, c, rfl, h1, h2, h3⟩ := h
  cases l with
  | nil => exact itemsText_none a c w
  | cons x l =>
    obtain ⟨b, o, rfl, hc⟩ := h3 (by simp)
    exact itemsText_some (x :: l) b o c hok.1 hok.2 w hc
end Go.Proofs.Ytkgfeacednomfaa
