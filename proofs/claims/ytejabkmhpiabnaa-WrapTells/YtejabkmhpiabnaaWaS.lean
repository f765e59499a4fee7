/- The contract of wrap.stepped: eight bytes xor a number. -/
import Derived.Test.YtejabkmhpiabnaaGrp30
import Derived.Test.YtejabkmhpiabnaaUpS
namespace Go.Proofs.Ytejabkmhpiabnaa
open Go.RowKit
set_option linter.unusedSimpArgs false
attribute [local go_sem] YieldsP execOp
attribute [local simp] MP.eq_p
theorem shr_nat (n s : Nat) (hs : s < 64) : Op.shift .shr .i64 (n : Int) .i64 (s : Int) = pure (.int .i64 ((n / 2 ^ s : Nat) : Int)) := by
  rw [shift_shr_any _ _ _ _ (by omega)]
  have e : min (s : Int).toNat (IntKind.bits .i64) = s := by
    show min s 64 = s
    omega
  rw [e]
  congr 2
set_option maxRecDepth 20000 in
set_option maxHeartbeats 1000000 in
theorem wstepped_fun (a : List Nat) (ha : A.ok 8 a) (n : Nat) (hn : n < 65536) (w : World) : Calls Try.prog 26 #[aB a, .int .i64 (n : Int)] w fun e w' => e = .returned (aB (A.xor8 a (A.be8 n))) ∧ Below w.heap.size w w' := by
  obtain ⟨old, hold⟩ : ∃ old : Nat → Nat, old = fun p => a.getD p 0 := ⟨_, rfl⟩
  obtain ⟨new, hnew⟩ : ∃ new : Nat → Nat, new = fun p => a.getD p 0 ^^^ (A.be8 n).getD p 0 := ⟨_, rfl⟩
  have NE : Hid (A.xor8 a (A.be8 n) = A.by_ 8 new) := by rw [hnew]; exact rfl
  have CN : Hid (∀ t u, u + t = 7 → new u = old u ^^^ (n / 2 ^ (8 * t) % 256)) := fun t u h => by
    rw [hold, hnew]
    show a.getD u 0 ^^^ (A.be8 n).getD u 0 = _
    unfold A.be8
    rw [A.by_get (by omega), show 7 - u = t by omega, show (256 : Nat) = 2 ^ 8 from rfl, ← Nat.pow_mul]
  have OL : Hid (∀ p, old p < 256) := fun p => by rw [hold]; exact ha.at p
  rw [NE.out]
  obtain ⟨x0, x1, x2⟩ := al2 w (a.map b8).toArray #[Value.int IntKind.u8 0, Value.int IntKind.u8 0, Value.int IntKind.u8 0, Value.int IntKind.u8 0, Value.int IntKind.u8 0, Value.int IntKind.u8 0, Value.int IntKind.u8 0, Value.int IntKind.u8 0] 51 51
  rw [show (a.map b8).toArray.toList = (A.endE old new 0).map b8 by rw [A.endE_zero, hold, A.by_self ha.1]] at x0
  have X0 : Hid (Blk _ w.heap.size ((A.endE old new 0).map b8)) := x0
  have X1 : Hid (Blk _ (w.heap.size + 1) (zB 8)) := x1
  have X2 : Hid (Below w.heap.size w _) := x2
  have NL : Hid (n < 65536) := hn
  clear x0 x1 x2 hold hnew NE ha hn
  go_enter Try.func26, Try.ntmps26
  go_wp2_with (simp only [zero_e8])
  generalize World.alloc (w.alloc _) _ = w1 at *
  go_loopw [6] (fun i wr => ∃ (t : Nat), t ≤ 8 ∧ i = .int .i64 (t : Int) ∧ Hid (Blk wr w.heap.size ((A.endE old new t).map b8)) ∧ Hid (Blk wr (w.heap.size + 1) (zB 8)) ∧ Hid (Below w.heap.size w wr)) (fun i _ => 8 - (intOf i).toNat)
  case atStart => exact ⟨0, by omega, rfl, X0, X1, X2⟩
  case round =>
    clear X0 X1 X2
    obtain ⟨t, ht, rfl, X0, X1, X2⟩ := hrel
    by_cases ht1 : t < 8
    · obtain ⟨u, hu⟩ : ∃ u, u = 7 - t := ⟨_, rfl⟩
      have UT : Hid (u + t = 7) := by show _ = _; omega
      have t1 : (t : Int) < 8 := by omega
      have wt : IntKind.i64.wrap ((t : Int) + 1) = (t : Int) + 1 := by rw [IntKind.wrap_i64]; omega
      have wu : IntKind.i64.wrap (7 - (t : Int)) = (u : Int) := by rw [IntKind.wrap_i64]; omega
      have u1 : (u : Int) < 8 := by omega
      obtain ⟨s, hs⟩ : ∃ s, s = 8 * t := ⟨_, rfl⟩
      have ws : IntKind.i64.wrap (8 * (t : Int)) = (s : Int) := by rw [IntKind.wrap_i64]; omega
      have cn := CN.out t u UT.out
      rw [← hs] at cn
      have SF : Hid (binOp .shr 3 (Value.int .i64 (n : Int)) (Value.int .i64 (s : Int)) = pure (.int .i64 ((n / 2 ^ s : Nat) : Int))) := shr_nat n s (by omega)
      have cb : n / 2 ^ s < 65536 := Nat.lt_of_le_of_lt (Nat.div_le_self _ _) NL.out
      generalize n / 2 ^ s = ct at *
      obtain ⟨lo, hlo⟩ : ∃ lo, lo = ct % 256 := ⟨_, rfl⟩
      have w8 : IntKind.u8.wrap (ct : Int) = (lo : Int) := by rw [IntKind.wrap_u8]; omega
      have xe : bits .xor .u8 ((old u : Nat) : Int) (lo : Int) = ((new u : Nat) : Int) := by rw [cn, ← hlo]; exact g_xor (OL.out u) (by omega)
      have c0 : Hid (∀ W, Below wr.heap.size wr W → W.cell? ⟨w.heap.size, u, none⟩ = some (b8 (old u))) := fun W hW => by
        have := (X0.out.up hW X0.out.lt).byte u (by rw [A.endE_length]; omega)
        rwa [A.endE_at old new UT.out] at this
      have US : Hid (∀ W, Blk W w.heap.size ((A.endE old new t).map b8) → Blk (W.setCell ⟨w.heap.size, u, none⟩ (b8 (new u))) w.heap.size ((A.endE old new (t + 1)).map b8)) := fun W h => by
        rw [← A.endE_set old new UT.out]
        exact h.setB _ _ (by rw [A.endE_length]; have := UT.out; omega)
      have T1 : Hid (t < 8) := ht1
      generalize new u = nu at *
      generalize old u = ou at *
      clear hlo hs cn cb hu ht ht1
      go_wp2_with fail
      refine wp_region_monoSE 11 [MP.eq (.int .i64 (t : Int)), MP.eq (.int .i64 (u : Int)), MP.eq (.pointer (some ⟨w.heap.size, u, none⟩)), MP.eq (b8 ou), MP.eq (.int .i64 (n : Int)), MP.eq (.int .i64 (t : Int)), MP.eq (.int .i64 (s : Int)), MP.eq (.int .i64 (ct : Int)), MP.eq (.int .u8 (lo : Int)), MP.eq (b8 nu), MP.eq (.pointer (some ⟨w.heap.size, u, none⟩))] (by kernel_rfl) (by kernel_rfl) rfl (by decide) (by kernel_rfl) ?_
      apply Exists.intro
      refine ⟨fun vals => ?_, ?_, fun vals4 w4 hb4 hF hO => ?_⟩
      · simp only [putsV, dstL, List.length_cons, List.length_nil, Nat.zero_add, Nat.reduceAdd, List.getElem?_cons_zero, List.getElem?_cons_succ, Option.bind_some, Act.put, List.setIfInBounds_toArray, List.set_cons_succ, List.set_cons_zero]
        rfl
      · refine ⟨?_, ?_, ?_, ?_, ?_, ?_, ?_, ?_, ?_, ?_, ?_, trivial⟩
        · intro vals W hW hw hd
          try simp [Region.binds] at hd
          refine ⟨by first | rfl | simp [Region.wanted, yielded, hd], ?_⟩
          simp [go_sem, hd]
          exact Below.refl _ _
        · intro vals W hW hw hd
          try simp [Region.binds] at hd
          refine ⟨by first | rfl | simp [Region.wanted, yielded, hd], ?_⟩
          simp [go_sem, hd, wu]
          exact Below.refl _ _
        · intro vals W hW hw hd
          try simp [Region.binds] at hd
          refine ⟨by first | rfl | simp [Region.wanted, yielded, hd], ?_⟩
          simp [go_sem, hd, u1]
          exact Below.refl _ _
        · intro vals W hW hw hd
          try simp [Region.binds] at hd
          refine ⟨by first | rfl | simp [Region.wanted, yielded, hd], ?_⟩
          have cc := c0.out W hW.out
          simp [go_sem, hd, cc]
          exact Below.refl _ _
        · intro vals W hW hw hd
          try simp [Region.binds] at hd
          refine ⟨by first | rfl | simp [Region.wanted, yielded, hd], ?_⟩
          simp [go_sem, hd]
          exact Below.refl _ _
        · intro vals W hW hw hd
          try simp [Region.binds] at hd
          refine ⟨by first | rfl | simp [Region.wanted, yielded, hd], ?_⟩
          simp [go_sem, hd]
          exact Below.refl _ _
        · intro vals W hW hw hd
          try simp [Region.binds] at hd
          refine ⟨by first | rfl | simp [Region.wanted, yielded, hd], ?_⟩
          simp [go_sem, hd, ws]
          exact Below.refl _ _
        · intro vals W hW hw hd
          try simp [Region.binds] at hd
          refine ⟨by first | rfl | simp [Region.wanted, yielded, hd], ?_⟩
          have sf := SF.out
          simp [go_sem, hd, sf]
          exact Below.refl _ _
        · intro vals W hW hw hd
          try simp [Region.binds] at hd
          refine ⟨by first | rfl | simp [Region.wanted, yielded, hd], ?_⟩
          simp [go_sem, hd, w8]
          exact Below.refl _ _
        · intro vals W hW hw hd
          try simp [Region.binds] at hd
          refine ⟨by first | rfl | simp [Region.wanted, yielded, hd], ?_⟩
          simp [go_sem, hd, xe]
          exact Below.refl _ _
        · intro vals W hW hw hd
          try simp [Region.binds] at hd
          refine ⟨by first | rfl | simp [Region.wanted, yielded, hd], ?_⟩
          simp [go_sem, hd, u1]
          exact Below.refl _ _
      obtain ⟨f0, f1, f2, f3, f4, f5, f6, f7, f8, f9, f10, _⟩ := hF
      simp only [MP.eq_p] at f0 f1 f2 f3 f4 f5 f6 f7 f8 f9 f10
      rw [f0, f1, f2, f3, f4, f5, f6, f7, f8, f9, f10]
      simp only [List.drop_succ_cons, List.drop_zero]
      have Y0 : Hid (Blk w4 w.heap.size ((A.endE old new t).map b8)) := X0.out.up hb4.out X0.out.lt
      have Y1 : Hid (Blk w4 (w.heap.size + 1) (zB 8)) := X1.out.up hb4.out X1.out.lt
      have Y2 : Hid (Below w.heap.size w w4) := X2.out.trans (hb4.out.mono X2.out.size)
      have c4 := c0.out w4 hb4.out
      have z4 := Y0.out.fz u
      have V0 : Hid _ := US.out w4 Y0.out
      have V1 : Hid _ := Y1.out.apart1 (k' := w.heap.size) (o := u) (v := b8 nu) (by omega)
      have V2 : Hid _ := Y2.out.setCell (p := ⟨w.heap.size, u, none⟩) (Nat.le_refl _) (b8 nu)
      clear f0 f1 f2 f3 f4 f5 f6 f7 f8 f9 f10 hb4 hO X0 X1 X2 c0 Y0 Y1 Y2 US SF
      go_wp2_with fail
      go_roundw
      case rel => exact ⟨t + 1, T1.out, by first | rfl | go_num, V0, V1, V2⟩
      case measure => have := T1.out; simp [intOf]; omega
    · obtain rfl : t = 8 := by omega
      rw [A.endE_all] at X0
      have LL : Hid ((A.by_ 8 new).length = 8) := A.by_length _ _
      obtain ⟨l, hl⟩ : ∃ l, l = A.by_ 8 new := ⟨_, rfl⟩
      rw [← hl] at X0 LL
      have HE : Hid (l = A.by_ 8 new) := hl
      clear hl ht ht1
      have T0 : Hid (wr.there (w.heap.size + 1) 0 (l.map b8).length) := X1.out.there (by rw [List.length_map, LL.out, zB_length]; omega)
      go_wp2_with (first | refine wpList_load_mid rfl 51 (.tmp 2) rfl w.heap.size 0 rfl (l.map b8) _ X0.out.all u_e8 rfl (info_n info_e8 l LL.out) ?_ | refine wp_store_eq rfl 51 (.tmp 4) (.tmp 21) rfl (w.heap.size + 1) 0 (l.map b8) rfl rfl T0.out (info_n info_e8 l LL.out) (one_b8 _) ?_)
      intro w9 hw9
      go_wp2_with fail
      refine bodyPost_ret (v := aB l) ?_ rfl ⟨by rw [HE.out], ?_⟩
      · rw [hw9.out]
        exact results_cell (b := w.heap.size + 1) rfl rfl (World.rangeAt_setCells_same _ _ _ _ T0.out) u_e8 rfl (info_n info_e8 l LL.out)
      · rw [hw9.out]
        exact below_setCells _ _ _ X2.out (by omega)
end Go.Proofs.Ytejabkmhpiabnaa
