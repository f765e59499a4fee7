/- DerOrder returns true for every two numbers and every slice of bytes: a number is read as it was, there is one text of it, and texts keep the order. -/
import Derived.Test.YtkgfeacednomfabNumR
import Derived.Test.YtkgfeacednomfabCmpb
import Derived.Test.YtkgfeacednomfabCmp
import Derived.Test.YtkgfeacednomfabEq
import Derived.Test.YtkgfeacednomfabSame
import Derived.Test.YtkgfeacednomfabOpenI
namespace Go.Proofs.Ytkgfeacednomfab
open Go.RowKit
open Go.ChangeShapes Go.WideShapes Go.ChangeAt
set_option linter.unusedSimpArgs false
attribute [local go_sem] YieldsP execOp cell_al
attribute [local simp] MP.eq_p
def MP.by (xs : List Nat) : MP := ⟨fun v w => By w v xs, fun h hb => h.up hb (Nat.le_refl _)⟩
theorem MP.by_p (xs : List Nat) (v : Value) (w : World) : (MP.by xs).p v w = By w v xs := rfl
attribute [local simp] MP.by_p
theorem heap_top2 (w : World) (o o' : Obj) : ((w.alloc o).alloc o').heap[w.heap.size + 1]? = some o' := by
  have := heap_alloc_new (w.alloc o) o'
  rw [show (w.alloc o).heap.size = w.heap.size + 1 by simp] at this
  exact this
theorem numT_low (X : Nat) : ∀ x ∈ numT X, x < 256 := by rw [numT_dT]; exact dT_low _ _
theorem readNum_err {b : List Nat} {n : Nat} (h : readNumS b = .inl n) : n = 2 ∨ n = 3 ∨ n = 4 := by
  unfold readNumS at h
  by_cases h1 : b.length = 0
  · rw [if_pos h1] at h; exact .inr (.inl (Sum.inl.inj h).symm)
  · rw [if_neg h1] at h
    by_cases h2 : 128 ≤ b.getD 0 0 ∨ (b.getD 0 0 = 0 ∧ 1 < b.length ∧ b.getD 1 0 < 128)
    · rw [if_pos h2] at h; exact .inr (.inr (Sum.inl.inj h).symm)
    · rw [if_neg h2] at h
      by_cases h3 : 32 < (if b.getD 0 0 = 0 then b.length - 1 else b.length)
      · rw [if_pos h3] at h; exact .inl (Sum.inl.inj h).symm
      · rw [if_neg h3] at h; cases h
theorem Try.cellsNum : Try.prog.cellsOf 39 = 4 := by kernel_rfl
theorem Try.cellsU64 : Try.prog.cellsOf 37 = 1 := by kernel_rfl
set_option maxRecDepth 20000 in
set_option maxHeartbeats 700000 in
theorem derOrder_law (a : Nm) (oa : a.ok) (b : Nm) (ob : b.ok) (v : Value) (s : List Nat) (lo : lowB s) (w : World) (h : By w v s) :
    Calls Try.prog 7 #[N a, N b, v] w fun e w' => e = .returned (.bool true) ∧ Below w.heap.size w w' := by
  obtain ⟨X, hX⟩ : ∃ X, X = a.val.toNat := ⟨_, rfl⟩
  obtain ⟨Y, hY⟩ : ∃ Y, Y = b.val.toNat := ⟨_, rfl⟩
  have NA : Hid _ := number_fun a oa
  have NB : Hid _ := number_fun b ob
  rw [← hX] at NA
  rw [← hY] at NB
  have LX : Hid (X < 2 ^ 256) := by rw [hX]; exact nat_lt256 oa
  have AX : Hid (Nm.of ((X : Nat) : Int) = a) := by rw [hX, val_nat oa]; exact (Nm.eq_of oa rfl).symm
  have H : Hid (By w v s) := h
  have LO : Hid (∀ x ∈ s, x < 256) := lo
  have CM : Hid _ := cmp_fun a b oa ob
  have HXX : Hid (X = a.val.toNat) := hX
  have HYY : Hid (Y = b.val.toNat) := hY
  clear h lo hX hY
  go_enter Try.func7, Try.ntmps7
  go_wp2_with fail
  refine wp_region_monoE [MP.eq (N a), MP.by (numT X), MP.eq (N b), MP.by (numT Y), MP.by (numT X), MP.by (numT Y)] (by kernel_rfl) (by kernel_rfl) rfl ?_
  apply Exists.intro
  refine ⟨fun vals => ?_, ?_, fun vals3 w3 hb3 hF => ?_⟩
  · simp only [putsV, dstL, List.length_cons, List.length_nil, Nat.zero_add, Nat.reduceAdd, List.getElem?_cons_zero, List.getElem?_cons_succ, Option.bind_some, Act.put, List.setIfInBounds_toArray, List.set_cons_succ, List.set_cons_zero]
    rfl
  · refine ⟨?_, ?_, ?_, ?_, ?_, ?_, trivial⟩
    · intro vals W hW hw hd
      try simp [Region.binds] at hd
      refine ⟨by first | rfl | simp [Region.wanted, yielded, hd], ?_⟩
      obtain ⟨u0, u1, u2, u3⟩ := num_cells ((hW.out.block _ (by simp; omega)).trans (heap_new2 w _ _))
      simp [go_sem, u0, u1, u2, u3]
      exact Below.refl _ _
    · intro vals W hW hw hd
      try simp [Region.binds] at hd
      refine ⟨by first | rfl | simp [Region.wanted, yielded, hd], ?_⟩
      simp [go_sem, hd]
      exact (NA.out W).mono fun e w' ⟨⟨v', he, hs⟩, hb⟩ => ⟨v', he, hs, hb⟩
    · intro vals W hW hw hd
      try simp [Region.binds] at hd
      refine ⟨by first | rfl | simp [Region.wanted, yielded, hd], ?_⟩
      obtain ⟨u0, u1, u2, u3⟩ := num_cells ((hW.out.block _ (by simp)).trans (heap_top2 w _ _))
      simp [go_sem, u0, u1, u2, u3]
      exact Below.refl _ _
    · intro vals W hW hw hd
      try simp [Region.binds] at hd
      refine ⟨by first | rfl | simp [Region.wanted, yielded, hd], ?_⟩
      simp [go_sem, hd]
      exact (NB.out W).mono fun e w' ⟨⟨v', he, hs⟩, hb⟩ => ⟨v', he, hs, hb⟩
    · intro vals W hW hw hd
      try simp [Region.binds] at hd
      refine ⟨by first | rfl | simp [Region.wanted, yielded, hd], ?_⟩
      simp [go_sem]
      exact ⟨by simp [hd], Below.refl _ _⟩
    · intro vals W hW hw hd
      try simp [Region.binds] at hd
      refine ⟨by first | rfl | simp [Region.wanted, yielded, hd], ?_⟩
      simp [go_sem]
      exact ⟨by simp [hd], Below.refl _ _⟩
  obtain ⟨f0, f1, f2, f3, f4, f5, _⟩ := hF
  simp only [MP.eq_p] at f0 f2
  simp only [MP.by_p] at f4 f5
  have BA : Hid (w3.heap[w.heap.size]? = some (.cells #[.int .u64 a.a, .int .u64 a.b, .int .u64 a.c, .int .u64 a.d] 39 (0, 0))) := (hb3.out.block _ (by simp; omega)).trans (heap_new2 w _ _)
  have BB : Hid (w3.heap[w.heap.size + 1]? = some (.cells #[.int .u64 b.a, .int .u64 b.b, .int .u64 b.c, .int .u64 b.d] 39 (0, 0))) := (hb3.out.block _ (by simp)).trans (heap_top2 w _ _)
  have B3 : Hid (Below w.heap.size w w3) := (((Below.refl _ _).alloc (Nat.le_refl _) _).alloc (by simp) _).trans (hb3.out.mono (by simp; omega))
  obtain ⟨a1, c1, e1⟩ := f4.len
  obtain ⟨a2, c2, e2⟩ := f5.len
  rw [e1] at f4 ⊢
  rw [e2] at f5 ⊢
  have U1 : Hid (By w3 _ (numT X)) := f4
  have U2 : Hid (By w3 _ (numT Y)) := f5
  have XL : Hid ((numT X).length ≤ 33) := by
    have := lenN_256 LX.out
    rw [numT_dT, dT_len]
    exact (by omega : lenN X / 8 + 1 ≤ 33)
  clear f0 f1 f2 f3 f4 f5 hb3 e1 e2 NA NB
  generalize vals3 0 = q0
  generalize vals3 1 = q1
  generalize vals3 2 = q2
  generalize vals3 3 = q3
  obtain ⟨nx, hnx⟩ : ∃ nx, nx = (numT X).length := ⟨_, rfl⟩
  obtain ⟨ny, hny⟩ : ∃ ny, ny = (numT Y).length := ⟨_, rfl⟩
  rw [← hnx, ← hny]
  rw [← hnx] at U1 XL
  rw [← hny] at U2
  have HNX : Hid (nx = (numT X).length) := hnx
  have HNY : Hid (ny = (numT Y).length) := hny
  clear hnx hny
  go_wp2_with fail
  refine (readNumber_fun _ (numT X) (numT_low X) w3 U1.out).mono ?_
  rintro e w4 ⟨he, hb⟩
  have he2 : e = .returned (.tuple #[N a, i64 0]) := by
    rcases he with ⟨n, hn, _⟩ | ⟨Z, hZ, rfl⟩
    · rw [readNum_back LX.out] at hn; cases hn
    · rw [readNum_back LX.out] at hZ
      rw [← Sum.inr.inj hZ, AX.out]
  subst he2
  have BA4 : Hid (w4.heap[w.heap.size]? = _) := (hb.block _ (Array.getElem?_eq_some_iff.1 BA.out).1).trans BA.out
  have BB4 : Hid (w4.heap[w.heap.size + 1]? = _) := (hb.block _ (Array.getElem?_eq_some_iff.1 BB.out).1).trans BB.out
  have B4 : Hid (Below w.heap.size w w4) := B3.out.trans (hb.mono B3.out.size)
  have V1 : Hid (By w4 _ (numT X)) := U1.out.up hb (Nat.le_refl _)
  have V2 : Hid (By w4 _ (numT Y)) := U2.out.up hb (Nat.le_refl _)
  obtain ⟨g0, g1, g2, g3⟩ := num_cells BA4.out
  obtain ⟨j0, j1, j2, j3⟩ := num_cells BB4.out
  have en := neN a a
  rw [Nm.beq_self] at en
  have x33 : ¬ (nx : Int) > 33 := by have := XL.out; omega
  clear hb he BA BB B3 U1 U2 XL
  go_wp2_with fail
  refine (CM.out _).mono ?_
  rintro e w5 ⟨rfl, hb⟩
  have b45 : Below w4.heap.size w4 w5 := ((Below.refl _ _).alloc (Nat.le_refl _) _).trans (hb.mono (by simp))
  have B5 : Hid (Below w.heap.size w w5) := B4.out.trans (b45.mono B4.out.size)
  have W1 : Hid (By w5 _ (numT X)) := V1.out.up b45 (Nat.le_refl _)
  have W2 : Hid (By w5 _ (numT Y)) := V2.out.up b45 (Nat.le_refl _)
  clear hb b45 V1 V2 g0 g1 g2 g3 j0 j1 j2 j3 BA4 BB4 B4 x33
  by_cases hxy : X < Y
  · have cv : cmpV a b = -1 := by
      unfold cmpV
      rw [if_pos]
      rw [← val_nat oa, ← val_nat ob, ← HXX.out, ← HYY.out]
      omega
    rw [cv]
    obtain ⟨l1, l2⟩ := numT_lt hxy
    rw [← HNX.out, ← HNY.out] at l1 l2
    have l3 : ¬ (nx : Int) > (ny : Int) := by omega
    by_cases hle : nx = ny
    · have CP : Hid (Lib.compareBytes (sOf (numT X)).data.toList (sOf (numT Y)).data.toList = -1) := by
        rw [sOf_data, sOf_data]
        exact compare_lt _ _ (numT_low X) (numT_low Y) (by rw [← HNX.out, ← HNY.out]; exact hle) (l2 hle)
      have l4 : (nx : Int) = (ny : Int) := by omega
      clear l1 l2 cv hle
      go_wp2_with fail
      refine (compare_fun _ _ (numT X) (numT Y) w5 W1.out W2.out).mono ?_
      rintro e w6 ⟨rfl, hb⟩
      rw [CP.out]
      have B6 : Hid (Below w.heap.size w w6) := B5.out.trans (hb.mono B5.out.size)
      clear hb W1 W2 B5
      go_wp2_with fail
      refine (readNumber_fun v s LO.out w6 (H.out.up B6.out (Nat.le_refl _))).mono ?_
      rintro e w7 ⟨he, hb⟩
      have B7 : Hid (Below w.heap.size w w7) := B6.out.trans (hb.mono B6.out.size)
      clear hb
      rcases he with ⟨n, hn, rfl⟩ | ⟨Z, hZ, rfl⟩
      · have n3 := readNum_err hn
        have nz : ¬ (n : Int) = 0 := by omega
        have ez := eqN ⟨0, 0, 0, 0⟩ ⟨0, 0, 0, 0⟩
        rw [Nm.beq_self] at ez
        clear n3 hn
        go_wp2_with fail
        go_ret
        exact ⟨rfl, B7.out.alloc B7.out.size _⟩
      · obtain ⟨hz1, hz2⟩ := readNum_one LO.out hZ
        have ZV : (Nm.of ((Z : Nat) : Int)).val = ((Z : Nat) : Int) := Nm.of_val (by omega) (by rw [M_c]; exact Int.ofNat_lt.2 hz2)
        have NZ : Hid (∀ W, Calls Try.prog 15 #[N (Nm.of ((Z : Nat) : Int))] W fun e w' => (∃ u, e = .returned u ∧ By w' u s) ∧ Below W.heap.size W w') := by
          intro W
          have := number_fun (Nm.of ((Z : Nat) : Int)) (Nm.of_ok _) W
          rw [ZV, Int.toNat_natCast, hz1] at this
          exact this
        clear hz1 hz2 ZV hZ
        generalize Nm.of ((Z : Nat) : Int) = mz at *
        go_wp2_with fail
        refine (NZ.out _).mono ?_
        rintro e w8 ⟨⟨u8, rfl, hu8⟩, hb⟩
        have B8 : Hid (Below w.heap.size w w8) := (B7.out.alloc B7.out.size _).trans (hb.mono (by have := B7.out.size; simp; omega))
        have U8 : Hid (By w8 u8 s) := hu8
        clear hb hu8
        go_wp2_with fail
        refine (equal_fun u8 v s s LO.out LO.out w8 U8.out (H.out.up B8.out (Nat.le_refl _))).mono ?_
        rintro e w9 ⟨rfl, hb⟩
        rw [show decide (s = s) = true by simp]
        have B9 : Hid (Below w.heap.size w w9) := B8.out.trans (hb.mono B8.out.size)
        clear hb
        go_wp2_with fail
        go_ret
        exact ⟨rfl, B9.out⟩
    · have l4 : ¬ (nx : Int) = (ny : Int) := by omega
      have l5 : ((nx : Int) == (ny : Int)) = false := beq_eq_false_iff_ne.2 l4
      clear l1 l2 cv hle l4 W1 W2
      go_wp2_with fail
      refine (readNumber_fun v s LO.out w5 (H.out.up B5.out (Nat.le_refl _))).mono ?_
      rintro e w7 ⟨he, hb⟩
      have B7 : Hid (Below w.heap.size w w7) := B5.out.trans (hb.mono B5.out.size)
      clear hb
      rcases he with ⟨n, hn, rfl⟩ | ⟨Z, hZ, rfl⟩
      · have n3 := readNum_err hn
        have nz : ¬ (n : Int) = 0 := by omega
        have ez := eqN ⟨0, 0, 0, 0⟩ ⟨0, 0, 0, 0⟩
        rw [Nm.beq_self] at ez
        clear n3 hn
        go_wp2_with fail
        go_ret
        exact ⟨rfl, B7.out.alloc B7.out.size _⟩
      · obtain ⟨hz1, hz2⟩ := readNum_one LO.out hZ
        have ZV : (Nm.of ((Z : Nat) : Int)).val = ((Z : Nat) : Int) := Nm.of_val (by omega) (by rw [M_c]; exact Int.ofNat_lt.2 hz2)
        have NZ : Hid (∀ W, Calls Try.prog 15 #[N (Nm.of ((Z : Nat) : Int))] W fun e w' => (∃ u, e = .returned u ∧ By w' u s) ∧ Below W.heap.size W w') := by
          intro W
          have := number_fun (Nm.of ((Z : Nat) : Int)) (Nm.of_ok _) W
          rw [ZV, Int.toNat_natCast, hz1] at this
          exact this
        clear hz1 hz2 ZV hZ
        generalize Nm.of ((Z : Nat) : Int) = mz at *
        go_wp2_with fail
        refine (NZ.out _).mono ?_
        rintro e w8 ⟨⟨u8, rfl, hu8⟩, hb⟩
        have B8 : Hid (Below w.heap.size w w8) := (B7.out.alloc B7.out.size _).trans (hb.mono (by have := B7.out.size; simp; omega))
        have U8 : Hid (By w8 u8 s) := hu8
        clear hb hu8
        go_wp2_with fail
        refine (equal_fun u8 v s s LO.out LO.out w8 U8.out (H.out.up B8.out (Nat.le_refl _))).mono ?_
        rintro e w9 ⟨rfl, hb⟩
        rw [show decide (s = s) = true by simp]
        have B9 : Hid (Below w.heap.size w w9) := B8.out.trans (hb.mono B8.out.size)
        clear hb
        go_wp2_with fail
        go_ret
        exact ⟨rfl, B9.out⟩
  · have cv : cmpV a b = 0 ∨ cmpV a b = 1 := by
      unfold cmpV
      rw [if_neg]
      · split
        · exact .inr rfl
        · exact .inl rfl
      · rw [← val_nat oa, ← val_nat ob, ← HXX.out, ← HYY.out]
        omega
    have cv2 : ¬ cmpV a b < 0 := by omega
    generalize cmpV a b = cc at *
    clear cv W1 W2
    go_wp2_with fail
    refine (readNumber_fun v s LO.out w5 (H.out.up B5.out (Nat.le_refl _))).mono ?_
    rintro e w7 ⟨he, hb⟩
    have B7 : Hid (Below w.heap.size w w7) := B5.out.trans (hb.mono B5.out.size)
    clear hb
    rcases he with ⟨n, hn, rfl⟩ | ⟨Z, hZ, rfl⟩
    · have n3 := readNum_err hn
      have nz : ¬ (n : Int) = 0 := by omega
      have ez := eqN ⟨0, 0, 0, 0⟩ ⟨0, 0, 0, 0⟩
      rw [Nm.beq_self] at ez
      clear n3 hn
      go_wp2_with fail
      go_ret
      exact ⟨rfl, B7.out.alloc B7.out.size _⟩
    · obtain ⟨hz1, hz2⟩ := readNum_one LO.out hZ
      have ZV : (Nm.of ((Z : Nat) : Int)).val = ((Z : Nat) : Int) := Nm.of_val (by omega) (by rw [M_c]; exact Int.ofNat_lt.2 hz2)
      have NZ : Hid (∀ W, Calls Try.prog 15 #[N (Nm.of ((Z : Nat) : Int))] W fun e w' => (∃ u, e = .returned u ∧ By w' u s) ∧ Below W.heap.size W w') := by
        intro W
        have := number_fun (Nm.of ((Z : Nat) : Int)) (Nm.of_ok _) W
        rw [ZV, Int.toNat_natCast, hz1] at this
        exact this
      clear hz1 hz2 ZV hZ
      generalize Nm.of ((Z : Nat) : Int) = mz at *
      go_wp2_with fail
      refine (NZ.out _).mono ?_
      rintro e w8 ⟨⟨u8, rfl, hu8⟩, hb⟩
      have B8 : Hid (Below w.heap.size w w8) := (B7.out.alloc B7.out.size _).trans (hb.mono (by have := B7.out.size; simp; omega))
      have U8 : Hid (By w8 u8 s) := hu8
      clear hb hu8
      go_wp2_with fail
      refine (equal_fun u8 v s s LO.out LO.out w8 U8.out (H.out.up B8.out (Nat.le_refl _))).mono ?_
      rintro e w9 ⟨rfl, hb⟩
      rw [show decide (s = s) = true by simp]
      have B9 : Hid (Below w.heap.size w w9) := B8.out.trans (hb.mono B8.out.size)
      clear hb
      go_wp2_with fail
      go_ret
      exact ⟨rfl, B9.out⟩
set_option maxRecDepth 100000 in
theorem derOrder_lifted (os : Os) (started : os.Started) (H : Type) (enc : TypeId × Value → H) :
    ReturnsInHanded {} Try.checked os 7 .any (Rows.derOrderSpec.pre6 enc Try.prog Try.f7 Rows.derOrderRow.domain false) (Rows.derOrderSpec.post enc Try.prog Try.f7 false true false false) := by
  refine returnsInHanded_of_change (C := Try.checked) Try.own started (by kernel_rfl) Try.func7
    (ChangeSpec.witness6 (enc := enc) (C := Try.checked) false ⟨#[], #[.agg #[.int .u64 0, .int .u64 0, .int .u64 0, .int .u64 0], .agg #[.int .u64 0, .int .u64 0, .int .u64 0, .int .u64 0], .slice none 0 0], []⟩ 8 (by kernel_rfl) (by kernel_rfl) (by kernel_rfl) (by kernel_rfl)) ?_
  intro W base args ds gs before hval0 hW hcnd _
  have hval : ∀ (j : Nat) t v, Try.f7.params[j]? = some t → args[j]? = some v → Value.okWide Try.prog W .any base t v := hval0
  have hW' := hW
  obtain ⟨p, q, hA0, hV, rfl, hfz, hnd⟩ := hW
  have hA : DataW.TrodAll enc Try.prog W 0 (fun _ => true) true Try.f7.params.toList args.toList ds p := hA0
  rw [Try.params7] at hA hval
  obtain ⟨v0, v1, v2, d0, d1, d2, p0, p1, p2, rfl, rfl, rfl, h0, h1, h2⟩ := trodAll_three hA
  obtain ⟨rfl, rfl⟩ := trodVars_none hV
  simp only [List.append_nil] at hW'
  have hlt : ∀ x ∈ p0 ++ p1 ++ p2, x.block < W.heap.size := fun x hx => by simpa using hW'.lt x (by simpa using hx)
  obtain ⟨xs0, l0, rfl, rfl, rfl, w0⟩ := open_arr Try.underlying39 Try.underlying37 Try.cellsU64 Try.cellsNum (hval 0 39 v0 rfl rfl) h0
  obtain ⟨a0, b0, c0, d0, rfl⟩ := list4 xs0 l0
  have ok0 : (⟨a0, b0, c0, d0⟩ : Nm).ok := ⟨word_of_wf (w0 _ (by simp)), word_of_wf (w0 _ (by simp)), word_of_wf (w0 _ (by simp)), word_of_wf (w0 _ (by simp))⟩
  obtain ⟨xs1, l1, rfl, rfl, rfl, w1⟩ := open_arr Try.underlying39 Try.underlying37 Try.cellsU64 Try.cellsNum (hval 1 39 v1 rfl rfl) h1
  obtain ⟨a1, b1, c1, d1, rfl⟩ := list4 xs1 l1
  have ok1 : (⟨a1, b1, c1, d1⟩ : Nm).ok := ⟨word_of_wf (w1 _ (by simp)), word_of_wf (w1 _ (by simp)), word_of_wf (w1 _ (by simp)), word_of_wf (w1 _ (by simp))⟩
  have hk2 : ∀ W' : World, Below W.heap.size W W' → DataW.Trod enc Try.prog W' 0 (fun b => decide (b < W.heap.size)) true 22 v2 d2 p2 := fun W' hn => Below.trod Try.laidOut (by kernel_rfl) (of_decide_eq_true (by kernel_rfl)) h2 hn (fun x hx => hlt x (by simp [hx]))
  obtain ⟨a2, n2, c2, rfl⟩ := okWide_slice Try.uBytes (hval 2 22 v2 rfl rfl)
  obtain ⟨fuel2, hf2⟩ := h2
  obtain ⟨l2, low2, hI2, len2⟩ := by_of_trod (u := .slice a2 n2 c2) (by simpa [Value.cells] using hf2)
  refine (derOrder_law ⟨a0, b0, c0, d0⟩ ok0 ⟨a1, b1, c1, d1⟩ ok1 _ l2 low2 W hI2).mono fun e W' ⟨he, hg⟩ => ?_
  subst he
  exact ⟨_, rfl, _, _, _, [], _, [], hW', trodAll_mk1 (shut_bool Try.underlying4 _), trodAll_mk3 (shut_arr Try.underlying39 Try.underlying37 Try.cellsU64 Try.cellsNum l0 w0) (shut_arr Try.underlying39 Try.underlying37 Try.cellsU64 Try.cellsNum l1 w1) (hk2 _ hg), rfl, hg.frame _, fun h => by cases h⟩

theorem derOrder_holds : Rows.DerOrderSaid :=
  OpenClaim.holds_of_wide 7 Try.f7 rfl rfl rfl rfl rfl rfl rfl ⟨rfl, rfl, rfl, rfl, rfl⟩ rfl rfl rfl rfl rfl (by kernel_rfl) Try.func7 (by kernel_rfl)
    (of_decide_eq_true (by kernel_rfl)) (by unfold Func.isWrapper; first | (rw [if_pos (by decide +kernel)]; kernel_rfl) | (rw [if_neg (by decide +kernel)]; exact ⟨rfl, rfl⟩))
    (fun os started H enc _ => derOrder_lifted os started H enc)
#print axioms derOrder_holds
end Go.Proofs.Ytkgfeacednomfab
