/- The contract of tree.Root; slices of slices that are cut in a drawn region. -/
import Derived.Test.YtmpniingbioggaaDoorTTree
import Derived.Test.YtmpniingbioggaaDoorTPeaks
import Derived.Test.YtmpniingbioggaaDoorTLogM
import Derived.Test.YtmpniingbioggaaDoorL64
namespace Go.Proofs.YtmpniingbioggaaDoor
open Go.RowKit
set_option linter.unusedSimpArgs false
attribute [local go_sem] YieldsP execOp
attribute [local simp] MP.eq_p
def MP.sb (ls : List (List Nat)) : MP := ⟨fun v w => Sb w v ls, fun h hb => h.up hb (Nat.le_refl _)⟩
theorem yields_frontS {o : Oper} {act : Act} {w : World} (x l : Operand) (ho : o.op = .slice 22 x none (some l) none) (a : Option Addr) (m c n : Nat) (k : IntKind) (z : Int) (ls : List (List Nat)) (hx : act.eval x = .slice a m c) (hl : act.eval l = .int k z) (hm : m = ls.length) (hz : z = (n : Int)) (hn : n ≤ ls.length) (hb : Sb w (.slice a m c) ls) :
    YieldsP Tryd.prog o act w (MP.sb (ls.take n)).p := by
  subst hm hz
  have hc : ls.length ≤ c := by obtain ⟨_, _, e, h1, _⟩ := hb; cases e; exact h1
  have e : (Instr.sliceAt 22 (.slice a ls.length c) none (some (.int k (n : Int))) none).run Tryd.prog w = .ok (sliced a 0 n c 1) w := by
    rw [run_sliceAt_slice (h := slice_elemS), run_slice_h (ht := slice_elemS) (h0 := by omega) (h2 := by omega), elem_bss, size_bytes]
    simp
  have e2 : (execOp act.eval o).run Tryd.prog w = .ok (.value (sliced a 0 n c 1)) w := by
    unfold execOp
    simp [ho, hx, hl, e]
  unfold YieldsP
  rw [e2]
  exact ⟨hb.front hn, Below.refl _ _⟩
theorem yields_cutS {o : Oper} {act : Act} {w : World} (x l : Operand) (ho : o.op = .slice 22 x (some l) none none) (a : Option Addr) (m c n : Nat) (k : IntKind) (z : Int) (ls : List (List Nat)) (hx : act.eval x = .slice a m c) (hl : act.eval l = .int k z) (hm : m = ls.length) (hz : z = (n : Int)) (hn : n ≤ ls.length) (hb : Sb w (.slice a m c) ls) :
    YieldsP Tryd.prog o act w (MP.sb (ls.drop n)).p := by
  subst hm hz
  have e : (Instr.sliceAt 22 (.slice a ls.length c) (some (.int k (n : Int))) none none).run Tryd.prog w = .ok (sliced a n ls.length c 1) w := by
    rw [run_sliceAt_slice (h := slice_elemS), run_slice_l (ht := slice_elemS) (h0 := by omega) (h1 := by omega), elem_bss, size_bytes]
    simp
  have e2 : (execOp act.eval o).run Tryd.prog w = .ok (.value (sliced a n ls.length c 1)) w := by
    unfold execOp
    simp [ho, hx, hl, e]
  unfold YieldsP
  rw [e2]
  exact ⟨hb.cut hn, Below.refl _ _⟩
theorem rootS_one (p : List Nat) : rootS [p] = leafS p := rfl
/-- A tree is a node of its halves. -/
theorem rootS_split {ls : List (List Nat)} {j : Nat} (h1 : 2 ^ j < ls.length) (h2 : ls.length ≤ 2 ^ (j + 1)) : nodeS (rootS (ls.take (2 ^ j))) (rootS (ls.drop (2 ^ j))) = rootS ls := by
  rw [Nat.pow_succ] at h2
  have := T.top_split nodeS (sumS []) (j := j) (l := (ls.take (2 ^ j)).map leafS) (m := (ls.drop (2 ^ j)).map leafS) (by rw [List.length_map, List.length_take]; omega) (by rw [List.length_map, List.length_drop]; omega) (by rw [List.length_map, List.length_drop]; omega)
  rw [← List.map_append, List.take_append_drop] at this
  exact this.symm
def lowL (ls : List (List Nat)) : Prop := ∀ p ∈ ls, (∀ x ∈ p, x < 256) ∧ p.length ≤ 500000000000000
theorem lowL.take {ls : List (List Nat)} (h : lowL ls) (n : Nat) : lowL (ls.take n) := fun p hp => h p (List.mem_of_mem_take hp)
theorem lowL.drop {ls : List (List Nat)} (h : lowL ls) (n : Nat) : lowL (ls.drop n) := fun p hp => h p (List.mem_of_mem_drop hp)
set_option maxRecDepth 20000 in
set_option maxHeartbeats 4000000 in
theorem troot_fun : ∀ (K : Nat) (ls : List (List Nat)) (_ : ls.length ≤ K) (_ : lowL ls) (_ : ls.length ≤ 1000000) (v : Value) (w : World) (_ : Sb w v ls) (_ : KTab w),
    Calls Tryd.prog 15 #[v] w fun e w' => e = .returned (vB (rootS ls)) ∧ Below w.heap.size w w' := by
  intro K
  induction K with
  | zero =>
    intro ls hK low zl v w hv hT
    obtain rfl : ls = [] := List.length_eq_zero_iff.1 (by omega)
    obtain ⟨av, cv, rfl, hc, h3⟩ := id hv
    have HT : Hid (KTab w) := hT
    have ML : Hid ((rootS []).length = 32) := rootS_length _
    have ID : Hid _ := info_d32.trans (congrArg some (show 32 = ((rootS []).map b8).length by rw [List.length_map, rootS_length]))
    obtain ⟨x0, x1⟩ := al1 w #[Value.int IntKind.u8 0, Value.int IntKind.u8 0, Value.int IntKind.u8 0, Value.int IntKind.u8 0, Value.int IntKind.u8 0, Value.int IntKind.u8 0, Value.int IntKind.u8 0, Value.int IntKind.u8 0, Value.int IntKind.u8 0, Value.int IntKind.u8 0, Value.int IntKind.u8 0, Value.int IntKind.u8 0, Value.int IntKind.u8 0, Value.int IntKind.u8 0, Value.int IntKind.u8 0, Value.int IntKind.u8 0, Value.int IntKind.u8 0, Value.int IntKind.u8 0, Value.int IntKind.u8 0, Value.int IntKind.u8 0, Value.int IntKind.u8 0, Value.int IntKind.u8 0, Value.int IntKind.u8 0, Value.int IntKind.u8 0, Value.int IntKind.u8 0, Value.int IntKind.u8 0, Value.int IntKind.u8 0, Value.int IntKind.u8 0, Value.int IntKind.u8 0, Value.int IntKind.u8 0, Value.int IntKind.u8 0, Value.int IntKind.u8 0] 24
    have X0 : Hid (Blk _ _ ((List.replicate 32 0).map b8)) := x0
    have X1 : Hid (Below _ _ _) := x1
    have S0 : Hid (∀ w, KTab w → Calls Tryd.prog 34 #[.slice none 0 0] w fun e w' => e = .returned (vB (rootS [])) ∧ Below w.heap.size w w') := fun w => hsum_fun [] (by simp) (by simp) (.slice none 0 0) w (By.nil w)
    generalize rootS [] = mk at *
    clear hv hT low zl h3 x0 x1 hK
    go_enter Tryd.func15, Tryd.ntmps15
    go_wp2_with fail
    generalize w.alloc (Obj.cells #[Value.int IntKind.u8 0, Value.int IntKind.u8 0, Value.int IntKind.u8 0, Value.int IntKind.u8 0, Value.int IntKind.u8 0, Value.int IntKind.u8 0, Value.int IntKind.u8 0, Value.int IntKind.u8 0, Value.int IntKind.u8 0, Value.int IntKind.u8 0, Value.int IntKind.u8 0, Value.int IntKind.u8 0, Value.int IntKind.u8 0, Value.int IntKind.u8 0, Value.int IntKind.u8 0, Value.int IntKind.u8 0, Value.int IntKind.u8 0, Value.int IntKind.u8 0, Value.int IntKind.u8 0, Value.int IntKind.u8 0, Value.int IntKind.u8 0, Value.int IntKind.u8 0, Value.int IntKind.u8 0, Value.int IntKind.u8 0, Value.int IntKind.u8 0, Value.int IntKind.u8 0, Value.int IntKind.u8 0, Value.int IntKind.u8 0, Value.int IntKind.u8 0, Value.int IntKind.u8 0, Value.int IntKind.u8 0, Value.int IntKind.u8 0] 24) = w1 at *
    refine Calls.mono (S0.out w1 (HT.out.up X1.out HT.out.pos)) ?_
    rintro e w4 ⟨rfl, hb4⟩
    have D4 : Hid (Below w.heap.size w w4) := X1.out.trans (hb4.mono X1.out.size)
    have Y4 : Hid (Blk w4 w.heap.size ((List.replicate 32 0).map b8)) := X0.out.up hb4 X0.out.lt
    clear hb4 X0 X1
    have T1 : Hid (w4.there w.heap.size 0 (mk.map b8).length) := Y4.out.there (by rw [List.length_map, ML.out]; simp)
    go_wp2_with (refine wp_store_eq rfl 24 (.tmp 2) (.tmp 8) rfl w.heap.size 0 (mk.map b8) rfl rfl T1.out ID.out (one_b8 _) ?_)
    intro w5 hw5
    go_wp2_with fail
    refine bodyPost_ret (v := vB mk) ?_ rfl ⟨rfl, ?_⟩
    · rw [hw5.out]
      exact results_cell (b := w.heap.size) rfl rfl (World.rangeAt_setCells_same _ _ _ _ T1.out) u_d32 rfl ID.out
    · rw [hw5.out]
      exact below_setCells _ _ _ D4.out (by omega)
  | succ K ih =>
    intro ls hK low zl v w hv hT
    rcases Nat.lt_trichotomy ls.length 1 with hz | hz | hz
    · exact ih ls (by omega) low zl v w hv hT
    · obtain ⟨p, rfl⟩ := List.length_eq_one_iff.1 hz
      obtain ⟨av, cv, rfl, hc, h3⟩ := id hv
      obtain ⟨b, o, rfl, hr⟩ := h3 (by simp)
      obtain ⟨u, hu, hy⟩ := hr 0 (by simp)
      have lo := low p (by simp)
      have TL : Hid _ := tleaf_fun p lo.1 (by have := lo.2; omega) u
      rw [← rootS_one] at TL
      have BY : Hid (By w u p) := hy
      have HT : Hid (KTab w) := hT
      have ML : Hid ((rootS [p]).length = 32) := rootS_length _
      have ID : Hid _ := info_d32.trans (congrArg some (show 32 = ((rootS [p]).map b8).length by rw [List.length_map, rootS_length]))
      obtain ⟨x0, x1⟩ := al1 w #[Value.int IntKind.u8 0, Value.int IntKind.u8 0, Value.int IntKind.u8 0, Value.int IntKind.u8 0, Value.int IntKind.u8 0, Value.int IntKind.u8 0, Value.int IntKind.u8 0, Value.int IntKind.u8 0, Value.int IntKind.u8 0, Value.int IntKind.u8 0, Value.int IntKind.u8 0, Value.int IntKind.u8 0, Value.int IntKind.u8 0, Value.int IntKind.u8 0, Value.int IntKind.u8 0, Value.int IntKind.u8 0, Value.int IntKind.u8 0, Value.int IntKind.u8 0, Value.int IntKind.u8 0, Value.int IntKind.u8 0, Value.int IntKind.u8 0, Value.int IntKind.u8 0, Value.int IntKind.u8 0, Value.int IntKind.u8 0, Value.int IntKind.u8 0, Value.int IntKind.u8 0, Value.int IntKind.u8 0, Value.int IntKind.u8 0, Value.int IntKind.u8 0, Value.int IntKind.u8 0, Value.int IntKind.u8 0, Value.int IntKind.u8 0] 24
      have X0 : Hid (Blk _ _ ((List.replicate 32 0).map b8)) := x0
      have X1 : Hid (Below _ _ _) := x1
      have CU : World.cell? (w.alloc (Obj.cells #[Value.int IntKind.u8 0, Value.int IntKind.u8 0, Value.int IntKind.u8 0, Value.int IntKind.u8 0, Value.int IntKind.u8 0, Value.int IntKind.u8 0, Value.int IntKind.u8 0, Value.int IntKind.u8 0, Value.int IntKind.u8 0, Value.int IntKind.u8 0, Value.int IntKind.u8 0, Value.int IntKind.u8 0, Value.int IntKind.u8 0, Value.int IntKind.u8 0, Value.int IntKind.u8 0, Value.int IntKind.u8 0, Value.int IntKind.u8 0, Value.int IntKind.u8 0, Value.int IntKind.u8 0, Value.int IntKind.u8 0, Value.int IntKind.u8 0, Value.int IntKind.u8 0, Value.int IntKind.u8 0, Value.int IntKind.u8 0, Value.int IntKind.u8 0, Value.int IntKind.u8 0, Value.int IntKind.u8 0, Value.int IntKind.u8 0, Value.int IntKind.u8 0, Value.int IntKind.u8 0, Value.int IntKind.u8 0, Value.int IntKind.u8 0] 24)) ⟨b, o, none⟩ = some u := (x1.cell (p := ⟨b, o, none⟩) (lt_of_cellB hu)).trans hu
      generalize rootS [p] = mk at *
      clear hv hT low zl h3 x0 x1 hK hr hu hy lo ih hc hz
      simp only [List.length_singleton] at *
      go_enter Tryd.func15, Tryd.ntmps15
      go_wp2_with fail
      generalize w.alloc (Obj.cells #[Value.int IntKind.u8 0, Value.int IntKind.u8 0, Value.int IntKind.u8 0, Value.int IntKind.u8 0, Value.int IntKind.u8 0, Value.int IntKind.u8 0, Value.int IntKind.u8 0, Value.int IntKind.u8 0, Value.int IntKind.u8 0, Value.int IntKind.u8 0, Value.int IntKind.u8 0, Value.int IntKind.u8 0, Value.int IntKind.u8 0, Value.int IntKind.u8 0, Value.int IntKind.u8 0, Value.int IntKind.u8 0, Value.int IntKind.u8 0, Value.int IntKind.u8 0, Value.int IntKind.u8 0, Value.int IntKind.u8 0, Value.int IntKind.u8 0, Value.int IntKind.u8 0, Value.int IntKind.u8 0, Value.int IntKind.u8 0, Value.int IntKind.u8 0, Value.int IntKind.u8 0, Value.int IntKind.u8 0, Value.int IntKind.u8 0, Value.int IntKind.u8 0, Value.int IntKind.u8 0, Value.int IntKind.u8 0, Value.int IntKind.u8 0] 24) = w1 at *
      refine (TL.out w1 (BY.out.up X1.out (Nat.le_refl _)) (HT.out.up X1.out HT.out.pos)).mono ?_
      rintro e w4 ⟨rfl, hb4⟩
      have D4 : Hid (Below w.heap.size w w4) := X1.out.trans (hb4.mono X1.out.size)
      have Y4 : Hid (Blk w4 w.heap.size ((List.replicate 32 0).map b8)) := X0.out.up hb4 X0.out.lt
      clear hb4 X0 X1
      have T1 : Hid (w4.there w.heap.size 0 (mk.map b8).length) := Y4.out.there (by rw [List.length_map, ML.out]; simp)
      go_wp2_with (refine wp_store_eq rfl 24 (.tmp 2) (.tmp 14) rfl w.heap.size 0 (mk.map b8) rfl rfl T1.out ID.out (one_b8 _) ?_)
      intro w5 hw5
      go_wp2_with fail
      refine bodyPost_ret (v := vB mk) ?_ rfl ⟨rfl, ?_⟩
      · rw [hw5.out]
        exact results_cell (b := w.heap.size) rfl rfl (World.rangeAt_setCells_same _ _ _ _ T1.out) u_d32 rfl ID.out
      · rw [hw5.out]
        exact below_setCells _ _ _ D4.out (by omega)
    · obtain ⟨j, h1, h2⟩ := T.cut_ex hz
      have CF : Hid _ := cut_fun ls.length j h1 h2 (by omega)
      have SP : Hid _ := rootS_split h1 h2
      have lt1 : (ls.take (2 ^ j)).length = 2 ^ j := by rw [List.length_take]; omega
      have ld1 : (ls.drop (2 ^ j)).length = ls.length - 2 ^ j := List.length_drop
      have p0 : 0 < 2 ^ j := Nat.two_pow_pos j
      have R1 : Hid _ := ih (ls.take (2 ^ j)) (by omega) (low.take _) (by omega)
      have R2 : Hid _ := ih (ls.drop (2 ^ j)) (by omega) (low.drop _) (by omega)
      have ND : Hid _ := tnode_fun (rootS (ls.take (2 ^ j))) (rootS (ls.drop (2 ^ j))) (rootS_low _).1 (rootS_low _).1 (rootS_low _).2 (rootS_low _).2
      rw [SP.out] at ND
      obtain ⟨av, cv, rfl, hc, h3⟩ := id hv
      have HV : Hid (Sb w _ ls) := hv
      have HT : Hid (KTab w) := hT
      have ML : Hid ((rootS ls).length = 32) := rootS_length _
      have ID : Hid _ := info_d32.trans (congrArg some (show 32 = ((rootS ls).map b8).length by rw [List.length_map, rootS_length]))
      obtain ⟨x0, x1⟩ := al1 w #[Value.int IntKind.u8 0, Value.int IntKind.u8 0, Value.int IntKind.u8 0, Value.int IntKind.u8 0, Value.int IntKind.u8 0, Value.int IntKind.u8 0, Value.int IntKind.u8 0, Value.int IntKind.u8 0, Value.int IntKind.u8 0, Value.int IntKind.u8 0, Value.int IntKind.u8 0, Value.int IntKind.u8 0, Value.int IntKind.u8 0, Value.int IntKind.u8 0, Value.int IntKind.u8 0, Value.int IntKind.u8 0, Value.int IntKind.u8 0, Value.int IntKind.u8 0, Value.int IntKind.u8 0, Value.int IntKind.u8 0, Value.int IntKind.u8 0, Value.int IntKind.u8 0, Value.int IntKind.u8 0, Value.int IntKind.u8 0, Value.int IntKind.u8 0, Value.int IntKind.u8 0, Value.int IntKind.u8 0, Value.int IntKind.u8 0, Value.int IntKind.u8 0, Value.int IntKind.u8 0, Value.int IntKind.u8 0, Value.int IntKind.u8 0] 24
      have X0 : Hid (Blk _ _ ((List.replicate 32 0).map b8)) := x0
      have X1 : Hid (Below _ _ _) := x1
      have HP : Hid (2 ^ j ≤ ls.length) := (by omega : 2 ^ j ≤ ls.length)
      clear hv hT low zl h3 x0 x1 hK ih hc h2 lt1 ld1 SP
      generalize rootS ls = mk at *
      generalize rootS (ls.take (2 ^ j)) = r1 at *
      generalize rootS (ls.drop (2 ^ j)) = r2 at *
      generalize 2 ^ j = P at *
      generalize hm : ls.length = m at *
      have HM : Hid (m = ls.length) := hm.symm
      have m0 : ¬ (m : Int) = 0 := by omega
      have m1 : ¬ (m : Int) = 1 := by omega
      clear hm h1 hz p0
      go_enter Tryd.func15, Tryd.ntmps15
      go_wp2_with fail
      generalize w.alloc (Obj.cells #[Value.int IntKind.u8 0, Value.int IntKind.u8 0, Value.int IntKind.u8 0, Value.int IntKind.u8 0, Value.int IntKind.u8 0, Value.int IntKind.u8 0, Value.int IntKind.u8 0, Value.int IntKind.u8 0, Value.int IntKind.u8 0, Value.int IntKind.u8 0, Value.int IntKind.u8 0, Value.int IntKind.u8 0, Value.int IntKind.u8 0, Value.int IntKind.u8 0, Value.int IntKind.u8 0, Value.int IntKind.u8 0, Value.int IntKind.u8 0, Value.int IntKind.u8 0, Value.int IntKind.u8 0, Value.int IntKind.u8 0, Value.int IntKind.u8 0, Value.int IntKind.u8 0, Value.int IntKind.u8 0, Value.int IntKind.u8 0, Value.int IntKind.u8 0, Value.int IntKind.u8 0, Value.int IntKind.u8 0, Value.int IntKind.u8 0, Value.int IntKind.u8 0, Value.int IntKind.u8 0, Value.int IntKind.u8 0, Value.int IntKind.u8 0] 24) = w1 at *
      refine (CF.out w1).mono ?_
      rintro e w1' ⟨rfl, rfl⟩
      go_wp2_with fail
      have KU : Hid (∀ W, Below w1'.heap.size w1' W → KTab W) := fun W hW => HT.out.up (X1.out.trans (hW.mono X1.out.size)) HT.out.pos
      have SU : Hid (∀ W, Below w1'.heap.size w1' W → Sb W (.slice av m cv) ls) := fun W hW => HV.out.up (X1.out.trans (hW.mono X1.out.size)) (Nat.le_refl _)
      refine wp_region_monoSE 9 [MP.eq (.slice av m cv), MP.eq (.int .i64 (P : Int)), MP.sb (ls.take P), MP.eq (vB r1), MP.eq (.slice av m cv), MP.eq (.int .i64 (P : Int)), MP.sb (ls.drop P), MP.eq (vB r2), MP.eq (vB mk)] (by kernel_rfl) (by kernel_rfl) rfl (by decide) (by kernel_rfl) ?_
      apply Exists.intro
      refine ⟨fun vals => ?_, ?_, fun vals4 w4 hb4 hF hO => ?_⟩
      · simp only [putsV, dstL, List.length_cons, List.length_nil, Nat.zero_add, Nat.reduceAdd, List.getElem?_cons_zero, List.getElem?_cons_succ, Option.bind_some, Act.put, List.setIfInBounds_toArray, List.set_cons_succ, List.set_cons_zero]
        rfl
      · refine ⟨?_, ?_, ?_, ?_, ?_, ?_, ?_, ?_, ?_, trivial⟩
        · intro vals W hW hw hd
          try simp [Region.binds] at hd
          refine ⟨by first | rfl | simp [Region.wanted, yielded, hd], ?_⟩
          simp [go_sem, hd]
          exact Below.refl _ _
        · intro vals W hW hw hd
          try simp [Region.binds] at hd
          refine ⟨by first | rfl | simp [Region.wanted, yielded, hd], ?_⟩
          simp [go_sem, hd]
          exact Below.refl _ _
        · intro vals W hW hw hd
          try simp [Region.binds] at hd
          refine ⟨by first | rfl | simp [Region.wanted, yielded, hd], ?_⟩
          exact yields_frontS (.tmp 18) (.tmp 19) rfl av m cv P .i64 P ls hd.1 hd.2 HM.out rfl (by rw [← HM.out]; exact HP.out) (SU.out W hW.out)
        · intro vals W hW hw hd
          try simp [Region.binds] at hd
          refine ⟨by first | rfl | simp [Region.wanted, yielded, hd], ?_⟩
          simp [go_sem, hd]
          exact (R1.out _ W hd (KU.out W hW.out)).mono fun e w' ⟨he, hb⟩ => ⟨_, he, rfl, hb⟩
        · intro vals W hW hw hd
          try simp [Region.binds] at hd
          refine ⟨by first | rfl | simp [Region.wanted, yielded, hd], ?_⟩
          simp [go_sem, hd]
          exact Below.refl _ _
        · intro vals W hW hw hd
          try simp [Region.binds] at hd
          refine ⟨by first | rfl | simp [Region.wanted, yielded, hd], ?_⟩
          simp [go_sem, hd]
          exact Below.refl _ _
        · intro vals W hW hw hd
          try simp [Region.binds] at hd
          refine ⟨by first | rfl | simp [Region.wanted, yielded, hd], ?_⟩
          exact yields_cutS (.tmp 22) (.tmp 23) rfl av m cv P .i64 P ls hd.1 hd.2 HM.out rfl (by rw [← HM.out]; exact HP.out) (SU.out W hW.out)
        · intro vals W hW hw hd
          try simp [Region.binds] at hd
          refine ⟨by first | rfl | simp [Region.wanted, yielded, hd], ?_⟩
          simp [go_sem, hd]
          exact (R2.out _ W hd.1 (KU.out W hW.out)).mono fun e w' ⟨he, hb⟩ => ⟨_, he, rfl, hb⟩
        · intro vals W hW hw hd
          try simp [Region.binds] at hd
          refine ⟨by first | rfl | simp [Region.wanted, yielded, hd], ?_⟩
          simp [go_sem, hd]
          exact (ND.out W (KU.out W hW.out)).mono fun e w' ⟨he, hb⟩ => ⟨_, he, rfl, hb⟩
      obtain ⟨f0, f1, f2, f3, f4, f5, f6, f7, f8, _⟩ := hF
      simp only [MP.eq_p] at f0 f1 f3 f4 f5 f7 f8
      rw [f0, f1, f3, f4, f5, f7, f8]
      simp only [List.drop_succ_cons, List.drop_zero]
      have D4 : Hid (Below w.heap.size w w4) := X1.out.trans (hb4.out.mono X1.out.size)
      have Y4 : Hid (Blk w4 w.heap.size ((List.replicate 32 0).map b8)) := X0.out.up hb4.out X0.out.lt
      clear f0 f1 f2 f3 f4 f5 f6 f7 f8 hb4 hO X0 X1 R1 R2 ND KU SU
      have T1 : Hid (w4.there w.heap.size 0 (mk.map b8).length) := Y4.out.there (by rw [List.length_map, ML.out]; simp)
      go_wp2_with (refine wp_store_eq rfl 24 (.tmp 2) (.tmp 26) rfl w.heap.size 0 (mk.map b8) rfl rfl T1.out ID.out (one_b8 _) ?_)
      intro w5 hw5
      go_wp2_with fail
      refine bodyPost_ret (v := vB mk) ?_ rfl ⟨rfl, ?_⟩
      · rw [hw5.out]
        exact results_cell (b := w.heap.size) rfl rfl (World.rangeAt_setCells_same _ _ _ _ T1.out) u_d32 rfl ID.out
      · rw [hw5.out]
        exact below_setCells _ _ _ D4.out (by omega)
end Go.Proofs.YtmpniingbioggaaDoor
