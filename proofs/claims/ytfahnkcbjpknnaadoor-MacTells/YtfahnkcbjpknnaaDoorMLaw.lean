/- What the laws' own walks need of marks: states in variables; sealringkeep.macs. -/
import Derived.Test.YtfahnkcbjpknnaaDoorMNew
namespace Go.Proofs.YtfahnkcbjpknnaaDoor
open Go.RowKit
set_option linter.unusedSimpArgs false
/-- A mark's state lies in block k. -/
def MAt (w : World) (k : Nat) (K p : List Nat) : Prop := Blk w k (mC K p)
theorem MAt.up {W w1 : World} {k B : Nat} {K p : List Nat} (h : MAt W k K p) (hb : Below B W w1) (hB : k < B) : MAt w1 k K p := Blk.up h hb hB
theorem MAt.lt {W : World} {k : Nat} {K p : List Nat} (h : MAt W k K p) : k < W.heap.size := Blk.lt h
theorem wp_ldM {ops : Array Oper} {rest : List Oper} {o : Oper} {a : Act} {Q : Exit → Act → World → Prop} {w : World} (hgd : Region.wanted o (yielded ops a.tmps) = true) (x : Operand) (ho : o.op = .load 30 x) (k : Nat) (hx : a.eval x = .pointer (some ⟨k, 0, none⟩))
    {K p : List Nat} (hs : MAt w k K p) (h : wpList Tryd.prog ops Q rest (a.put o.dst (mV K p)) w) : wpList Tryd.prog ops Q (o :: rest) a w := by
  obtain ⟨d, hu, hr⟩ := u_mst
  refine wpList_wanted hgd fun KK hK => ?_
  exact wp_load_mid 30 x ho k 0 hx _ d (Blk.all hs) hu hr (info_mst.trans (congrArg some (mC_length K p).symm)) (hK _ _ h)
/-- A state stored into a variable of its own. -/
theorem wp_stM {ops : Array Oper} {rest : List Oper} {o : Oper} {a : Act} {Q : Exit → Act → World → Prop} {w : World} (hgd : Region.wanted o (yielded ops a.tmps) = true) (x y : Operand) (ho : o.op = .store 30 x y) (k : Nat) (hx : a.eval x = .pointer (some ⟨k, 0, none⟩))
    (K p : List Nat) (hy : a.eval y = mV K p) (vs : List Value) (hv : Blk w k vs) (hl : vs.length = 146)
    (h : ∀ w2, MAt w2 k K p → (∀ B W, Below B W w → B ≤ k → Below B W w2) → (∀ k' us, k' ≠ k → Blk w k' us → Blk w2 k' us) → wpList Tryd.prog ops Q rest (a.put o.dst undef) w2) : wpList Tryd.prog ops Q (o :: rest) a w := by
  refine wpList_wanted hgd fun KK hK => ?_
  have hc := mC_length K p
  refine wp_store_mid 30 x y ho k 0 (mC K p).toArray hx hy (by rw [List.size_toArray]; exact hv.there (by omega)) (by rw [List.size_toArray]; exact info_mst.trans (congrArg some hc.symm)) (all_oneCell_toArray (one_mC _ _)) (hK _ _ (h _ ?_ ?_ ?_))
  · have h1 : Blk w k ([] ++ (vs ++ [])) := by simpa using hv
    have h2 := h1.store (o := 0) (b' := mC K p) rfl (by omega)
    rw [List.nil_append, List.append_nil] at h2
    exact h2
  · intro B W hb hB
    exact below_setCells _ _ _ hb hB
  · intro k' us hk hu
    exact hu.apart hk
/-- A variable for a state is made, and one is stored into it. -/
theorem wp_mkM {ops : Array Oper} {rest : List Oper} {o o2 : Oper} {a : Act} {Q : Exit → Act → World → Prop} {w : World} (hgd : o.guard = none) (hgd2 : o2.guard = none) (x : Tmp) (y : Operand) (ho : o.op = .alloc 30) (hd : o.dst = some x) (hd2 : o2.dst = none) (ho2 : o2.op = .store 30 (.tmp x) y)
    (K p : List Nat) (hx : (a.put (some x) (.pointer (some ⟨w.heap.size, 0, none⟩))).eval (.tmp x) = .pointer (some ⟨w.heap.size, 0, none⟩)) (hy : (a.put (some x) (.pointer (some ⟨w.heap.size, 0, none⟩))).eval y = mV K p)
    (h : ∀ w2, MAt w2 w.heap.size K p → Below w.heap.size w w2 → wpList Tryd.prog ops Q rest (a.put (some x) (.pointer (some ⟨w.heap.size, 0, none⟩))) w2) : wpList Tryd.prog ops Q (o :: o2 :: rest) a w := by
  refine wpList_plain hgd fun KK hK => ?_
  have e : (execOp a.eval o).run Tryd.prog w = .ok (.value (.pointer (some ⟨w.heap.size, 0, none⟩))) (w.alloc (.cells (zS ++ zS).toArray 30)) := by
    unfold execOp
    simp [ho, zero_mst, Instr.alloc, newVar, Value.cells, go_sem]
  unfold Oper.wp
  rw [e]
  refine hK _ _ ?_
  rw [hd]
  obtain ⟨y0, y1⟩ := al1 w (zS ++ zS).toArray 30
  have hwt : Region.wanted o2 (yielded ops (a.put (some x) (.pointer (some ⟨w.heap.size, 0, none⟩))).tmps) = true := by
    simp [Region.wanted, hgd2]
  refine wp_stM hwt (.tmp x) y ho2 w.heap.size hx K p hy (zS ++ zS) (by simpa using y0) (by rw [List.length_append, zS_length]) ?_
  intro w2 h1 h2 _
  rw [hd2]
  exact h w2 h1 (h2 _ _ y1 (Nat.le_refl _))
theorem neq_apart (xs ys : List Nat) (hl : xs.length = 32) (hl' : ys.length = 32) (h0 : xs.getD 0 0 ≠ ys.getD 0 0) (w : World) : (binOp .neq 32 (vB xs) (vB ys)).run Tryd.prog w = .ok (.bool true) w := by
  obtain ⟨i0, hi, _⟩ := info_parts Tryd.iU8
  have hg : ∀ (xs : List Nat), xs.length = 32 → ∀ j, j < 32 → (xs.map b8).toArray[j]? = some (.int .u8 ((xs.getD j 0 : Nat) : Int)) := fun xs hl j hj => by
    have : j < xs.length := by omega
    simp [List.getD_eq_getElem?_getD, this]
  rw [run_neq_ints (P := Tryd.prog) (t := 32) (e := 5) (n := 32) (k := .u8) u_d32 hi Tryd.uU8 plain_u8 cells_u8 (fun j => ((xs.getD j 0 : Nat) : Int)) (fun j => ((ys.getD j 0 : Nat) : Int)) _ _ (hg xs hl) (hg ys hl')]
  have : ((List.range 32).all fun j => ((xs.getD j 0 : Nat) : Int) == ((ys.getD j 0 : Nat) : Int)) = false := by
    rw [List.all_eq_false]
    refine ⟨0, by simp, ?_⟩
    rw [int_beq]
    simpa using h0
  rw [this]
  rfl
theorem wp_neA {ops : Array Oper} {rest : List Oper} {o : Oper} {a : Act} {Q : Exit → Act → World → Prop} {w : World} (hgd : Region.wanted o (yielded ops a.tmps) = true) (x y : Operand) (u : TypeId)
    (ho : o.op = .binOp .neq 32 x y u) (xs ys : List Nat) (hl : xs.length = 32) (hl' : ys.length = 32) (h0 : xs.getD 0 0 ≠ ys.getD 0 0) (hx : a.eval x = vB xs) (hy : a.eval y = vB ys) (h : wpList Tryd.prog ops Q rest (a.put o.dst (.bool true)) w) : wpList Tryd.prog ops Q (o :: rest) a w := by
  refine wpList_wanted hgd fun K hK => ?_
  have e := neq_apart xs ys hl hl' h0 w
  unfold Oper.wp
  simp [execOp, ho, hx, hy, e, eqGuard, Result.andThen]
  exact hK _ _ h
theorem mark_empty : (markS [] []).getD 0 0 ≠ 0 := by decide +kernel
set_option maxRecDepth 20000 in
set_option maxHeartbeats 2000000 in
theorem macs_fun (w : World) (hT : KTab w) : Calls Tryd.prog 13 #[] w fun e w' => e = .returned (.bool true) ∧ Below w.heap.size w w' := by
  have S1 : Hid _ := marks_fun [] [] (by simp) (by simp) (by simp) (by simp) (.slice none 0 0) (.slice none 0 0) w (By.nil w) (By.nil w) hT
  have E1 : Hid _ := mark_empty
  have SL : Hid ((markS [] []).length = 32) := markK_length _ _
  clear hT
  generalize markS [] [] = dd at *
  go_enter Tryd.func13, Tryd.ntmps13
  go_wp2_with fail
  refine Calls.mono S1.out ?_
  rintro e w1 ⟨rfl, hb1⟩
  have D1 : Hid (Below w.heap.size w w1) := hb1
  clear hb1 S1
  go_wp2_with (refine wp_neA rfl (.tmp 1) (.tmp 2) _ rfl dd (List.replicate 32 0) SL.out rfl E1.out rfl rfl ?_)
  go_ret
  exact ⟨rfl, D1.out⟩
end Go.Proofs.YtfahnkcbjpknnaaDoor
