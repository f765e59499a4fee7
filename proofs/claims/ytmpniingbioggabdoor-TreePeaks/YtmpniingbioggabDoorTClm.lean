/- The contracts of tree.climb and tree.Check. -/
import Derived.Test.YtmpniingbioggabDoorTBeside
import Derived.Test.YtmpniingbioggabDoorUpA
import Derived.BigQuiet
namespace Go.Proofs.YtmpniingbioggabDoor
open Go.RowKit
open Go.BigFrame
set_option linter.unusedSimpArgs false
attribute [local go_sem] YieldsP execOp
attribute [local simp] MP.eq_p
/-- What tree.climb makes of a path that is turned round. -/
def clmS (d : List Nat) : List (List Nat) → Nat → Nat → List Nat × Bool
  | [], n, _ => (d, decide (n = 1))
  | x :: r, n, i => if n = 1 then (d, false) else
      if i < 2 ^ Nat.log2 (n - 1) then (nodeS (clmS d r (2 ^ Nat.log2 (n - 1)) i).1 x, (clmS d r (2 ^ Nat.log2 (n - 1)) i).2)
      else (nodeS x (clmS d r (n - 2 ^ Nat.log2 (n - 1)) (i - 2 ^ Nat.log2 (n - 1))).1, (clmS d r (n - 2 ^ Nat.log2 (n - 1)) (i - 2 ^ Nat.log2 (n - 1))).2)
theorem cut_log {n : Nat} (h : 1 < n) : 2 ^ Nat.log2 (n - 1) < n ∧ n ≤ 2 ^ (Nat.log2 (n - 1) + 1) := by
  have h1 := Nat.log2_self_le (n := n - 1) (by omega)
  have h2 := Nat.lt_log2_self (n := n - 1)
  omega
theorem clmS_low (d : List Nat) (hd : d.length = 32 ∧ ∀ x ∈ d, x < 256) : ∀ (r : List (List Nat)) (n i : Nat), (clmS d r n i).1.length = 32 ∧ ∀ x ∈ (clmS d r n i).1, x < 256
  | [], n, i => hd
  | x :: r, n, i => by
    rw [clmS]
    split
    · exact hd
    · split <;> exact nodeS_low _ _
/-- What is climbed is what the path leads to, if it is as long as it has to be. -/
theorem clmS_fit (d : List Nat) : ∀ (r : List (List Nat)) (n i : Nat), i < n → T.fit nodeS n i d r.reverse = if (clmS d r n i).2 = true then some (clmS d r n i).1 else none
  | [], n, i, hi => by
    rw [List.reverse_nil, clmS]
    by_cases h : n = 1
    · subst h
      obtain rfl : i = 0 := by omega
      rw [T.fit_one]
      simp
    · obtain ⟨h1, h2⟩ := cut_log (n := n) (by omega)
      rw [T.fit_nil nodeS hi h1 h2]
      simp [h]
  | x :: r, n, i, hi => by
    rw [List.reverse_cons, clmS]
    by_cases h : n = 1
    · subst h
      obtain rfl : i = 0 := by omega
      rw [T.fit_one]
      simp
    · obtain ⟨h1, h2⟩ := cut_log (n := n) (by omega)
      rw [if_neg h]
      by_cases hk : i < 2 ^ Nat.log2 (n - 1)
      · rw [T.fit_left nodeS h1 h2 hk, clmS_fit d r _ i hk, if_pos hk]
        split <;> rfl
      · rw [T.fit_right nodeS h1 h2 (by omega) hi, clmS_fit d r _ _ (by omega), if_neg hk]
        split <;> rfl
theorem chkS_fit (root : List Nat) (n i : Nat) (p : List Nat) (path : List (List Nat)) : chkS root n i p path = match T.fit nodeS n i (leafS p) path with | some d => decide (d = root) | none => false := by
  unfold chkS T.fit
  cases T.chk nodeS n i (leafS p) path with
  | none => rfl
  | some r => obtain ⟨a, b⟩ := r; cases b <;> rfl
theorem chkS_true {ls : List (List Nat)} {i : Nat} (hi : i < ls.length) : chkS (rootS ls) ls.length i (ls.getD i []) (pathS ls i) = true := by
  have h : (ls.map leafS)[i]? = some (leafS (ls.getD i [])) := by simp [List.getD_eq_getElem?_getD, hi]
  have := T.fit_path nodeS (sumS []) h
  rw [List.length_map] at this
  rw [chkS_fit, pathS, this]
  simp [rootS]
theorem chkS_other {root : List Nat} {ls : List (List Nat)} {i : Nat} (p : List Nat) {path : List (List Nat)} (h : path.length ≠ (pathS ls i).length) : chkS root ls.length i p path = false := by
  have e := T.path_length nodeS (ls.map leafS) i
  rw [List.length_map] at e
  rw [chkS_fit, T.fit_other nodeS (by rw [← e]; exact h)]
theorem chkS_clm (root : List Nat) (n i : Nat) (hi : i < n) (p : List Nat) (path : List (List Nat)) : chkS root n i p path = ((clmS (leafS p) path.reverse n i).2 && decide ((clmS (leafS p) path.reverse n i).1 = root)) := by
  have h := clmS_fit (leafS p) path.reverse n i hi
  rw [List.reverse_reverse] at h
  rw [chkS_fit, h]
  cases (clmS (leafS p) path.reverse n i).2 <;> rfl
theorem Ds.front {w : World} {a : Option Addr} {c n : Nat} {ds : List (List Nat)} (h : Ds w (.slice a ds.length c) ds) (hn : n ≤ ds.length) : Ds w (sliced a 0 n c 32) (ds.take n) := by
  obtain ⟨a', c', e, h1, h3⟩ := h
  cases e
  have hl : (ds.take n).length = n := by rw [List.length_take]; omega
  refine ⟨a, c, ?_, by omega, fun hp => ?_⟩
  · rw [hl, sliced]
    cases a with
    | none => simp
    | some a => simp [Addr.add_zero']
  · obtain ⟨b, o, e, hc⟩ := h3 (by omega)
    refine ⟨b, o, e, fun j hj => ?_⟩
    have e : (ds.take n).getD j [] = ds.getD j [] := by simp [List.getD_eq_getElem?_getD, List.getElem?_take, show j < n by omega]
    rw [e]
    exact hc j (by omega)
theorem run_frontD (w : World) (a : Option Addr) (m c n : Nat) (k : IntKind) (hn : n ≤ m) (hc : m ≤ c) : (Instr.sliceAt 30 (.slice a m c) none (some (.int k (n : Int))) none).run Tryd.prog w = .ok (sliced a 0 n c 32) w := by
  rw [run_sliceAt_slice (h := slice_elemD), run_slice_h (ht := slice_elemD) (h0 := by omega) (h2 := by omega), elem_dss, size_d32]
  simp
section
variable {ops : Array Oper} {rest : List Oper} {o : Oper} {a : Act} {C : World → Prop} {Q : Act → Prop}
/-- A digest read in a drawn region's quiet part. -/
theorem quiet_ld (hgd : Region.wanted o (yielded ops a.tmps) = true) (x : Operand) (ho : o.op = .load 24 x) (k f : Nat) (hx : a.eval x = .pointer (some ⟨k, f, none⟩)) (xs : List Nat) (hl : xs.length = 32) (hr : ∀ w, C w → w.rangeAt k f (xs.map b8)) (h : wpQuiet Tryd.prog ops C Q rest (a.put o.dst (vB xs))) : wpQuiet Tryd.prog ops C Q (o :: rest) a := by
  refine wpQuiet_want hgd fun K hK => ⟨vB xs, fun w hw => ?_, hK _ h⟩
  have e : (execOp a.eval o).run Tryd.prog w = .ok (.value (vB xs)) w := by
    have h1 := run_loadVar_mid (P := Tryd.prog) w k f 24 (xs.map b8) _ (hr w hw) u_d32 rfl (info_d32.trans (congrArg some (by rw [List.length_map, hl])))
    unfold execOp
    simp only [ho, hx, Instr.loadAt, Instr.sureAddr, Sem.run_bind, Sem.run_pure, Result.andThen_ok, h1]
  unfold Oper.quietAt
  rw [e]
  exact ⟨rfl, rfl⟩
theorem quiet_frontD (hgd : Region.wanted o (yielded ops a.tmps) = true) (x l : Operand) (ho : o.op = .slice 30 x none (some l) none) (ad : Option Addr) (m c n : Nat) (k : IntKind) (z : Int) (hx : a.eval x = .slice ad m c) (hl : a.eval l = .int k z) (hz : z = (n : Int)) (hn : n ≤ m) (hc : m ≤ c) (sv : Value) (hsv : sliced ad 0 n c 32 = sv) (h : wpQuiet Tryd.prog ops C Q rest (a.put o.dst sv)) : wpQuiet Tryd.prog ops C Q (o :: rest) a := by
  subst hsv
  refine wpQuiet_want hgd fun K hK => ⟨sliced ad 0 n c 32, fun w hw => ?_, hK _ h⟩
  have e : (execOp a.eval o).run Tryd.prog w = .ok (.value (sliced ad 0 n c 32)) w := by
    have h1 := run_frontD w ad m c n k hn hc
    subst hz
    unfold execOp
    simp [ho, hx, hl, h1]
  unfold Oper.quietAt
  rw [e]
  exact ⟨rfl, rfl⟩
end
theorem results_cell2 {P : Program} {fn : Func} {tmps : Array Value} {s s2 : Tmp} {t : TypeId} {b : Nat} {cs : List Value} {d : TypeDesc} {W : World} {v : Value} (hr : fn.results = #[.cell s t, .tmp s2]) (ht : tmps[s]?.getD undef = .pointer (some ⟨b, 0, none⟩)) (ht2 : tmps[s2]?.getD undef = v) (hc : W.rangeAt b 0 cs)
    (hu : P.underlying t = some d) (hd : d.isRow = true) (hi : (P.info? t).map (·.size) = some cs.length) : (results fn tmps).run P W = .ok (.tuple #[.agg cs.toArray, v]) W := by
  have h1 := run_loadVar_mid (P := P) W b 0 t cs d hc hu hd hi
  simp [results, hr, ht, ht2, asAddr, h1]
theorem Blk.of_heap {w : World} {k : Nat} {C : Array Value} {t : TypeId} (h : w.heap[k]? = some (.cells C t)) : Blk w k C.toList := by
  refine ⟨(Array.getElem?_eq_some_iff.1 h).1, fun j v hv => ?_, fun j => ?_⟩
  · rw [cell_of_row _ _ j C t _ h]; simpa using hv
  · unfold World.frozen?
    rw [h]
    simp
theorem Blk.put {w : World} {k : Nat} {vs us : List Value} (h : Blk w k vs) (hl : us.length = vs.length) : Blk (w.setCells k 0 us) k us := by
  have h1 : Blk w k ([] ++ (vs ++ [])) := by simpa using h
  have h2 := h1.store (o := 0) (b' := us) rfl (by omega)
  rw [List.nil_append, List.append_nil] at h2
  exact h2
end Go.Proofs.YtmpniingbioggabDoor
