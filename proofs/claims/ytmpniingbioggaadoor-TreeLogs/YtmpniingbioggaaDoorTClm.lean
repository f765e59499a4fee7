/- The contracts of tree.climb and tree.Check. -/
import Derived.Test.YtmpniingbioggaaDoorTBeside
import Derived.Test.YtmpniingbioggaaDoorUpA
import Derived.BigQuiet
namespace Go.Proofs.YtmpniingbioggaaDoor
open Go.RowKit
open Go.BigFrame
set_option linter.unusedSimpArgs false
attribute [local go_sem] YieldsP execOp
attribute [local simp] MP.eq_p
/-- What tree.climb makes of a path that is turned round. -/
def clmS (d : List Nat) : List (List Nat) → Nat → Nat → List Nat × Bool
  | [], n, _ => (d, decide (n = 1))
  | x :: r, n, i => if n = 1 then (d, false) else
      if i < 2 ^ Nat.log2 (n - 1) then (nodeS (clmS d r (2 ^ Nat.log2 (n - 1)) i).1 x, (clmS d r (2 ^ Nat.log2 (n - 1)) i).2)
      else (nodeS x (clmS d r (n - 2 ^ Nat.log2 (n - 1)) (i - 2 ^ Nat.log2 (n - 1))).1, (clmS d r (n - 2 ^ Nat.log2 (n - 1)) (i - 2 ^ Nat.log2 (n - 1))).2)
theorem cut_log {n : Nat} (h : 1 < n) : 2 ^ Nat.log2 (n - 1) < n ∧ n ≤ 2 ^ (Nat.log2 (n - 1) + 1) := by
  have h1 := Nat.log2_self_le (n := n - 1) (by omega)
  have h2 := Nat.lt_log2_self (n := n - 1)
  omega
theorem clmS_low (d : List Nat) (hd : d.length = 32 ∧ ∀ x ∈ d, x < 256) : ∀ (r : List (List Nat)) (n i : Nat), (clmS d r n i).1.length = 32 ∧ ∀ x ∈ (clmS d r n i).1, x < 256
  | [], n, i => hd
  | x :: r, n, i => by
    rw [clmS]
    split
    · exact hd
    · split <;> exact nodeS_low _ _
/-- What is climbed is what the path leads to, if it is as long as it has to be. -/
theorem clmS_fit (d : List Nat) : ∀ (r : List (List Nat)) (n i : Nat), i < n → T.fit nodeS n i d r.reverse = if (clmS d r n i).2 = true then some (clmS d r n i).1 else none
  | [], n, i, hi => by
    rw [List.reverse_nil, clmS]
    by_cases h : n = 1
    · subst h
      obtain rfl : i = 0 := by omega
      rw [T.fit_one]
      simp
    · obtain ⟨h1, h2⟩ := cut_log (n := n) (by omega)
      rw [T.fit_nil nodeS hi h1 h2]
      simp [h]
  | x :: r, n, i, hi => by
    rw [List.reverse_cons, clmS]
    by_cases h : n = 1
    · subst h
      obtain rfl : i = 0 := by omega
      rw [T.fit_one]
      simp
    · obtain ⟨h1, h2⟩ := cut_log (n := n) (by omega)
      rw [if_neg h]
      by_cases hk : i < 2 ^ Nat.log2 (n - 1)
      · rw [T.fit_left nodeS h1 h2 hk, clmS_fit d r _ i hk, if_pos hk]
        split <;> rfl
      · rw [T.fit_right nodeS h1 h2 (by omega) hi, clmS_fit d r _ _ (by omega), if_neg hk]
        split <;> rfl
theorem chkS_fit (root : List Nat) (n i : Nat) (p : List Nat) (path : List (List Nat)) : chkS root n i p path = match T.fit nodeS n i (leafS p) path with | some d => decide (d = root) | none => false := by
  unfold chkS T.fit
  cases T.chk nodeS n i (leafS p) path with
  | none => rfl
  | some r => obtain ⟨a, b⟩ := r; cases b <;> rfl
theorem chkS_true {ls : List (List Nat)} {i : Nat} (hi : i < ls.length) : chkS (rootS ls) ls.length i (ls.getD i []) (pathS ls i) = true := by
  have h : (ls.map leafS)[i]? = some (leafS (ls.getD i [])) := by simp [List.getD_eq_getElem?_getD, hi]
  have := T.fit_path nodeS (sumS []) h
  rw [List.length_map] at this
  rw [chkS_fit, pathS, this]
  simp [rootS]
theorem chkS_other {root : List Nat} {ls : List (List Nat)} {i : Nat} (p : List Nat) {path : List (List Nat)} (h : path.length ≠ (pathS ls i).length) : chkS root ls.length i p path = false := by
  have e := T.path_length nodeS (ls.map leafS) i
  rw [List.length_map] at e
  rw [chkS_fit, T.fit_other nodeS (by rw [← e]; exact h)]
theorem chkS_clm (root : List Nat) (n i : Nat) (hi : i < n) (p : List Nat) (path : List (List Nat)) : chkS root n i p path = ((clmS (leafS p) path.reverse n i).2 && decide ((clmS (leafS p) path.reverse n i).1 = root)) := by
  have h := clmS_fit (leafS p) path.reverse n i hi
  rw [List.reverse_reverse] at h
  rw [chkS_fit, h]
  cases (clmS (leafS p) path.reverse n i).2 <;> rfl
theorem Ds.front {w : World} {a : Option Addr} {c n : Nat} {ds : List (List Nat)} (h : Ds w (.slice a ds.length c) ds) (hn : n ≤ ds.length) : Ds w (sliced a 0 n c 32) (ds.take n) := by
  obtain ⟨a', c', e, h1, h3⟩ := h
  cases e
  have hl : (ds.take n).length = n := by rw [List.length_take]; omega
  refine ⟨a, c, ?_, by omega, fun hp => ?_⟩
  · rw [hl, sliced]
    cases a with
    | none => simp
    | some a => simp [Addr.add_zero']
  · obtain ⟨b, o, e, hc⟩ := h3 (by omega)
    refine ⟨b, o, e, fun j hj => ?_⟩
    have e : (ds.take n).getD j [] = ds.getD j [] := by simp [List.getD_eq_getElem?_getD, List.getElem?_take, show j < n by omega]
    rw [e]
    exact hc j (by omega)
theorem run_frontD (w : World) (a : Option Addr) (m c n : Nat) (k : IntKind) (hn : n ≤ m) (hc : m ≤ c) : (Instr.sliceAt 25 (.slice a m c) none (some (.int k (n : Int))) none).run Tryd.prog w = .ok (sliced a 0 n c 32) w := by
  rw [run_sliceAt_slice (h := slice_elemD), run_slice_h (ht := slice_elemD) (h0 := by omega) (h2 := by omega), elem_dss, size_d32]
  simp
section
variable {ops : Array Oper} {rest : List Oper} {o : Oper} {a : Act} {C : World → Prop} {Q : Act → Prop}
/-- A digest read in a drawn region's quiet part. -/
theorem quiet_ld (hgd : Region.wanted o (yielded ops a.tmps) = true) (x : Operand) (ho : o.op = .load 24 x) (k f : Nat) (hx : a.eval x = .pointer (some ⟨k, f, none⟩)) (xs : List Nat) (hl : xs.length = 32) (hr : ∀ w, C w → w.rangeAt k f (xs.map b8)) (h : wpQuiet Tryd.prog ops C Q rest (a.put o.dst (vB xs))) : wpQuiet Tryd.prog ops C Q (o :: rest) a := by
  refine wpQuiet_want hgd fun K hK => ⟨vB xs, fun w hw => ?_, hK _ h⟩
  have e : (execOp a.eval o).run Tryd.prog w = .ok (.value (vB xs)) w := by
    have h1 := run_loadVar_mid (P := Tryd.prog) w k f 24 (xs.map b8) _ (hr w hw) u_d32 rfl (info_d32.trans (congrArg some (by rw [List.length_map, hl])))
    unfold execOp
    simp only [ho, hx, Instr.loadAt, Instr.sureAddr, Sem.run_bind, Sem.run_pure, Result.andThen_ok, h1]
  unfold Oper.quietAt
  rw [e]
  exact ⟨rfl, rfl⟩
theorem quiet_frontD (hgd : Region.wanted o (yielded ops a.tmps) = true) (x l : Operand) (ho : o.op = .slice 25 x none (some l) none) (ad : Option Addr) (m c n : Nat) (k : IntKind) (z : Int) (hx : a.eval x = .slice ad m c) (hl : a.eval l = .int k z) (hz : z = (n : Int)) (hn : n ≤ m) (hc : m ≤ c) (sv : Value) (hsv : sliced ad 0 n c 32 = sv) (h : wpQuiet Tryd.prog ops C Q rest (a.put o.dst sv)) : wpQuiet Tryd.prog ops C Q (o :: rest) a := by
  subst hsv
  refine wpQuiet_want hgd fun K hK => ⟨sliced ad 0 n c 32, fun w hw => ?_, hK _ h⟩
  have e : (execOp a.eval o).run Tryd.prog w = .ok (.value (sliced ad 0 n c 32)) w := by
    have h1 := run_frontD w ad m c n k hn hc
    subst hz
    unfold execOp
    simp [ho, hx, hl, h1]
  unfold Oper.quietAt
  rw [e]
  exact ⟨rfl, rfl⟩
end
theorem results_cell2 {P : Program} {fn : Func} {tmps : Array Value} {s s2 : Tmp} {t : TypeId} {b : Nat} {cs : List Value} {d : TypeDesc} {W : World} {v : Value} (hr : fn.results = #[.cell s t, .tmp s2]) (ht : tmps[s]?.getD undef = .pointer (some ⟨b, 0, none⟩)) (ht2 : tmps[s2]?.getD undef = v) (hc : W.rangeAt b 0 cs)
    (hu : P.underlying t = some d) (hd : d.isRow = true) (hi : (P.info? t).map (·.size) = some cs.length) : (results fn tmps).run P W = .ok (.tuple #[.agg cs.toArray, v]) W := by
  have h1 := run_loadVar_mid (P := P) W b 0 t cs d hc hu hd hi
  simp [results, hr, ht, ht2, asAddr, h1]
theorem Blk.of_heap {w : World} {k : Nat} {C : Array Value} {t : TypeId} (h : w.heap[k]? = some (.cells C t)) : Blk w k C.toList := by
  refine ⟨(Array.getElem?_eq_some_iff.1 h).1, fun j v hv => ?_, fun j => ?_⟩
  · rw [cell_of_row _ _ j C t _ h]; simpa using hv
  · unfold World.frozen?
    rw [h]
    simp
theorem Blk.put {w : World} {k : Nat} {vs us : List Value} (h : Blk w k vs) (hl : us.length = vs.length) : Blk (w.setCells k 0 us) k us := by
  have h1 : Blk w k ([] ++ (vs ++ [])) := by simpa using h
  have h2 := h1.store (o := 0) (b' := us) rfl (by omega)
  rw [List.nil_append, List.append_nil] at h2
  exact h2
set_option maxRecDepth 20000 in
set_option maxHeartbeats 1000000 in
theorem tclimb_fun (d : List Nat) (hd : d.length = 32 ∧ ∀ x ∈ d, x < 256) : ∀ (r : List (List Nat)) (_ : Dlow r) (_ : r.length ≤ 1000000) (n i : Nat) (_ : i < n) (_ : n ≤ 65536) (v : Value) (w : World) (_ : Ds w v r.reverse) (_ : KTab w),
    Calls Tryd.prog 36 #[.int .i64 (n : Int), .int .i64 (i : Int), vB d, v] w fun e w' => e = .returned (.tuple #[vB (clmS d r n i).1, .bool (clmS d r n i).2]) ∧ Below w.heap.size w w' := by
  intro r
  induction r with
  | nil =>
    intro low zr n i hi zn v w hv hT
    obtain ⟨av, cv, rfl, hc, h3⟩ := id hv
    rw [clmS]
    obtain ⟨x0, x1, x2⟩ := al2 w (d.map b8).toArray #[Value.int IntKind.u8 0, Value.int IntKind.u8 0, Value.int IntKind.u8 0, Value.int IntKind.u8 0, Value.int IntKind.u8 0, Value.int IntKind.u8 0, Value.int IntKind.u8 0, Value.int IntKind.u8 0, Value.int IntKind.u8 0, Value.int IntKind.u8 0, Value.int IntKind.u8 0, Value.int IntKind.u8 0, Value.int IntKind.u8 0, Value.int IntKind.u8 0, Value.int IntKind.u8 0, Value.int IntKind.u8 0, Value.int IntKind.u8 0, Value.int IntKind.u8 0, Value.int IntKind.u8 0, Value.int IntKind.u8 0, Value.int IntKind.u8 0, Value.int IntKind.u8 0, Value.int IntKind.u8 0, Value.int IntKind.u8 0, Value.int IntKind.u8 0, Value.int IntKind.u8 0, Value.int IntKind.u8 0, Value.int IntKind.u8 0, Value.int IntKind.u8 0, Value.int IntKind.u8 0, Value.int IntKind.u8 0, Value.int IntKind.u8 0] 24 24
    have X0 : Hid (Blk _ _ (d.map b8)) := x0
    have Y4 : Hid (Blk _ _ ((List.replicate 32 0).map b8)) := x1
    have D4 : Hid (Below _ _ _) := x2
    have ML : Hid (d.length = 32) := hd.1
    have ID : Hid _ := info_d32.trans (congrArg some (show 32 = (d.map b8).length by rw [List.length_map, ML.out]))
    clear hv hT low zr h3 hc x0 x1 x2 hd
    simp only [List.reverse_nil, List.length_nil]
    have T1 : Hid (World.there ((w.alloc (Obj.cells (d.map b8).toArray 24)).alloc (Obj.cells #[Value.int IntKind.u8 0, Value.int IntKind.u8 0, Value.int IntKind.u8 0, Value.int IntKind.u8 0, Value.int IntKind.u8 0, Value.int IntKind.u8 0, Value.int IntKind.u8 0, Value.int IntKind.u8 0, Value.int IntKind.u8 0, Value.int IntKind.u8 0, Value.int IntKind.u8 0, Value.int IntKind.u8 0, Value.int IntKind.u8 0, Value.int IntKind.u8 0, Value.int IntKind.u8 0, Value.int IntKind.u8 0, Value.int IntKind.u8 0, Value.int IntKind.u8 0, Value.int IntKind.u8 0, Value.int IntKind.u8 0, Value.int IntKind.u8 0, Value.int IntKind.u8 0, Value.int IntKind.u8 0, Value.int IntKind.u8 0, Value.int IntKind.u8 0, Value.int IntKind.u8 0, Value.int IntKind.u8 0, Value.int IntKind.u8 0, Value.int IntKind.u8 0, Value.int IntKind.u8 0, Value.int IntKind.u8 0, Value.int IntKind.u8 0] 24)) (w.heap.size + 1) 0 (d.map b8).length) := Y4.out.there (by rw [List.length_map, ML.out]; simp)
    by_cases h1 : n = 1
    · subst h1
      go_enter Tryd.func36, Tryd.ntmps36
      go_wp2_with (first | (refine wp_ldD rfl (.tmp 6) rfl w.heap.size 0 rfl d X0.out.all ML.out ?_) | (refine wp_store_eq rfl 24 (.tmp 8) (.tmp 25) rfl (w.heap.size + 1) 0 (d.map b8) rfl rfl T1.out ID.out (one_b8 _) ?_))
      intro w5 hw5
      go_wp2_with fail
      refine bodyPost_ret (v := .tuple #[vB d, .bool true]) ?_ rfl ⟨rfl, ?_⟩
      · rw [hw5.out]
        exact results_cell2 (b := w.heap.size + 1) rfl rfl (by first | rfl | simp [b8]) (World.rangeAt_setCells_same _ _ _ _ T1.out) u_d32 rfl ID.out
      · rw [hw5.out]
        exact below_setCells _ _ _ D4.out (by omega)
    · have h2 : ¬ (n : Int) = 1 := by omega
      go_enter Tryd.func36, Tryd.ntmps36
      go_wp2_with (first | (refine wp_ldD rfl (.tmp 6) rfl w.heap.size 0 rfl d X0.out.all ML.out ?_) | (refine wp_store_eq rfl 24 (.tmp 8) (.tmp 25) rfl (w.heap.size + 1) 0 (d.map b8) rfl rfl T1.out ID.out (one_b8 _) ?_))
      intro w5 hw5
      go_wp2_with fail
      refine bodyPost_ret (v := .tuple #[vB d, .bool (decide (n = 1))]) ?_ rfl ⟨rfl, ?_⟩
      · rw [hw5.out]
        exact results_cell2 (b := w.heap.size + 1) rfl rfl (by first | rfl | simp [h1]) (World.rangeAt_setCells_same _ _ _ _ T1.out) u_d32 rfl ID.out
      · rw [hw5.out]
        exact below_setCells _ _ _ D4.out (by omega)
  | cons x r ih =>
    intro low zr n i hi zn v w hv hT
    obtain ⟨av, cv, rfl, hc, h3⟩ := id hv
    have hl : (x :: r).reverse.length = r.length + 1 := by simp
    rw [hl] at h3 hv hc ⊢
    have zL : r.length ≤ 1000000 := by rw [List.length_cons] at zr; omega
    obtain ⟨b, o, rfl, hr⟩ := h3 (by omega)
    have hlast := hr r.length (by omega)
    have ex : (x :: r).reverse.getD r.length [] = x := by simp [List.getD_eq_getElem?_getD]
    rw [ex] at hlast
    have lx := low x (by simp)
    have etake : (x :: r).reverse.take r.length = r.reverse := by simp
    have lowr : Dlow r := fun y hy => low y (by simp [hy])
    obtain ⟨x0, x1, x2⟩ := al2 w (d.map b8).toArray #[Value.int IntKind.u8 0, Value.int IntKind.u8 0, Value.int IntKind.u8 0, Value.int IntKind.u8 0, Value.int IntKind.u8 0, Value.int IntKind.u8 0, Value.int IntKind.u8 0, Value.int IntKind.u8 0, Value.int IntKind.u8 0, Value.int IntKind.u8 0, Value.int IntKind.u8 0, Value.int IntKind.u8 0, Value.int IntKind.u8 0, Value.int IntKind.u8 0, Value.int IntKind.u8 0, Value.int IntKind.u8 0, Value.int IntKind.u8 0, Value.int IntKind.u8 0, Value.int IntKind.u8 0, Value.int IntKind.u8 0, Value.int IntKind.u8 0, Value.int IntKind.u8 0, Value.int IntKind.u8 0, Value.int IntKind.u8 0, Value.int IntKind.u8 0, Value.int IntKind.u8 0, Value.int IntKind.u8 0, Value.int IntKind.u8 0, Value.int IntKind.u8 0, Value.int IntKind.u8 0, Value.int IntKind.u8 0, Value.int IntKind.u8 0] 24 24
    have X0 : Hid (Blk _ _ (d.map b8)) := x0
    have Y4 : Hid (Blk _ _ ((List.replicate 32 0).map b8)) := x1
    have D4 : Hid (Below _ _ _) := x2
    have DL : Hid (d.length = 32) := hd.1
    by_cases h1 : n = 1
    · subst h1
      rw [clmS, if_pos rfl]
      have ML : Hid (d.length = 32) := hd.1
      have ID : Hid _ := info_d32.trans (congrArg some (show 32 = (d.map b8).length by rw [List.length_map, ML.out]))
      have T1 : Hid (World.there ((w.alloc (Obj.cells (d.map b8).toArray 24)).alloc (Obj.cells #[Value.int IntKind.u8 0, Value.int IntKind.u8 0, Value.int IntKind.u8 0, Value.int IntKind.u8 0, Value.int IntKind.u8 0, Value.int IntKind.u8 0, Value.int IntKind.u8 0, Value.int IntKind.u8 0, Value.int IntKind.u8 0, Value.int IntKind.u8 0, Value.int IntKind.u8 0, Value.int IntKind.u8 0, Value.int IntKind.u8 0, Value.int IntKind.u8 0, Value.int IntKind.u8 0, Value.int IntKind.u8 0, Value.int IntKind.u8 0, Value.int IntKind.u8 0, Value.int IntKind.u8 0, Value.int IntKind.u8 0, Value.int IntKind.u8 0, Value.int IntKind.u8 0, Value.int IntKind.u8 0, Value.int IntKind.u8 0, Value.int IntKind.u8 0, Value.int IntKind.u8 0, Value.int IntKind.u8 0, Value.int IntKind.u8 0, Value.int IntKind.u8 0, Value.int IntKind.u8 0, Value.int IntKind.u8 0, Value.int IntKind.u8 0] 24)) (w.heap.size + 1) 0 (d.map b8).length) := Y4.out.there (by rw [List.length_map, ML.out]; simp)
      clear hv hT low zr h3 hc x0 x1 x2 hd hr hlast lx ex etake lowr ih hl
      generalize r.length = L at *
      go_enter Tryd.func36, Tryd.ntmps36
      go_wp2_with (first | (refine wp_ldD rfl (.tmp 6) rfl w.heap.size 0 rfl d X0.out.all ML.out ?_) | (refine wp_store_eq rfl 24 (.tmp 8) (.tmp 25) rfl (w.heap.size + 1) 0 (d.map b8) rfl rfl T1.out ID.out (one_b8 _) ?_))
      intro w5 hw5
      go_wp2_with fail
      refine bodyPost_ret (v := .tuple #[vB d, .bool false]) ?_ rfl ⟨rfl, ?_⟩
      · rw [hw5.out]
        exact results_cell2 (b := w.heap.size + 1) rfl rfl (by first | rfl | simp [b8]) (World.rangeAt_setCells_same _ _ _ _ T1.out) u_d32 rfl ID.out
      · rw [hw5.out]
        exact below_setCells _ _ _ D4.out (by omega)
    · obtain ⟨h2, h3'⟩ := cut_log (n := n) (by omega)
      have h1i : ¬ (n : Int) = 1 := by omega
      have CF : Hid _ := cut_fun n (Nat.log2 (n - 1)) h2 h3' (by omega)
      rw [clmS, if_neg h1]
      have p0 : 0 < 2 ^ Nat.log2 (n - 1) := Nat.two_pow_pos _
      generalize 2 ^ Nat.log2 (n - 1) = P at *
      clear h3'
      have HVs : Hid (Ds w (sliced (some ⟨b, o, none⟩) 0 r.length cv 32) r.reverse) := by
        have hv' : Ds w (.slice (some ⟨b, o, none⟩) (x :: r).reverse.length cv) (x :: r).reverse := by rw [hl]; exact hv
        have := hv'.front (n := r.length) (by omega)
        rw [etake] at this
        exact this
      obtain ⟨sv, hsv⟩ : ∃ sv, sliced (some ⟨b, o, none⟩) 0 r.length cv 32 = sv := ⟨_, rfl⟩
      have SV : Hid _ := hsv
      rw [hsv] at HVs
      clear hsv
      have HT : Hid (KTab w) := hT
      have HX : Hid (w.rangeAt b (o + r.length * 32) (x.map b8)) := hlast
      have LX : Hid (x.length = 32 ∧ ∀ y ∈ x, y < 256) := lx
      have IX : Hid _ := info_d32.trans (congrArg some (show 32 = (x.map b8).length by rw [List.length_map, lx.1]))
      have HC : Hid (r.length + 1 ≤ cv) := hc
      have HD : Hid (d.length = 32 ∧ ∀ x ∈ d, x < 256) := hd
      by_cases hk : i < P
      · rw [if_pos hk]
        have ki : (i : Int) < (P : Int) := by omega
        have IC : Hid _ := ih lowr zL P i hk (by omega) sv
        have CL : Hid _ := clmS_low d hd r P i
        generalize (clmS d r P i).1 = c1 at *
        generalize (clmS d r P i).2 = c2 at *
        have ND : Hid _ := tnode_fun c1 x CL.out.1 lx.1 CL.out.2 lx.2
        have ML : Hid ((nodeS c1 x).length = 32) := (nodeS_low _ _).1
        generalize nodeS c1 x = mk at *
        have ID : Hid _ := info_d32.trans (congrArg some (show 32 = (mk.map b8).length by rw [List.length_map, ML.out]))
        have I1 : Hid _ := info_d32.trans (congrArg some (show 32 = (c1.map b8).length by rw [List.length_map, CL.out.1]))
        clear hv hT low zr h3 hc x0 x1 x2 hd hr hlast lx ex etake lowr ih hl h1 p0 h2 hi zn
        generalize r.length = L at *
        have h1b : ((n : Int) == 1) = false := by simpa using h1i
        have hLb : decide ((L : Int) < 0) = false := by simp
        go_enter Tryd.func36, Tryd.ntmps36
        go_wp2_with fail
        generalize (w.alloc (Obj.cells (d.map b8).toArray 24)).alloc (Obj.cells #[Value.int IntKind.u8 0, Value.int IntKind.u8 0, Value.int IntKind.u8 0, Value.int IntKind.u8 0, Value.int IntKind.u8 0, Value.int IntKind.u8 0, Value.int IntKind.u8 0, Value.int IntKind.u8 0, Value.int IntKind.u8 0, Value.int IntKind.u8 0, Value.int IntKind.u8 0, Value.int IntKind.u8 0, Value.int IntKind.u8 0, Value.int IntKind.u8 0, Value.int IntKind.u8 0, Value.int IntKind.u8 0, Value.int IntKind.u8 0, Value.int IntKind.u8 0, Value.int IntKind.u8 0, Value.int IntKind.u8 0, Value.int IntKind.u8 0, Value.int IntKind.u8 0, Value.int IntKind.u8 0, Value.int IntKind.u8 0, Value.int IntKind.u8 0, Value.int IntKind.u8 0, Value.int IntKind.u8 0, Value.int IntKind.u8 0, Value.int IntKind.u8 0, Value.int IntKind.u8 0, Value.int IntKind.u8 0, Value.int IntKind.u8 0] 24) = w1 at *
        refine (CF.out w1).mono ?_
        rintro e w1' ⟨rfl, hw1⟩
        have hw1 := hw1.symm
        subst hw1
        go_wp2_with fail
        refine wp_region_alloc1 10 (.cells #[Value.int IntKind.u8 0, Value.int IntKind.u8 0, Value.int IntKind.u8 0, Value.int IntKind.u8 0, Value.int IntKind.u8 0, Value.int IntKind.u8 0, Value.int IntKind.u8 0, Value.int IntKind.u8 0, Value.int IntKind.u8 0, Value.int IntKind.u8 0, Value.int IntKind.u8 0, Value.int IntKind.u8 0, Value.int IntKind.u8 0, Value.int IntKind.u8 0, Value.int IntKind.u8 0, Value.int IntKind.u8 0, Value.int IntKind.u8 0, Value.int IntKind.u8 0, Value.int IntKind.u8 0, Value.int IntKind.u8 0, Value.int IntKind.u8 0, Value.int IntKind.u8 0, Value.int IntKind.u8 0, Value.int IntKind.u8 0, Value.int IntKind.u8 0, Value.int IntKind.u8 0, Value.int IntKind.u8 0, Value.int IntKind.u8 0, Value.int IntKind.u8 0, Value.int IntKind.u8 0, Value.int IntKind.u8 0, Value.int IntKind.u8 0] 24) (by kernel_rfl) (by kernel_rfl) (by kernel_rfl) (by kernel_rfl) (by decide) (fun _ _ d _ _ h => by cases d <;> exact h) rfl rfl (fun _ _ => by kernel_rfl) ?_
        apply Exists.intro
        refine ⟨fun U hU f hf hcl => ?_, fun kv w6 hb6 hk6 hc6 => ?_⟩
        · have RD : Hid (∀ n, (f n).rangeAt w.heap.size 0 (d.map b8)) := fun n => (X0.out.up (hf n).out X0.out.lt).all
          have HB : ∀ n, Below w.heap.size w (f n) := fun n => D4.out.trans ((hf n).out.mono D4.out.size)
          have IN : Hid _ := fun n => IC.out (f n) (HVs.out.up (HB n) (Nat.le_refl _)) (HT.out.up (HB n) HT.out.pos)
          clear hf HB
          simp only [List.take_succ_cons, List.take_zero]
          repeat (first | (refine quiet_ld rfl (.tmp 6) rfl w.heap.size 0 rfl d DL.out (fun W hW => by obtain ⟨n, rfl⟩ := hW; exact RD.out n) ?_; simp only [Act.put, List.setIfInBounds_toArray, List.set_cons_succ, List.set_cons_zero]) | (refine quiet_frontD rfl (.tmp 41) (.tmp 42) rfl _ _ _ L _ _ rfl rfl rfl (by omega) HC.out sv SV.out ?_; simp only [Act.put, List.setIfInBounds_toArray, List.set_cons_succ, List.set_cons_zero]) | go_big_quiet_step (first | (go_at_call 36; exact (IN.out _).mono fun e w'' ⟨he, hb⟩ => ⟨he, hcl.out _ _ hb⟩)))
          exact wpQuiet_nil rfl
        simp only [List.drop_succ_cons, List.drop_zero]
        have K6 : Hid (Blk w6 kv ((List.replicate 32 0).map b8)) := Blk.of_heap hc6.out
        have D6 : Hid (Below w.heap.size w w6) := D4.out.trans (hb6.out.mono D4.out.size)
        have Y6 : Hid (Blk w6 (w.heap.size + 1) ((List.replicate 32 0).map b8)) := Y4.out.up hb6.out Y4.out.lt
        have NK : Hid (w.heap.size + 1 < kv) := (Nat.lt_of_lt_of_le Y4.out.lt hk6)
        have T6 : Hid (w6.there kv 0 (c1.map b8).length) := K6.out.there (by rw [List.length_map, CL.out.1]; simp)
        clear hb6 hk6 hc6 D4 Y4 X0 IC HVs SV
        go_wp2_with (refine wp_store_eq rfl 24 (.tmp 12) (.tmp 45) rfl kv 0 (c1.map b8) rfl rfl T6.out I1.out (one_b8 _) ?_)
        intro w7 hw7
        have B7 : Hid (Blk w7 kv (c1.map b8)) := by
          rw [hw7.out]
          exact K6.out.put (by rw [List.length_map, CL.out.1]; simp)
        have Y7 : Hid (Blk w7 (w.heap.size + 1) ((List.replicate 32 0).map b8)) := by
          rw [hw7.out]
          exact Y6.out.apart (by have := NK.out; omega)
        have D7 : Hid (Below w.heap.size w w7) := by
          rw [hw7.out]
          exact below_setCells _ _ _ D6.out (by have := NK.out; omega)
        clear hw7 T6 K6 D6 Y6
        have R7 : Hid (w7.rangeAt b (o + L * 32) (x.map b8)) := range_up HX.out D7.out (Nat.le_refl _)
        have KU : Hid (∀ W, Below w7.heap.size w7 W → KTab W) := fun W hW => HT.out.up (D7.out.trans (hW.mono D7.out.size)) HT.out.pos
        clear HX
        go_wp2_with fail
        have hLL : (L : Int) < (L : Int) + 1 := by omega
        refine wp_region_up_then 7 (by kernel_rfl) (by kernel_rfl) (by kernel_rfl) (by kernel_rfl) (by decide) (fun _ _ d _ _ h => by cases d <;> exact h) (fun U hU f hf hcl => ?_)
        have RV : Hid (∀ n, (f n).rangeAt kv 0 (c1.map b8)) := fun n => (B7.out.up (hf n).out B7.out.lt).all
        have RX : Hid (∀ n, (f n).rangeAt b (o + L * 32) (x.map b8)) := fun n => range_up R7.out (hf n).out (Nat.le_refl _)
        have KN : Hid (∀ n, KTab (f n)) := fun n => KU.out _ (hf n).out
        simp only [List.take_succ_cons, List.take_zero]
        repeat (first | (refine quiet_ld rfl (.tmp 12) rfl kv 0 rfl c1 CL.out.1 (fun W hW => by obtain ⟨n, rfl⟩ := hW; exact RV.out n) ?_; simp only [Act.put, List.setIfInBounds_toArray, List.set_cons_succ, List.set_cons_zero]) | (refine quiet_ld rfl (.tmp 50) rfl b (o + L * 32) rfl x LX.out.1 (fun W hW => by obtain ⟨n, rfl⟩ := hW; exact RX.out n) ?_; simp only [Act.put, List.setIfInBounds_toArray, List.set_cons_succ, List.set_cons_zero]) | go_big_quiet_step (first | (go_at_call 13; exact (ND.out _ (KN.out _)).mono fun e w'' ⟨he, hb⟩ => ⟨he, hcl.out _ _ hb⟩)))
        refine wpQuiet_nil ?_
        intro n
        have hb4 := (hf n).out
        generalize f n = w4 at hb4 ⊢
        simp only [List.drop_succ_cons, List.drop_zero]
        have D4 : Hid (Below w.heap.size w w4) := D7.out.trans (hb4.mono D7.out.size)
        have Y4 : Hid (Blk w4 (w.heap.size + 1) ((List.replicate 32 0).map b8)) := Y7.out.up hb4 Y7.out.lt
        clear hb4 D7 Y7 B7 R7 KU ND hf hcl RV RX KN
        have T1 : Hid (w4.there (w.heap.size + 1) 0 (mk.map b8).length) := Y4.out.there (by rw [List.length_map, ML.out]; simp)
        go_wp2_with (refine wp_store_eq rfl 24 (.tmp 8) (.tmp 52) rfl (w.heap.size + 1) 0 (mk.map b8) rfl rfl T1.out ID.out (one_b8 _) ?_)
        intro w5 hw5
        go_wp2_with fail
        refine bodyPost_ret (v := .tuple #[vB mk, .bool c2]) ?_ rfl ⟨rfl, ?_⟩
        · rw [hw5.out]
          exact results_cell2 (b := (w.heap.size + 1)) rfl rfl rfl (World.rangeAt_setCells_same _ _ _ _ T1.out) u_d32 rfl ID.out
        · rw [hw5.out]
          exact below_setCells _ _ _ D4.out (by omega)
      · rw [if_neg hk]
        have ki : ¬ (i : Int) < (P : Int) := by omega
        obtain ⟨q, hq⟩ : ∃ q, q = i - P := ⟨_, rfl⟩
        obtain ⟨m, hm⟩ : ∃ m, m = n - P := ⟨_, rfl⟩
        rw [← hq, ← hm]
        have wq : (i : Int) - (P : Int) = (q : Int) := by omega
        have wm : (n : Int) - (P : Int) = (m : Int) := by omega
        have wq' : IntKind.i64.wrap (q : Int) = (q : Int) := by rw [IntKind.wrap_i64]; omega
        have wm' : IntKind.i64.wrap (m : Int) = (m : Int) := by rw [IntKind.wrap_i64]; omega
        have IC : Hid _ := ih lowr zL m q (by omega) (by omega) sv
        have CL : Hid _ := clmS_low d hd r m q
        clear hq hm
        generalize (clmS d r m q).1 = c1 at *
        generalize (clmS d r m q).2 = c2 at *
        have ND : Hid _ := tnode_fun x c1 lx.1 CL.out.1 lx.2 CL.out.2
        have ML : Hid ((nodeS x c1).length = 32) := (nodeS_low _ _).1
        generalize nodeS x c1 = mk at *
        have ID : Hid _ := info_d32.trans (congrArg some (show 32 = (mk.map b8).length by rw [List.length_map, ML.out]))
        have I1 : Hid _ := info_d32.trans (congrArg some (show 32 = (c1.map b8).length by rw [List.length_map, CL.out.1]))
        clear hv hT low zr h3 hc x0 x1 x2 hd hr hlast lx ex etake lowr ih hl h1 p0 h2 hi zn
        generalize r.length = L at *
        have h1b : ((n : Int) == 1) = false := by simpa using h1i
        have hLb : decide ((L : Int) < 0) = false := by simp
        go_enter Tryd.func36, Tryd.ntmps36
        go_wp2_with fail
        generalize (w.alloc (Obj.cells (d.map b8).toArray 24)).alloc (Obj.cells #[Value.int IntKind.u8 0, Value.int IntKind.u8 0, Value.int IntKind.u8 0, Value.int IntKind.u8 0, Value.int IntKind.u8 0, Value.int IntKind.u8 0, Value.int IntKind.u8 0, Value.int IntKind.u8 0, Value.int IntKind.u8 0, Value.int IntKind.u8 0, Value.int IntKind.u8 0, Value.int IntKind.u8 0, Value.int IntKind.u8 0, Value.int IntKind.u8 0, Value.int IntKind.u8 0, Value.int IntKind.u8 0, Value.int IntKind.u8 0, Value.int IntKind.u8 0, Value.int IntKind.u8 0, Value.int IntKind.u8 0, Value.int IntKind.u8 0, Value.int IntKind.u8 0, Value.int IntKind.u8 0, Value.int IntKind.u8 0, Value.int IntKind.u8 0, Value.int IntKind.u8 0, Value.int IntKind.u8 0, Value.int IntKind.u8 0, Value.int IntKind.u8 0, Value.int IntKind.u8 0, Value.int IntKind.u8 0, Value.int IntKind.u8 0] 24) = w1 at *
        refine (CF.out w1).mono ?_
        rintro e w1' ⟨rfl, hw1⟩
        have hw1 := hw1.symm
        subst hw1
        go_wp2_with fail
        refine wp_region_alloc1 14 (.cells #[Value.int IntKind.u8 0, Value.int IntKind.u8 0, Value.int IntKind.u8 0, Value.int IntKind.u8 0, Value.int IntKind.u8 0, Value.int IntKind.u8 0, Value.int IntKind.u8 0, Value.int IntKind.u8 0, Value.int IntKind.u8 0, Value.int IntKind.u8 0, Value.int IntKind.u8 0, Value.int IntKind.u8 0, Value.int IntKind.u8 0, Value.int IntKind.u8 0, Value.int IntKind.u8 0, Value.int IntKind.u8 0, Value.int IntKind.u8 0, Value.int IntKind.u8 0, Value.int IntKind.u8 0, Value.int IntKind.u8 0, Value.int IntKind.u8 0, Value.int IntKind.u8 0, Value.int IntKind.u8 0, Value.int IntKind.u8 0, Value.int IntKind.u8 0, Value.int IntKind.u8 0, Value.int IntKind.u8 0, Value.int IntKind.u8 0, Value.int IntKind.u8 0, Value.int IntKind.u8 0, Value.int IntKind.u8 0, Value.int IntKind.u8 0] 24) (by kernel_rfl) (by kernel_rfl) (by kernel_rfl) (by kernel_rfl) (by decide) (fun _ _ d _ _ h => by cases d <;> exact h) rfl rfl (fun _ _ => by kernel_rfl) ?_
        apply Exists.intro
        refine ⟨fun U hU f hf hcl => ?_, fun kv w6 hb6 hk6 hc6 => ?_⟩
        · have RD : Hid (∀ n, (f n).rangeAt w.heap.size 0 (d.map b8)) := fun n => (X0.out.up (hf n).out X0.out.lt).all
          have HB : ∀ n, Below w.heap.size w (f n) := fun n => D4.out.trans ((hf n).out.mono D4.out.size)
          have IN : Hid _ := fun n => IC.out (f n) (HVs.out.up (HB n) (Nat.le_refl _)) (HT.out.up (HB n) HT.out.pos)
          clear hf HB
          simp only [List.take_succ_cons, List.take_zero]
          repeat (first | (refine quiet_ld rfl (.tmp 6) rfl w.heap.size 0 rfl d DL.out (fun W hW => by obtain ⟨n, rfl⟩ := hW; exact RD.out n) ?_; simp only [Act.put, List.setIfInBounds_toArray, List.set_cons_succ, List.set_cons_zero]) | (refine quiet_frontD rfl (.tmp 62) (.tmp 63) rfl _ _ _ L _ _ rfl rfl rfl (by omega) HC.out sv SV.out ?_; simp only [Act.put, List.setIfInBounds_toArray, List.set_cons_succ, List.set_cons_zero]) | go_big_quiet_step (first | (go_at_call 36; exact (IN.out _).mono fun e w'' ⟨he, hb⟩ => ⟨he, hcl.out _ _ hb⟩)))
          exact wpQuiet_nil rfl
        simp only [List.drop_succ_cons, List.drop_zero]
        have K6 : Hid (Blk w6 kv ((List.replicate 32 0).map b8)) := Blk.of_heap hc6.out
        have D6 : Hid (Below w.heap.size w w6) := D4.out.trans (hb6.out.mono D4.out.size)
        have Y6 : Hid (Blk w6 (w.heap.size + 1) ((List.replicate 32 0).map b8)) := Y4.out.up hb6.out Y4.out.lt
        have NK : Hid (w.heap.size + 1 < kv) := (Nat.lt_of_lt_of_le Y4.out.lt hk6)
        have T6 : Hid (w6.there kv 0 (c1.map b8).length) := K6.out.there (by rw [List.length_map, CL.out.1]; simp)
        clear hb6 hk6 hc6 D4 Y4 X0 IC HVs SV
        go_wp2_with (refine wp_store_eq rfl 24 (.tmp 14) (.tmp 66) rfl kv 0 (c1.map b8) rfl rfl T6.out I1.out (one_b8 _) ?_)
        intro w7 hw7
        have B7 : Hid (Blk w7 kv (c1.map b8)) := by
          rw [hw7.out]
          exact K6.out.put (by rw [List.length_map, CL.out.1]; simp)
        have Y7 : Hid (Blk w7 (w.heap.size + 1) ((List.replicate 32 0).map b8)) := by
          rw [hw7.out]
          exact Y6.out.apart (by have := NK.out; omega)
        have D7 : Hid (Below w.heap.size w w7) := by
          rw [hw7.out]
          exact below_setCells _ _ _ D6.out (by have := NK.out; omega)
        clear hw7 T6 K6 D6 Y6
        have R7 : Hid (w7.rangeAt b (o + L * 32) (x.map b8)) := range_up HX.out D7.out (Nat.le_refl _)
        have KU : Hid (∀ W, Below w7.heap.size w7 W → KTab W) := fun W hW => HT.out.up (D7.out.trans (hW.mono D7.out.size)) HT.out.pos
        clear HX
        go_wp2_with fail
        have hLL : (L : Int) < (L : Int) + 1 := by omega
        refine wp_region_up_then 7 (by kernel_rfl) (by kernel_rfl) (by kernel_rfl) (by kernel_rfl) (by decide) (fun _ _ d _ _ h => by cases d <;> exact h) (fun U hU f hf hcl => ?_)
        have RV : Hid (∀ n, (f n).rangeAt kv 0 (c1.map b8)) := fun n => (B7.out.up (hf n).out B7.out.lt).all
        have RX : Hid (∀ n, (f n).rangeAt b (o + L * 32) (x.map b8)) := fun n => range_up R7.out (hf n).out (Nat.le_refl _)
        have KN : Hid (∀ n, KTab (f n)) := fun n => KU.out _ (hf n).out
        simp only [List.take_succ_cons, List.take_zero]
        repeat (first | (refine quiet_ld rfl (.tmp 14) rfl kv 0 rfl c1 CL.out.1 (fun W hW => by obtain ⟨n, rfl⟩ := hW; exact RV.out n) ?_; simp only [Act.put, List.setIfInBounds_toArray, List.set_cons_succ, List.set_cons_zero]) | (refine quiet_ld rfl (.tmp 70) rfl b (o + L * 32) rfl x LX.out.1 (fun W hW => by obtain ⟨n, rfl⟩ := hW; exact RX.out n) ?_; simp only [Act.put, List.setIfInBounds_toArray, List.set_cons_succ, List.set_cons_zero]) | go_big_quiet_step (first | (go_at_call 13; exact (ND.out _ (KN.out _)).mono fun e w'' ⟨he, hb⟩ => ⟨he, hcl.out _ _ hb⟩)))
        refine wpQuiet_nil ?_
        intro n
        have hb4 := (hf n).out
        generalize f n = w4 at hb4 ⊢
        simp only [List.drop_succ_cons, List.drop_zero]
        have D4 : Hid (Below w.heap.size w w4) := D7.out.trans (hb4.mono D7.out.size)
        have Y4 : Hid (Blk w4 (w.heap.size + 1) ((List.replicate 32 0).map b8)) := Y7.out.up hb4 Y7.out.lt
        clear hb4 D7 Y7 B7 R7 KU ND hf hcl RV RX KN
        have T1 : Hid (w4.there (w.heap.size + 1) 0 (mk.map b8).length) := Y4.out.there (by rw [List.length_map, ML.out]; simp)
        go_wp2_with (refine wp_store_eq rfl 24 (.tmp 8) (.tmp 73) rfl (w.heap.size + 1) 0 (mk.map b8) rfl rfl T1.out ID.out (one_b8 _) ?_)
        intro w5 hw5
        go_wp2_with fail
        refine bodyPost_ret (v := .tuple #[vB mk, .bool c2]) ?_ rfl ⟨rfl, ?_⟩
        · rw [hw5.out]
          exact results_cell2 (b := (w.heap.size + 1)) rfl rfl rfl (World.rangeAt_setCells_same _ _ _ _ T1.out) u_d32 rfl ID.out
        · rw [hw5.out]
          exact below_setCells _ _ _ D4.out (by omega)
end Go.Proofs.YtmpniingbioggaaDoor
