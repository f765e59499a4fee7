/- Texts that were joined: DBel, DSrcB. -/
import Derived.Test.YtdcpicbkemmakaaDoorQDSrcToDSrcC
import Derived.Test.YtdcpicbkemmakaaDoorQLenToDBelM
/- The contracts of draw.Source.number, draw.low, draw.firstBelow and draw.Source.Below. -/
namespace Go.Proofs.YtdcpicbkemmakaaDoor
open Go.RowKit
set_option linter.unusedSimpArgs false
theorem results_cell2 {P : Program} {fn : Func} {tmps : Array Value} {s s2 : Tmp} {t : TypeId} {b : Nat} {cs : List Value} {d : TypeDesc} {W : World} {v : Value} (hr : fn.results = #[.cell s t, .tmp s2]) (ht : tmps[s]?.getD undef = .pointer (some ⟨b, 0, none⟩)) (ht2 : tmps[s2]?.getD undef = v) (hc : W.rangeAt b 0 cs)
    (hu : P.underlying t = some d) (hd : d.isRow = true) (hi : (P.info? t).map (·.size) = some cs.length) : (results fn tmps).run P W = .ok (.tuple #[.agg cs.toArray, v]) W := by
  have h1 := run_loadVar_mid (P := P) W b 0 t cs d hc hu hd hi
  simp [results, hr, ht, ht2, asAddr, h1]
theorem Fr.put {w a : World} {k : Nat} (h : Fr w k a) (j o : Nat) (vs : List Value) (hj : w.heap.size ≤ j) : Fr w k (a.setCells j o vs) := by
  have hb := below_setCells (B := 0) (k := j) vs o a (Below.refl 0 a) (Nat.zero_le _)
  refine ⟨hb.os.trans h.os, hb.tape.trans h.tape, hb.output.trans h.output, Nat.le_trans h.size hb.size, fun i hi hk => ?_⟩
  rw [heap_setCells_off j i (by omega)]
  exact h.block i hi hk
theorem Fr.trans {w a b : World} {k : Nat} (h : Fr w k a) (h2 : Fr a k b) : Fr w k b :=
  ⟨h2.os.trans h.os, h2.tape.trans h.tape, h2.output.trans h.output, Nat.le_trans h.size h2.size, fun j hj hk => (h2.block j (Nat.lt_of_lt_of_le hj h.size) hk).trans (h.block j hj hk)⟩
theorem Fr.of {w a : World} {k : Nat} (h : Below w.heap.size w a) : Fr w k a := (Fr.refl w k).then h
/-- Four words that are 0. -/
def z4 : Array Value := #[.int .u64 0, .int .u64 0, .int .u64 0, .int .u64 0]
set_option maxRecDepth 20000 in
set_option maxHeartbeats 4000000 in
theorem snumber_fun {seed : List Nat} {F : Nat → Prop} {k p : Nat} (w : World) (hs : Src w k F seed p) (hT : KTab w) (k0 : 0 < k) :
    Calls Tryd.prog 49 #[ptr k] w fun e w' => e = .returned (N (Nm.of ((leN (drawS seed p 32) : Nat) : Int))) ∧ Src w' k F seed ((p + 32) % 18446744073709551616) ∧ Fr w k w' := by
  obtain ⟨x0, x1, x2⟩ := al2 w #[Value.int IntKind.u64 0, Value.int IntKind.u64 0, Value.int IntKind.u64 0, Value.int IntKind.u64 0] #[Value.int IntKind.u8 0, Value.int IntKind.u8 0, Value.int IntKind.u8 0, Value.int IntKind.u8 0, Value.int IntKind.u8 0, Value.int IntKind.u8 0, Value.int IntKind.u8 0, Value.int IntKind.u8 0, Value.int IntKind.u8 0, Value.int IntKind.u8 0, Value.int IntKind.u8 0, Value.int IntKind.u8 0, Value.int IntKind.u8 0, Value.int IntKind.u8 0, Value.int IntKind.u8 0, Value.int IntKind.u8 0, Value.int IntKind.u8 0, Value.int IntKind.u8 0, Value.int IntKind.u8 0, Value.int IntKind.u8 0, Value.int IntKind.u8 0, Value.int IntKind.u8 0, Value.int IntKind.u8 0, Value.int IntKind.u8 0, Value.int IntKind.u8 0, Value.int IntKind.u8 0, Value.int IntKind.u8 0, Value.int IntKind.u8 0, Value.int IntKind.u8 0, Value.int IntKind.u8 0, Value.int IntKind.u8 0, Value.int IntKind.u8 0] 24 109
  have xr : RowB ((w.alloc (.cells #[Value.int IntKind.u64 0, Value.int IntKind.u64 0, Value.int IntKind.u64 0, Value.int IntKind.u64 0] 24)).alloc (.cells #[Value.int IntKind.u8 0, Value.int IntKind.u8 0, Value.int IntKind.u8 0, Value.int IntKind.u8 0, Value.int IntKind.u8 0, Value.int IntKind.u8 0, Value.int IntKind.u8 0, Value.int IntKind.u8 0, Value.int IntKind.u8 0, Value.int IntKind.u8 0, Value.int IntKind.u8 0, Value.int IntKind.u8 0, Value.int IntKind.u8 0, Value.int IntKind.u8 0, Value.int IntKind.u8 0, Value.int IntKind.u8 0, Value.int IntKind.u8 0, Value.int IntKind.u8 0, Value.int IntKind.u8 0, Value.int IntKind.u8 0, Value.int IntKind.u8 0, Value.int IntKind.u8 0, Value.int IntKind.u8 0, Value.int IntKind.u8 0, Value.int IntKind.u8 0, Value.int IntKind.u8 0, Value.int IntKind.u8 0, Value.int IntKind.u8 0, Value.int IntKind.u8 0, Value.int IntKind.u8 0, Value.int IntKind.u8 0, Value.int IntKind.u8 0] 109)) (w.heap.size + 1) 109 (List.replicate 32 0) := by
    have := heap_alloc_new (w.alloc (.cells #[Value.int IntKind.u64 0, Value.int IntKind.u64 0, Value.int IntKind.u64 0, Value.int IntKind.u64 0] 24)) (.cells #[Value.int IntKind.u8 0, Value.int IntKind.u8 0, Value.int IntKind.u8 0, Value.int IntKind.u8 0, Value.int IntKind.u8 0, Value.int IntKind.u8 0, Value.int IntKind.u8 0, Value.int IntKind.u8 0, Value.int IntKind.u8 0, Value.int IntKind.u8 0, Value.int IntKind.u8 0, Value.int IntKind.u8 0, Value.int IntKind.u8 0, Value.int IntKind.u8 0, Value.int IntKind.u8 0, Value.int IntKind.u8 0, Value.int IntKind.u8 0, Value.int IntKind.u8 0, Value.int IntKind.u8 0, Value.int IntKind.u8 0, Value.int IntKind.u8 0, Value.int IntKind.u8 0, Value.int IntKind.u8 0, Value.int IntKind.u8 0, Value.int IntKind.u8 0, Value.int IntKind.u8 0, Value.int IntKind.u8 0, Value.int IntKind.u8 0, Value.int IntKind.u8 0, Value.int IntKind.u8 0, Value.int IntKind.u8 0, Value.int IntKind.u8 0] 109)
    rw [show (w.alloc (.cells #[Value.int IntKind.u64 0, Value.int IntKind.u64 0, Value.int IntKind.u64 0, Value.int IntKind.u64 0] 24)).heap.size = w.heap.size + 1 by simp] at this
    exact this
  have X0 : Hid (Blk _ w.heap.size (nC ⟨0, 0, 0, 0⟩)) := x0
  have X2 : Hid (Below w.heap.size w _) := x2
  have FF : Hid _ := fill_fun (w.heap.size + 1) 32 109 (List.replicate 32 0) (by simp) (by decide) _ (hs.up x2 hs.blk.lt) xr (by have := hs.blk.lt; omega) k0 (by omega) (hT.up x2 hT.pos)
  have DL : Hid ((drawS seed p 32).length = 32) := drawS_length _ _ _
  have OF : Hid _ := of_num (drawS seed p 32) (drawS_length _ _ _) (drawS_low _ _ _)
  have KL : Hid (k < w.heap.size) := hs.blk.lt
  clear hs hT k0 x0 x1 x2 xr
  generalize Nm.of ((leN (drawS seed p 32) : Nat) : Int) = R at *
  generalize drawS seed p 32 = dd at *
  have ID : Hid _ := info_d32.trans (congrArg some (show 32 = (dd.map b8).length by rw [List.length_map, DL.out]))
  go_enter Tryd.func49, Tryd.ntmps49
  go_wp2_with fail
  generalize World.alloc (w.alloc _) _ = w1 at *
  refine Calls.mono FF.out ?_
  rintro e w2 ⟨rfl, s2, r2, f2⟩
  have S2 : Hid _ := s2
  have B2 : Hid (Blk w2 (w.heap.size + 1) (dd.map b8)) := r2.blk
  have F2 : Hid (Fr w k w2) := f2.fr X2.out (by omega)
  have Z2 : Hid (Blk w2 w.heap.size (nC ⟨0, 0, 0, 0⟩)) := X0.out.same (f2.block _ X0.out.lt (by have := KL.out; omega) (by omega))
  clear s2 r2 f2 FF X0 X2
  go_wp2_with (refine wpList_load_mid rfl 109 (.tmp 3) rfl (w.heap.size + 1) 0 rfl (dd.map b8) _ B2.out.all u_d32 rfl ID.out ?_)
  refine Calls.mono (OF.out w2) ?_
  rintro e w3 ⟨rfl, hb3⟩
  have S3 : Hid _ := S2.out.up hb3 S2.out.blk.lt
  have F3 : Hid (Fr w k w3) := F2.out.then hb3
  have Z3 : Hid (Blk w3 w.heap.size (nC ⟨0, 0, 0, 0⟩)) := Z2.out.up hb3 Z2.out.lt
  clear hb3 OF S2 F2 Z2 B2
  have T3 : Hid (w3.there w.heap.size 0 4) := Z3.out.there (by simp [nC])
  go_wp2_with (refine wp_stN rfl (.tmp 2) (.tmp 8) rfl w.heap.size rfl R rfl T3.out ?_)
  intro w4 hw4
  go_wp2_with fail
  refine bodyPost_ret (v := N R) ?_ rfl ⟨rfl, ?_, ?_⟩
  · rw [hw4.out]
    exact results_cell (b := w.heap.size) (cs := nC R) rfl rfl (Z3.out.num R).all u_num rfl info_num
  · rw [hw4.out]
    exact S3.out.stay (heap_setCells_off _ _ (by have := KL.out; omega) _ _ _)
  · rw [hw4.out]
    exact F3.out.put _ _ _ (Nat.le_refl _)
set_option maxHeartbeats 400000 in
theorem shift_out (x : Nm) (d : Int) (hd : d = 256 ∨ d = -256) (w : World) :
    Calls Tryd.prog 77 #[N x, .int .i64 d] w fun e w' => e = .returned (N ⟨0, 0, 0, 0⟩) ∧ Below w.heap.size w w' := by
  obtain ⟨x0, x1, x2⟩ := al2 w (nC x).toArray #[Value.int IntKind.u64 0, Value.int IntKind.u64 0, Value.int IntKind.u64 0, Value.int IntKind.u64 0] 24 24
  have X1 : Hid (Blk _ (w.heap.size + 1) (nC ⟨0, 0, 0, 0⟩)) := x1
  have X2 : Hid (Below w.heap.size w _) := x2
  have T1 : Hid _ := x1.there (o := 0) (n := 4) (by simp)
  clear x0 x1 x2
  have NX : Hid (N x = .agg (nC x).toArray) := rfl
  rw [NX.out]
  generalize nC x = xc at *
  rcases hd with rfl | rfl
  all_goals
    go_enter Tryd.func77, Tryd.ntmps77
    go_wp2_with (refine wp_stN rfl (.tmp 4) (.tmp 11) rfl (w.heap.size + 1) rfl ⟨0, 0, 0, 0⟩ rfl T1.out ?_)
    generalize World.alloc (w.alloc _) _ = w1 at *
    intro w4 hw4
    go_wp2_with fail
    refine bodyPost_ret (v := N ⟨0, 0, 0, 0⟩) ?_ rfl ⟨rfl, ?_⟩
    · rw [hw4.out]
      exact results_cell (b := w.heap.size + 1) (cs := nC ⟨0, 0, 0, 0⟩) rfl rfl (X1.out.num _).all u_num rfl info_num
    · rw [hw4.out]
      exact below_setCells _ _ _ X2.out (by omega)
theorem both_low (X n : Nat) (hX : X < 2 ^ 256) (hn : n ≤ 256) : ∃ Y, (∀ w, Calls Tryd.prog 77 #[N (Nm.of ((X : Nat) : Int)), .int .i64 (256 - (n : Int))] w fun e w' => e = .returned (N Y) ∧ Below w.heap.size w w') ∧
    ∀ w, Calls Tryd.prog 77 #[N Y, .int .i64 ((n : Int) - 256)] w fun e w' => e = .returned (N (Nm.of ((X % 2 ^ n : Nat) : Int))) ∧ Below w.heap.size w w' := by
  by_cases h0 : 0 < n
  · exact ⟨_, fun w => shift_up X n hX h0 hn w, fun w => shift_dn X n h0 hn w⟩
  · obtain rfl : n = 0 := by omega
    refine ⟨⟨0, 0, 0, 0⟩, fun w => shift_out _ _ (.inl rfl) w, fun w => ?_⟩
    have e : Nm.of ((X % 2 ^ 0 : Nat) : Int) = ⟨0, 0, 0, 0⟩ := by
      rw [Nat.pow_zero, Nat.mod_one]
      rfl
    rw [e]
    exact shift_out _ _ (.inr rfl) w
set_option maxHeartbeats 4000000 in
theorem dlow_fun (X n : Nat) (hX : X < 2 ^ 256) (hn : n ≤ 256) (w : World) : Calls Tryd.prog 69 #[N (Nm.of ((X : Nat) : Int)), .int .i64 (n : Int)] w fun e w' => e = .returned (N (Nm.of ((X % 2 ^ n : Nat) : Int))) ∧ Below w.heap.size w w' := by
  obtain ⟨Y, u1, u2⟩ := both_low X n hX hn
  have U1 : Hid _ := u1
  have U2 : Hid _ := u2
  generalize Nm.of ((X % 2 ^ n : Nat) : Int) = R at *
  generalize Nm.of ((X : Nat) : Int) = x at *
  clear u1 u2 hX
  obtain ⟨x0, x1, x2⟩ := al2 w (nC x).toArray #[Value.int IntKind.u64 0, Value.int IntKind.u64 0, Value.int IntKind.u64 0, Value.int IntKind.u64 0] 24 24
  have X0 : Hid (Blk _ w.heap.size (nC x)) := x0
  have X1 : Hid (Blk _ (w.heap.size + 1) (nC ⟨0, 0, 0, 0⟩)) := x1
  have X2 : Hid (Below w.heap.size w _) := x2
  have wa : IntKind.i64.wrap (256 - (n : Int)) = 256 - (n : Int) := by rw [IntKind.wrap_i64]; omega
  have wb : IntKind.i64.wrap (-(256 - (n : Int))) = (n : Int) - 256 := by rw [IntKind.wrap_i64]; omega
  clear x0 x1 x2
  have NX : Hid (N x = .agg (nC x).toArray) := rfl
  rw [NX.out]
  go_enter Tryd.func69, Tryd.ntmps69
  go_wp2_with (refine wp_ldN (by kernel_rfl) (.tmp 2) rfl w.heap.size rfl x X0.out ?_)
  generalize World.alloc (w.alloc _) _ = w1 at *
  refine Calls.mono (U1.out w1) ?_
  rintro e w2 ⟨rfl, hb2⟩
  have D2 : Hid (Below w.heap.size w w2) := X2.out.trans (hb2.mono X2.out.size)
  have Z2 : Hid (Blk w2 (w.heap.size + 1) (nC ⟨0, 0, 0, 0⟩)) := X1.out.up hb2 X1.out.lt
  clear hb2 X0 X1 X2 U1
  go_wp2_with fail
  refine Calls.mono (U2.out w2) ?_
  rintro e w3 ⟨rfl, hb3⟩
  have D3 : Hid (Below w.heap.size w w3) := D2.out.trans (hb3.mono D2.out.size)
  have Z3 : Hid (Blk w3 (w.heap.size + 1) (nC ⟨0, 0, 0, 0⟩)) := Z2.out.up hb3 Z2.out.lt
  clear hb3 D2 Z2 U2
  have T3 : Hid (w3.there (w.heap.size + 1) 0 4) := Z3.out.there (by simp [nC])
  go_wp2_with (refine wp_stN rfl (.tmp 4) (.tmp 13) rfl (w.heap.size + 1) rfl R rfl T3.out ?_)
  intro w4 hw4
  go_wp2_with fail
  refine bodyPost_ret (v := N R) ?_ rfl ⟨rfl, ?_⟩
  · rw [hw4.out]
    exact results_cell (b := w.heap.size + 1) (cs := nC R) rfl rfl (Z3.out.num R).all u_num rfl info_num
  · rw [hw4.out]
    exact below_setCells _ _ _ D3.out (by omega)
theorem bl_le {M n : Nat} (h : BL M n) (hM : M < 2 ^ 256) : n ≤ 256 := by
  apply Classical.byContradiction
  intro hn
  have h1 := h.2 256 (by omega)
  omega
/-- The number that is drawn, as a function value. -/
abbrev nextV (k : Nat) : Value := .func (.func 49) #[ptr k] #[]
/-- What firstBelow ends with, told of the numbers T that are drawn; S: how the source is behind so many. -/
def FBPost (T : Nat → Nat) (S : World → Nat → Prop) (M n k : Nat) (w : World) (e : Ending) (w' : World) : Prop :=
  ∃ t, ((t < 100 ∧ e = .returned (.tuple #[N (Nm.of ((T t % 2 ^ n : Nat) : Int)), .int .i64 0]) ∧ T t % 2 ^ n < M ∧ S w' (t + 1)) ∨ (t = 100 ∧ e = .returned (.tuple #[N ⟨0, 0, 0, 0⟩, .int .i64 6]) ∧ S w' 100)) ∧ (∀ i, i < t → ¬ T i % 2 ^ n < M) ∧ Fr w k w'
set_option maxRecDepth 20000 in
set_option maxHeartbeats 4000000 in
theorem first_core (T : Nat → Nat) (S : World → Nat → Prop) {k : Nat} (x : Nm) (hx : x.ok) (M n : Nat) (hM : x.nat = M) (h0 : 0 < M) (hn : BL M n) (w : World) (hk : k < w.heap.size) (s0 : S w 0) (up : ∀ W W' j, S W j → W'.heap[k]? = W.heap[k]? → S W' j)
    (nu : ∀ W j, S W j → Fr w k W → Calls Tryd.prog 49 #[ptr k] W fun e w' => e = .returned (N (Nm.of ((T j : Nat) : Int))) ∧ S w' (j + 1) ∧ Fr W k w') (tl : ∀ j, T j < 2 ^ 256) :
    Calls Tryd.prog 48 #[N x, nextV k] w fun e w' => FBPost T S M n k w e w' := by
  have hlt : M < 2 ^ 256 := hM ▸ Nm.nat_lt hx
  have n256 := bl_le hn hlt
  have SU : Hid _ := sub_one x hx M hM h0
  have LN : Hid _ := len_num x hx M n hM h0 hn
  have CM : Hid _ := fun Y hY => cmp_num Y M x hx hM hY
  have LO : Hid _ := fun Y hY => dlow_fun Y n hY n256
  have KL : Hid (k < w.heap.size) := hk
  have NU : Hid (∀ W j, S W j → Fr w k W → Calls Tryd.prog 49 #[ptr k] W fun e w' => e = .returned (N (Nm.of ((T j : Nat) : Int))) ∧ S w' (j + 1) ∧ Fr W k w') := nu
  have UP : Hid (∀ W W' B j, S W j → Below B W W' → k < B → S W' j) := fun W W' B j h hb hB => up W W' j h (hb.block k hB)
  have UQ : Hid (∀ W W' j, S W j → W'.heap[k]? = W.heap[k]? → S W' j) := up
  have TL : Hid (∀ j, T j < 2 ^ 256) := tl
  obtain ⟨x0, x1, x2⟩ := al2 w (nC x).toArray #[Value.int IntKind.u64 0, Value.int IntKind.u64 0, Value.int IntKind.u64 0, Value.int IntKind.u64 0] 24 24
  have X0 : Hid (Blk _ w.heap.size (nC x)) := x0
  have X1 : Hid (Blk _ (w.heap.size + 1) (nC ⟨0, 0, 0, 0⟩)) := x1
  have X2 : Hid (Below w.heap.size w _) := x2
  have S1 : Hid (S _ 0) := up _ _ _ s0 (x2.block k hk)
  have NX : Hid (N x = .agg (nC x).toArray) := rfl
  rw [NX.out]
  clear s0 up nu tl hk x0 x1 x2 hlt hM hx hn h0
  generalize Nm.of ((M - 1 : Nat) : Int) = top at *
  go_enter Tryd.func48, Tryd.ntmps48
  go_wp2_with (refine wp_ldN (by kernel_rfl) (.tmp 2) rfl w.heap.size rfl x X0.out ?_)
  generalize World.alloc (w.alloc _) _ = w1 at *
  refine Calls.mono (SU.out w1) ?_
  rintro e w2 ⟨⟨cy, rfl⟩, hb2⟩
  have K1 : Hid (k < w1.heap.size) := Nat.lt_of_lt_of_le KL.out X2.out.size
  have A2 : Hid (Blk w2 w.heap.size (nC x)) := X0.out.up hb2 X0.out.lt
  have Z2 : Hid (Blk w2 (w.heap.size + 1) (nC ⟨0, 0, 0, 0⟩)) := X1.out.up hb2 X1.out.lt
  have S2 : Hid (S w2 0) := UP.out _ _ _ _ S1.out hb2 K1.out
  have F2 : Hid (Fr w k w2) := (Fr.of X2.out).then hb2
  clear hb2 X0 X1 X2 S1 SU K1
  have T2 : Hid (∀ C t, C.size = 4 → World.there (w2.alloc (.cells C t)) w2.heap.size 0 4) := fun C t hC => (al1 w2 C t).1.there (by rw [Array.length_toList, hC]; omega)
  go_wp2_with (refine wp_stN rfl (.tmp 6) (.tmp 14) rfl w2.heap.size rfl top rfl (T2.out _ _ rfl) ?_)
  intro w3 hw3
  obtain ⟨b3, h3⟩ : Blk w3 w2.heap.size (nC top) ∧ Below w2.heap.size w2 w3 := by
    rw [hw3.out]
    exact alst w2 _ _ _ rfl
  have A3 : Hid (Blk w3 w.heap.size (nC x)) := A2.out.up h3 A2.out.lt
  have Z3 : Hid (Blk w3 (w.heap.size + 1) (nC ⟨0, 0, 0, 0⟩)) := Z2.out.up h3 Z2.out.lt
  have S3 : Hid (S w3 0) := UP.out _ _ _ _ S2.out h3 (Nat.lt_of_lt_of_le KL.out F2.out.size)
  have F3 : Hid (Fr w k w3) := F2.out.then h3
  have B3 : Hid (Blk w3 w2.heap.size (nC top)) := b3
  clear hw3 b3 h3 A2 Z2 S2 F2 T2
  generalize w2.heap.size = g at *
  go_wp2_with (refine wp_ldN (by kernel_rfl) (.tmp 6) rfl g rfl top B3.out ?_)
  refine Calls.mono (LN.out w3) ?_
  rintro e w4 ⟨rfl, hb4⟩
  have A4 : Hid (Blk w4 w.heap.size (nC x)) := A3.out.up hb4 A3.out.lt
  have Z4 : Hid (Blk w4 (w.heap.size + 1) (nC ⟨0, 0, 0, 0⟩)) := Z3.out.up hb4 Z3.out.lt
  have S4 : Hid (S w4 0) := UP.out _ _ _ _ S3.out hb4 (Nat.lt_of_lt_of_le KL.out F3.out.size)
  have F4 : Hid (Fr w k w4) := F3.out.then hb4
  clear hb4 A3 Z3 S3 F3 B3 LN
  go_wp2_with fail
  go_loopw [18] (fun i wr => ∃ j : Nat, j ≤ 100 ∧ i = .int .i64 (j : Int) ∧ Hid (∀ t, t < j → ¬ T t % 2 ^ n < M) ∧ Hid (Blk wr w.heap.size (nC x)) ∧ Hid (Blk wr (w.heap.size + 1) (nC ⟨0, 0, 0, 0⟩)) ∧ Hid (S wr j) ∧ Hid (Fr w k wr)) (fun i _ => 100 - (intOf i).toNat)
  case atStart => exact ⟨0, by omega, rfl, fun t ht => absurd ht (Nat.not_lt_zero _), A4, Z4, S4, F4⟩
  case round =>
    clear A4 Z4 S4 F4
    obtain ⟨j, hj, rfl, no, A1, Z1, S1, F1⟩ := hrel
    by_cases hj1 : j < 100
    · have j1 : (j : Int) < 100 := by omega
      have NJ : Hid _ := NU.out wr j S1.out F1.out
      have LJ : Hid _ := LO.out (T j) (TL.out j)
      have CJ : Hid _ := CM.out (T j % 2 ^ n) (Nat.lt_of_le_of_lt (Nat.mod_le _ _) (TL.out j))
      have J1 : Hid (j < 100) := hj1
      clear hj hj1
      obtain ⟨Y, hY⟩ : ∃ Y, T j % 2 ^ n = Y := ⟨_, rfl⟩
      rw [hY] at LJ CJ
      have HY : Hid (T j % 2 ^ n = Y) := hY
      clear hY
      generalize Nm.of ((T j : Nat) : Int) = nT at *
      obtain ⟨nY, hnY⟩ : ∃ nY, Nm.of ((Y : Nat) : Int) = nY := ⟨_, rfl⟩
      rw [hnY] at LJ CJ
      have HNY : Hid (Nm.of ((Y : Nat) : Int) = nY) := hnY
      clear hnY
      go_wp2_with fail
      refine Calls.mono NJ.out ?_
      rintro e w5 ⟨rfl, s5, f5⟩
      have A5 : Hid (Blk w5 w.heap.size (nC x)) := A1.out.fr f5 (by have := KL.out; omega)
      have Z5 : Hid (Blk w5 (w.heap.size + 1) (nC ⟨0, 0, 0, 0⟩)) := Z1.out.fr f5 (by have := KL.out; omega)
      have S5 : Hid (S w5 (j + 1)) := s5
      have F5 : Hid (Fr w k w5) := F1.out.trans f5
      clear s5 f5 A1 Z1 S1 F1 NJ
      go_wp2_with fail
      refine Calls.mono (LJ.out w5) ?_
      rintro e w6 ⟨rfl, hb6⟩
      have A6 : Hid (Blk w6 w.heap.size (nC x)) := A5.out.up hb6 A5.out.lt
      have Z6 : Hid (Blk w6 (w.heap.size + 1) (nC ⟨0, 0, 0, 0⟩)) := Z5.out.up hb6 Z5.out.lt
      have S6 : Hid (S w6 (j + 1)) := UP.out _ _ _ _ S5.out hb6 (Nat.lt_of_lt_of_le KL.out F5.out.size)
      have F6 : Hid (Fr w k w6) := F5.out.then hb6
      clear hb6 A5 Z5 S5 F5 LJ
      have T6 : Hid (∀ C t, C.size = 4 → World.there (w6.alloc (.cells C t)) w6.heap.size 0 4) := fun C t hC => (al1 w6 C t).1.there (by rw [Array.length_toList, hC]; omega)
      go_wp2_with (refine wp_stN rfl (.tmp 9) (.tmp 23) rfl w6.heap.size rfl nY rfl (T6.out _ _ rfl) ?_)
      intro w7 hw7
      obtain ⟨b7, h7⟩ : Blk w7 w6.heap.size (nC nY) ∧ Below w6.heap.size w6 w7 := by
        rw [hw7.out]
        exact alst w6 _ _ _ rfl
      have A7 : Hid (Blk w7 w.heap.size (nC x)) := A6.out.up h7 A6.out.lt
      have Z7 : Hid (Blk w7 (w.heap.size + 1) (nC ⟨0, 0, 0, 0⟩)) := Z6.out.up h7 Z6.out.lt
      have S7 : Hid (S w7 (j + 1)) := UP.out _ _ _ _ S6.out h7 (Nat.lt_of_lt_of_le KL.out F6.out.size)
      have F7 : Hid (Fr w k w7) := F6.out.then h7
      have B7 : Hid (Blk w7 w6.heap.size (nC nY)) := b7
      clear hw7 b7 h7 A6 Z6 S6 F6 T6
      generalize w6.heap.size = h at *
      go_wp2_with (first | refine wp_ldN (by kernel_rfl) (.tmp 9) rfl h rfl nY B7.out ?_ | refine wp_ldN (by kernel_rfl) (.tmp 2) rfl w.heap.size rfl x A7.out ?_)
      refine Calls.mono (CJ.out w7) ?_
      rintro e w8 ⟨rfl, hb8⟩
      have A8 : Hid (Blk w8 w.heap.size (nC x)) := A7.out.up hb8 A7.out.lt
      have Z8 : Hid (Blk w8 (w.heap.size + 1) (nC ⟨0, 0, 0, 0⟩)) := Z7.out.up hb8 Z7.out.lt
      have S8 : Hid (S w8 (j + 1)) := UP.out _ _ _ _ S7.out hb8 (Nat.lt_of_lt_of_le KL.out F7.out.size)
      have F8 : Hid (Fr w k w8) := F7.out.then hb8
      have B8 : Hid (Blk w8 h (nC nY)) := B7.out.up hb8 B7.out.lt
      clear hb8 A7 Z7 S7 F7 B7 CJ
      by_cases hlt : Y < M
      · have cm : cmpN Y M = -1 := by unfold cmpN; rw [if_pos hlt]
        rw [cm]
        have HL : Hid (Y < M) := hlt
        clear cm hlt
        have TZ : Hid (w8.there (w.heap.size + 1) 0 4) := Z8.out.there (by simp [nC])
        go_wp2_with (first | refine wp_ldN (by kernel_rfl) (.tmp 9) rfl h rfl nY B8.out ?_ | refine wp_stN rfl (.tmp 4) (.tmp 28) rfl (w.heap.size + 1) rfl nY rfl TZ.out ?_)
        intro w9 hw9
        go_wp2_with fail
        refine bodyPost_ret (v := .tuple #[N nY, .int .i64 0]) ?_ rfl ?_
        · rw [hw9.out]
          exact results_cell2 (b := w.heap.size + 1) (cs := nC nY) rfl rfl rfl (Z8.out.num _).all u_num rfl info_num
        · refine ⟨j, .inl ⟨J1.out, by rw [HY.out, HNY.out], by rw [HY.out]; exact HL.out, UQ.out _ _ _ S8.out ?_⟩, no.out, ?_⟩
          · rw [hw9.out]
            exact heap_setCells_off _ _ (by have := KL.out; omega) _ _ _
          · rw [hw9.out]
            exact F8.out.put _ _ _ (by omega)
      · have cm : ¬ cmpN Y M < 0 := by unfold cmpN; rw [if_neg hlt]; split <;> decide
        have HL : Hid (¬ Y < M) := hlt
        have wj : IntKind.i64.wrap ((j : Int) + 1) = (j : Int) + 1 := by have := J1.out; rw [IntKind.wrap_i64]; omega
        generalize cmpN Y M = cc at *
        clear hlt
        go_wp2_with fail
        go_roundw
        case rel =>
          refine ⟨j + 1, J1.out, by first | rfl | go_num, fun t ht => ?_, A8, Z8, S8, F8⟩
          rcases Nat.lt_succ_iff_lt_or_eq.1 ht with h | rfl
          · exact no.out t h
          · rw [HY.out]; exact HL.out
        case measure =>
          have := J1.out
          simp [intOf]
          omega
    · obtain rfl : j = 100 := by omega
      have TZ : Hid (wr.there (w.heap.size + 1) 0 4) := Z1.out.there (by simp [nC])
      go_wp2_with (refine wp_stN rfl (.tmp 4) (.tmp 30) rfl (w.heap.size + 1) rfl ⟨0, 0, 0, 0⟩ rfl TZ.out ?_)
      intro w6 hw6
      go_wp2_with fail
      refine bodyPost_ret (v := .tuple #[N ⟨0, 0, 0, 0⟩, .int .i64 6]) ?_ rfl ?_
      · rw [hw6.out]
        exact results_cell2 (b := w.heap.size + 1) (cs := nC ⟨0, 0, 0, 0⟩) rfl rfl rfl (Z1.out.num _).all u_num rfl info_num
      · refine ⟨100, .inr ⟨rfl, rfl, UQ.out _ _ _ S1.out ?_⟩, no.out, ?_⟩
        · rw [hw6.out]
          exact heap_setCells_off _ _ (by have := KL.out; omega) _ _ _
        · rw [hw6.out]
          exact F1.out.put _ _ _ (by omega)
end Go.Proofs.YtdcpicbkemmakaaDoor

/- The contract of draw.Source.Below: what a source must keep where numbers are drawn below one. -/
namespace Go.Proofs.YtdcpicbkemmakaaDoor
open Go.RowKit
set_option linter.unusedSimpArgs false
/-- What Below ends with. -/
def BePost (seed : List Nat) (F : Nat → Prop) (p n M k : Nat) (w : World) (e : Ending) (w' : World) : Prop :=
  e = .returned (match belS seed p n M with | some t => .tuple #[N (Nm.of ((tryS seed p n t : Nat) : Int)), .int .i64 0] | none => .tuple #[N ⟨0, 0, 0, 0⟩, .int .i64 6]) ∧ Src w' k F seed ((p + (match belS seed p n M with | some t => 32 * (t + 1) | none => 3200)) % 18446744073709551616) ∧ Fr w k w'
theorem BePost.of {seed : List Nat} {F : Nat → Prop} {p n M k : Nat} {w w' : World} {e : Ending} {T : Nat → Nat} (hT : ∀ j, tryS seed p n j = T j % 2 ^ n) (h : FBPost T (fun W j => Src W k F seed ((p + 32 * j) % 18446744073709551616)) M n k w e w') : BePost seed F p n M k w e w' := by
  obtain ⟨t, h1, h2, h3⟩ := h
  unfold BePost
  rcases h1 with ⟨a, rfl, c, d⟩ | ⟨rfl, rfl, d⟩
  · have e1 : belS seed p n M = some t := belS_some a (fun j hj => by rw [hT]; exact h2 j hj) (by rw [hT]; exact c)
    rw [e1]
    exact ⟨by simp only [hT], d, h3⟩
  · have e1 : belS seed p n M = none := belS_none (fun j hj => by rw [hT]; exact h2 j hj)
    rw [e1]
    exact ⟨rfl, d, h3⟩
theorem first_fun {seed : List Nat} {F : Nat → Prop} {k p : Nat} (x : Nm) (hx : x.ok) (M n : Nat) (hM : x.nat = M) (h0 : 0 < M) (hn : BL M n) (w : World) (hs : Src w k F seed p) (hK : KTab w) (hk : 0 < k) :
    Calls Tryd.prog 48 #[N x, nextV k] w fun e w' => BePost seed F p n M k w e w' := by
  have hT : ∀ W, Fr w k W → KTab W := fun W hW => hK.up (hW.below (B := 1) (by have := hK.pos; omega) (by omega)) (by omega)
  refine Calls.mono (first_core (fun j => leN (drawS seed ((p + 32 * j) % 18446744073709551616) 32)) (fun W j => Src W k F seed ((p + 32 * j) % 18446744073709551616)) x hx M n hM h0 hn w hs.blk.lt ?_ (fun W W' j h e => h.stay e) (fun W j h hf => ?_) (fun j => ?_)) (fun e w' h => BePost.of (fun j => rfl) h)
  · have e : (p + 32 * 0) % 18446744073709551616 = p := Nat.mod_eq_of_lt hs.small
    rw [e]
    exact hs
  · have e : ((p + 32 * j) % 18446744073709551616 + 32) % 18446744073709551616 = (p + 32 * (j + 1)) % 18446744073709551616 := by omega
    have := snumber_fun W h (hT W hf) hk
    rw [e] at this
    exact this
  · have := leN_lt _ (drawS_low seed ((p + 32 * j) % 18446744073709551616) 32)
    rw [drawS_length] at this
    exact this
theorem ne_zero {x : Nm} {M : Nat} (hM : x.nat = M) (h0 : 0 < M) : Nm.beq x ⟨0, 0, 0, 0⟩ = false := by
  refine Nm.beq_ne fun e => ?_
  subst e
  have : (⟨0, 0, 0, 0⟩ : Nm).nat = 0 := rfl
  omega
set_option maxRecDepth 20000 in
set_option maxHeartbeats 4000000 in
theorem sbelow_fun {seed : List Nat} {F : Nat → Prop} {k p : Nat} (x : Nm) (hx : x.ok) (M n : Nat) (hM : x.nat = M) (h0 : 0 < M) (hn : BL M n) (w : World) (hs : Src w k F seed p) (hK : KTab w) (hk : 0 < k) :
    Calls Tryd.prog 25 #[ptr k, N x] w fun e w' => BePost seed F p n M k w e w' := by
  obtain ⟨x0, x1, x2⟩ := al2 w (nC x).toArray #[Value.int IntKind.u64 0, Value.int IntKind.u64 0, Value.int IntKind.u64 0, Value.int IntKind.u64 0] 24 24
  have X0 : Hid (Blk _ w.heap.size (nC x)) := x0
  have X1 : Hid (Blk _ (w.heap.size + 1) (nC ⟨0, 0, 0, 0⟩)) := x1
  have X2 : Hid (Below w.heap.size w _) := x2
  have FB : Hid _ := first_fun x hx M n hM h0 hn _ (hs.up x2 hs.blk.lt) (hK.up x2 hK.pos) hk
  have QZ : Hid _ := ne_zero hM h0
  have KL : Hid (k < w.heap.size) := hs.blk.lt
  have NX : Hid (N x = .agg (nC x).toArray) := rfl
  have RV : Hid (∀ e W, BePost seed F p n M k ((w.alloc (.cells (nC x).toArray 24)).alloc (.cells #[Value.int IntKind.u64 0, Value.int IntKind.u64 0, Value.int IntKind.u64 0, Value.int IntKind.u64 0] 24)) e W → ∃ R c, e = .returned (.tuple #[N R, .int .i64 c]) ∧ ∀ W', W'.heap[k]? = W.heap[k]? → Fr w k W' → BePost seed F p n M k w e W') := by
    rintro e W ⟨rfl, hS, hF⟩
    have hR : ∃ R c, (match belS seed p n M with | some t => (.tuple #[N (Nm.of ((tryS seed p n t : Nat) : Int)), .int .i64 0] : Value) | none => .tuple #[N ⟨0, 0, 0, 0⟩, .int .i64 6]) = .tuple #[N R, .int .i64 c] := by
      cases belS seed p n M with
      | none => exact ⟨_, _, rfl⟩
      | some t => exact ⟨_, _, rfl⟩
    obtain ⟨R, c, hRc⟩ := hR
    exact ⟨R, c, by rw [hRc], fun W' e hW => ⟨rfl, hS.stay e, hW⟩⟩
  have FR : Hid (∀ e W, BePost seed F p n M k ((w.alloc (.cells (nC x).toArray 24)).alloc (.cells #[Value.int IntKind.u64 0, Value.int IntKind.u64 0, Value.int IntKind.u64 0, Value.int IntKind.u64 0] 24)) e W → Fr _ k W) := fun e W h => h.2.2
  rw [NX.out]
  clear hs hK hk x0 x1 x2 hM hx hn h0
  obtain ⟨PP, hPP⟩ : ∃ PP, PP = BePost seed F p n M k := ⟨_, rfl⟩
  rw [← hPP] at FB RV FR ⊢
  clear hPP
  go_enter Tryd.func25, Tryd.ntmps25
  go_wp2_with (first | refine wp_ldN (by kernel_rfl) (.tmp 3) rfl w.heap.size rfl x X0.out ?_ | refine wp_eqN (by kernel_rfl) (.tmp 6) (.tmp 7) _ rfl x ⟨0, 0, 0, 0⟩ rfl rfl false QZ.out ?_)
  generalize World.alloc (w.alloc _) _ = w1 at *
  refine Calls.mono FB.out ?_
  intro e w2 hP
  obtain ⟨R, c, rfl, hend⟩ := RV.out e w2 hP
  have F2 : Hid (Fr w1 k w2) := FR.out _ _ hP
  have EN : Hid _ := hend
  have Z2 : Hid (Blk w2 (w.heap.size + 1) (nC ⟨0, 0, 0, 0⟩)) := X1.out.fr F2.out (by have := KL.out; omega)
  clear hP hend FB RV FR
  have TZ : Hid (w2.there (w.heap.size + 1) 0 4) := Z2.out.there (by simp [nC])
  go_wp2_with (refine wp_stN rfl (.tmp 4) (.tmp 14) rfl (w.heap.size + 1) rfl R rfl TZ.out ?_)
  intro w3 hw3
  go_wp2_with fail
  refine bodyPost_ret (v := .tuple #[N R, .int .i64 c]) ?_ rfl ?_
  · rw [hw3.out]
    exact results_cell2 (b := w.heap.size + 1) (cs := nC R) rfl rfl rfl (Z2.out.num _).all u_num rfl info_num
  · refine EN.out w3 ?_ ?_
    · rw [hw3.out]
      exact heap_setCells_off _ _ (by have := KL.out; omega) _ _ _
    · rw [hw3.out]
      exact ((Fr.of X2.out).trans F2.out).put _ _ _ (by omega)
end Go.Proofs.YtdcpicbkemmakaaDoor
