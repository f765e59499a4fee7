/- The contract of sealringref.Check. -/
import Derived.Test.YtmpniingbioggaaDoorTPath
namespace Go.Proofs.YtmpniingbioggaaDoor
open Go.RowKit
set_option linter.unusedSimpArgs false
attribute [local go_sem] YieldsP execOp
attribute [local simp] MP.eq_p
/-- Digests held against each other. -/
theorem eql_dec (xs ys : List Nat) (hl : xs.length = 32) (hl' : ys.length = 32) (w : World) : (binOp .eql 24 (vB xs) (vB ys)).run Tryd.prog w = .ok (.bool (decide (xs = ys))) w := by
  obtain ⟨i0, hi, _⟩ := info_parts Tryd.iU8
  have hg : ∀ (xs : List Nat), xs.length = 32 → ∀ j, j < 32 → (xs.map b8).toArray[j]? = some (.int .u8 ((xs.getD j 0 : Nat) : Int)) := fun xs hl j hj => by
    have : j < xs.length := by omega
    simp [List.getD_eq_getElem?_getD, this]
  rw [run_eql_ints (P := Tryd.prog) (t := 24) (e := 5) (n := 32) (k := .u8) u_d32 hi Tryd.uU8 plain_u8 cells_u8 (fun j => ((xs.getD j 0 : Nat) : Int)) (fun j => ((ys.getD j 0 : Nat) : Int)) _ _ (hg xs hl) (hg ys hl')]
  congr 2
  by_cases h : xs = ys
  · subst h; simp
  · rw [decide_eq_false h, List.all_eq_false]
    apply Classical.byContradiction
    intro hn
    apply h
    apply List.ext_getElem (by omega)
    intro j h1 h2
    have : ¬ ¬ ((((xs.getD j 0 : Nat) : Int) == ((ys.getD j 0 : Nat) : Int)) = true) := fun hh => hn ⟨j, by simp; omega, hh⟩
    simp [List.getD_eq_getElem?_getD, h1, h2] at this
    omega
/-- A digest read in a walk, also behind a guard. -/
theorem wp_ldD {ops : Array Oper} {rest : List Oper} {o : Oper} {a : Act} {Q : Exit → Act → World → Prop} {w : World} (hgd : Region.wanted o (yielded ops a.tmps) = true) (x : Operand) (ho : o.op = .load 24 x) (k f : Nat) (hx : a.eval x = .pointer (some ⟨k, f, none⟩))
    (xs : List Nat) (hr : w.rangeAt k f (xs.map b8)) (hl : xs.length = 32) (h : wpList Tryd.prog ops Q rest (a.put o.dst (vB xs)) w) : wpList Tryd.prog ops Q (o :: rest) a w := by
  refine wpList_wanted hgd fun K hK => ?_
  exact wp_load_mid 24 x ho k f hx _ _ hr u_d32 rfl (info_d32.trans (congrArg some (by rw [List.length_map, hl]))) (hK _ _ h)
theorem wp_eqG {ops : Array Oper} {rest : List Oper} {o : Oper} {a : Act} {Q : Exit → Act → World → Prop} {w : World} (hgd : Region.wanted o (yielded ops a.tmps) = true) (x y : Operand) (u : TypeId)
    (ho : o.op = .binOp .eql 24 x y u) (xs ys : List Nat) (hl : xs.length = 32) (hl' : ys.length = 32) (hx : a.eval x = vB xs) (hy : a.eval y = vB ys) (h : wpList Tryd.prog ops Q rest (a.put o.dst (.bool (decide (xs = ys)))) w) : wpList Tryd.prog ops Q (o :: rest) a w := by
  refine wpList_wanted hgd fun K hK => ?_
  have e := eql_dec xs ys hl hl' w
  unfold Oper.wp
  simp [execOp, ho, hx, hy, e, eqGuard, Result.andThen]
  exact hK _ _ h
def chkS (root : List Nat) (n i : Nat) (p : List Nat) (path : List (List Nat)) : Bool := match T.chk nodeS n i (leafS p) path with | some (d, []) => decide (d = root) | _ => false
theorem size_d32 (w : World) : (sizeOf 24).run Tryd.prog w = .ok 32 w := by
  cases hq : Tryd.prog.info? 24 with
  | none => have := info_d32; simp [hq] at this
  | some i =>
    have hi : i.size = 32 := by simpa [hq] using info_d32
    simp [sizeOf, typeInfo, hq, hi]
theorem slice_elemD : Tryd.prog.underlying 25 = some (.slice (Tryd.prog.elem 25)) := by kernel_rfl
theorem elem_dss : Tryd.prog.elem 25 = 24 := by kernel_rfl
theorem Ds.cut {w : World} {a : Option Addr} {c n : Nat} {ds : List (List Nat)} (h : Ds w (.slice a ds.length c) ds) (hn : n ≤ ds.length) : Ds w (sliced a n ds.length c 32) (ds.drop n) := by
  obtain ⟨a', c', e, h1, h3⟩ := h
  cases e
  have hl : (ds.drop n).length = ds.length - n := List.length_drop
  refine ⟨if c = n then a else a.map (·.add (n * 32)), c - n, by rw [hl, sliced], by omega, fun hp => ?_⟩
  obtain ⟨b, o, e, hc⟩ := h3 (by omega)
  subst e
  refine ⟨b, o + n * 32, ?_, fun j hj => ?_⟩
  · rw [if_neg (by omega)]
    simp [Addr.add_lit]
  · have := hc (n + j) (by omega)
    rw [show o + n * 32 + j * 32 = o + (n + j) * 32 by omega]
    have e : (ds.drop n).getD j [] = ds.getD (n + j) [] := by simp [List.getD_eq_getElem?_getD]
    rw [e]
    exact this
theorem wp_cutD {ops : Array Oper} {rest : List Oper} {o : Oper} {act : Act} {Q : Exit → Act → World → Prop} {w : World} (hgd : o.guard = none) (x l : Operand)
    (ho : o.op = .slice 25 x (some l) none none) (a : Option Addr) (m c n : Nat) (k : IntKind) (z : Int) (ds : List (List Nat)) (hx : act.eval x = .slice a m c) (hm : m = ds.length) (hl : act.eval l = .int k z) (hz : z = (n : Int)) (hn : n ≤ ds.length) (W0 : World) (hb : Ds W0 (.slice a m c) ds)
    (h : ∀ v', Ds W0 v' (ds.drop n) → wpList Tryd.prog ops Q rest (act.put o.dst v') w) : wpList Tryd.prog ops Q (o :: rest) act w := by
  subst hm hz
  refine wpList_plain hgd fun K hK2 => ?_
  have e : (Instr.sliceAt 25 (.slice a ds.length c) (some (.int k (n : Int))) none none).run Tryd.prog w = .ok (sliced a n ds.length c 32) w := by
    rw [run_sliceAt_slice (h := slice_elemD), run_slice_l (ht := slice_elemD) (h0 := by omega) (h1 := by omega), elem_dss, size_d32]
    simp
  unfold Oper.wp
  simp [execOp, ho, hx, hl, e, Result.andThen]
  exact hK2 _ _ (h _ (hb.cut hn))
set_option maxHeartbeats 1000000 in
theorem rcheck_bad (root : List Nat) (n i : Int) (h : n < 1 ∨ 65536 < n ∨ i < 0 ∨ n ≤ i) (u v : Value) (w : World) :
    Calls Tryd.prog 19 #[vB root, .int .i64 n, .int .i64 i, u, v] w fun e w' => e = .returned (.bool false) ∧ Below w.heap.size w w' := by
  have X1 : Hid (Below _ _ _) := (al1 w (root.map b8).toArray 24).2
  go_enter Tryd.func19, Tryd.ntmps19
  by_cases h1 : n < 1
  · clear h
    go_wp2_with fail
    go_ret
    exact ⟨rfl, X1.out⟩
  · by_cases h2 : 65536 < n
    · clear h
      go_wp2_with fail
      go_ret
      exact ⟨rfl, X1.out⟩
    · by_cases h3 : i < 0
      · clear h
        go_wp2_with fail
        go_ret
        exact ⟨rfl, X1.out⟩
      · have h4 : n ≤ i := by omega
        clear h
        go_wp2_with fail
        go_ret
        exact ⟨rfl, X1.out⟩
set_option maxRecDepth 20000 in
set_option maxHeartbeats 8000000 in
theorem rcheck_fun (root : List Nat) (lr : root.length = 32) (n i : Nat) (hn : n ≤ 65536) (hi : i < n) (p : List Nat) (lp : ∀ x ∈ p, x < 256) (zp : p.length ≤ 500000000000000) (path : List (List Nat)) (dl : Dlow path) (u v : Value) (w : World) (hu : By w u p) (hv : Ds w v path) (hT : RTab w) :
    Calls Tryd.prog 19 #[vB root, .int .i64 (n : Int), .int .i64 (i : Int), u, v] w fun e w' => e = .returned (.bool (chkS root n i p path)) ∧ Below w.heap.size w w' := by
  have HT : Hid (RTab w) := hT
  have HU : Hid (By w u p) := hu
  have HV : Hid (Ds w v path) := hv
  have RL : Hid _ := rleaf_fun p lp zp
  have LL : Hid _ := leafS_low p
  have CS : Hid (∀ r, r = T.chk nodeS n i (leafS p) path → chkS root n i p path = match r with | some (d, []) => decide (d = root) | _ => false) := fun r hr => by rw [hr]; rfl
  have DL : Hid (Dlow path) := dl
  have LR : Hid (root.length = 32) := lr
  have ID : Hid (∀ xs : List Nat, xs.length = 32 → (Tryd.prog.info? 24).map (·.size) = some (xs.map b8).length) := fun xs h => info_d32.trans (congrArg some (by rw [List.length_map, h]))
  obtain ⟨x0, x1⟩ := al1 w (root.map b8).toArray 24
  have X0 : Hid (Blk _ _ (root.map b8)) := x0
  have X1 : Hid (Below _ _ _) := x1
  have j1 : ¬ (n : Int) < 1 := by omega
  have j2 : ¬ 65536 < (n : Int) := by omega
  have j3 : ¬ (i : Int) < 0 := by omega
  have j4 : ¬ (n : Int) ≤ (i : Int) := by omega
  generalize chkS root n i p path = res at *
  generalize leafS p = lf at *
  clear hT hu hv dl lr lp zp x0 x1
  go_enter Tryd.func19, Tryd.ntmps19
  have BU : Hid (By _ u p) := HU.out.up X1.out (Nat.le_refl _)
  go_wp2_with (refine wp_conv rfl (.tmp 27) rfl _ p rfl BU.out ?_)
  generalize w.alloc (Obj.cells (root.map b8).toArray 24) = w1 at *
  refine (RL.out w1 (HT.out.up X1.out HT.out.pos)).mono ?_
  rintro e w2 ⟨rfl, h2⟩
  have D2 : Hid (Below w.heap.size w w2) := X1.out.trans (h2.mono X1.out.size)
  have Z2 : Hid (Blk w2 w.heap.size (root.map b8)) := X0.out.up h2 X0.out.lt
  clear h2 X0 X1 BU RL HU
  have T1 : Hid (∀ C t, C.size = 32 → World.there (w2.alloc (.cells C t)) w2.heap.size 0 (lf.map b8).length) := fun C t hC => (al1 w2 C t).1.there (by rw [List.length_map, LL.out.1, Array.length_toList, hC]; omega)
  go_wp2_with (refine wp_store_eq rfl 24 (.tmp 11) (.tmp 29) rfl w2.heap.size 0 (lf.map b8) rfl rfl (T1.out _ _ rfl) (ID.out lf LL.out.1) (one_b8 _) ?_)
  intro w3 hw3
  obtain ⟨b3, h3⟩ : Blk w3 w2.heap.size (lf.map b8) ∧ Below w2.heap.size w2 w3 := by
    rw [hw3.out]
    exact alst w2 _ _ _ (by rw [List.length_map, LL.out.1]; rfl)
  have D3 : Hid (Below w.heap.size w w3) := D2.out.trans (h3.mono D2.out.size)
  have Z3 : Hid (Blk w3 w.heap.size (root.map b8)) := Z2.out.up h3 Z2.out.lt
  have K3 : Hid (Blk w3 w2.heap.size (lf.map b8)) := b3
  have P3 : Hid (Ds w3 v path) := HV.out.up D3.out (Nat.le_refl _)
  have kg : w.heap.size < w2.heap.size := by have := Z2.out.lt; omega
  clear hw3 b3 h3 D2 Z2 T1
  generalize w2.heap.size = kd at *
  obtain ⟨target, htg⟩ : ∃ r, r = T.chk nodeS n i lf path := ⟨_, rfl⟩
  have CT : Hid _ := CS.out target htg
  have TG0 : Hid (T.chk nodeS n i lf path = target) := htg.symm
  clear htg CS
  go_wp2_with fail
  go_loopw [1, 2, 4] (fun nx ix s wr => ∃ (m j : Nat) (d : List Nat) (ps : List (List Nat)), j < m ∧ m ≤ 65536 ∧ nx = .int .i64 (m : Int) ∧ ix = .int .i64 (j : Int) ∧ Hid (Ds w s ps) ∧ Hid (Dlow ps) ∧ Hid (d.length = 32 ∧ ∀ x ∈ d, x < 256) ∧ Hid (T.chk nodeS m j d ps = target) ∧ Hid (Blk wr kd (d.map b8)) ∧ Hid (Blk wr w.heap.size (root.map b8)) ∧ Hid (Below w.heap.size w wr)) (fun nx _ _ _ => (intOf nx).toNat)
  case atStart => exact ⟨n, i, lf, path, hi, hn, rfl, rfl, HV, DL, LL, TG0, K3, Z3, D3⟩
  case round =>
    clear HV DL LL TG0 K3 Z3 D3 j1 j2 j3 j4 P3 hi hn
    obtain ⟨m, j, d, ps, hj, hm, rfl, rfl, pd, dp, ld, tg, kb, kr, hb⟩ := hrel
    by_cases h1 : 1 < m
    · have i1 : (1 : Int) < (m : Int) := by omega
      have XB := i64_xor1 j (by omega)
      have X1 := T.xor_one j
      have wq : IntKind.i64.wrap ((j : Int) / 2) = (j : Int) / 2 := by rw [IntKind.wrap_i64]; omega
      have wn : IntKind.i64.wrap ((m : Int) + 1) = (m : Int) + 1 := by rw [IntKind.wrap_i64]; omega
      have wt : ((m : Int) + 1).tdiv 2 = ((m : Int) + 1) / 2 := Int.tdiv_eq_ediv_of_nonneg (by omega)
      have wm : IntKind.i64.wrap (((m : Int) + 1) / 2) = ((m : Int) + 1) / 2 := by rw [IntKind.wrap_i64]; omega
      have HM : Hid (1 < m ∧ m ≤ 65536 ∧ j < m) := ⟨h1, hm, hj⟩
      by_cases hx : j ^^^ 1 < m
      · have i2 : ((j ^^^ 1 : Nat) : Int) < (m : Int) := by omega
        cases ps with
        | nil =>
          obtain ⟨sa, sc, rfl, _, _⟩ := pd.out
          have e0 := tg.out
          rw [T.chk_nil nodeS h1 hj hx] at e0
          rw [← e0] at CT
          have CF : Hid (res = false) := CT.out
          clear X1 e0 CT
          generalize j ^^^ 1 = xx at *
          go_wp2_with fail
          go_ret
          exact ⟨by rw [CF.out]; rfl, hb.out⟩
        | cons x ps =>
          obtain ⟨b, o, c, rfl, hr⟩ := pd.out.cell_at (by simp)
          have RX : Hid (∀ W, Below w.heap.size w W → W.rangeAt b o (x.map b8)) := fun W hW => by
            have := range_up (hr 0 (by simp)) hW (Nat.le_refl _)
            rw [Nat.zero_mul, Nat.add_zero] at this
            exact this
          have RD : Hid (∀ W, Below wr.heap.size wr W → W.rangeAt kd 0 (d.map b8)) := fun W hW => (kb.out.up hW kb.out.lt).all
          have lx := dp.out x (by simp)
          have IX : Hid _ := ID.out x lx.1
          have IY : Hid _ := ID.out d ld.out.1
          have DP : Hid (Dlow ps) := fun y hy => dp.out y (by simp [hy])
          have e0 := tg.out
          rw [T.chk_cons nodeS h1 hj hx] at e0
          have PD : Hid (Ds w (.slice (some ⟨b, o, none⟩) (x :: ps).length c) (x :: ps)) := pd.out
          obtain ⟨q, hq⟩ : ∃ q, q = (x :: ps).length := ⟨_, rfl⟩
          have QL : Hid (q = (x :: ps).length) := hq
          rw [← hq] at PD ⊢
          have q0 : ¬ (q : Int) = 0 := by rw [hq, List.length_cons]; omega
          have q1 : 0 < q := by rw [hq, List.length_cons]; omega
          rcases Nat.mod_two_eq_zero_or_one j with hj2 | hj2
          · have i3 : (j : Int) % 2 = 0 := by omega
            have i3' : (j : Int).tmod 2 = 0 := by rw [Int.tmod_eq_emod_of_nonneg (by omega)]; exact i3
            rw [if_pos hj2] at e0
            have TG : Hid _ := e0
            have ND : Hid _ := rnode_fun d x ld.out.1 lx.1 ld.out.2 lx.2
            have NL : Hid _ := nodeS_low d x
            clear hr lx e0 X1 tg dp pd hq hj2 h1 hm hj hx
            generalize nodeS d x = nn at *
            generalize j ^^^ 1 = xx at *
            go_wp2_with fail
            refine wp_region_monoSE 5 [MP.eq (vB d), MP.eq (.slice (some ⟨b, o, none⟩) q c), MP.eq (.pointer (some ⟨b, o, none⟩)), MP.eq (vB x), MP.eq (vB nn)] (by kernel_rfl) (by kernel_rfl) rfl (by decide) (by kernel_rfl) ?_
            apply Exists.intro
            refine ⟨fun vals => ?_, ?_, fun vals5 w5 hb5 hF hO => ?_⟩
            · simp only [putsV, dstL, List.length_cons, List.length_nil, Nat.zero_add, Nat.reduceAdd, List.getElem?_cons_zero, List.getElem?_cons_succ, Option.bind_some, Act.put, List.setIfInBounds_toArray, List.set_cons_succ, List.set_cons_zero]
              rfl
            · refine ⟨?_, ?_, ?_, ?_, ?_, trivial⟩
              · intro vals W hW hw hd
                try simp [Region.binds] at hd
                refine ⟨by first | rfl | simp [Region.wanted, yielded, hd], ?_⟩
                exact yields_load 24 (.tmp 11) rfl kd 0 rfl (d.map b8) _ (RD.out W hW.out) u_d32 rfl IY.out rfl
              · intro vals W hW hw hd
                try simp [Region.binds] at hd
                refine ⟨by first | rfl | simp [Region.wanted, yielded, hd], ?_⟩
                simp [go_sem, hd]
                exact Below.refl _ _
              · intro vals W hW hw hd
                try simp [Region.binds] at hd
                refine ⟨by first | rfl | simp [Region.wanted, yielded, hd], ?_⟩
                simp [go_sem, hd, q1]
                exact Below.refl _ _
              · intro vals W hW hw hd
                try simp [Region.binds] at hd
                refine ⟨by first | rfl | simp [Region.wanted, yielded, hd], ?_⟩
                exact yields_load 24 (.tmp 44) rfl b o hd (x.map b8) _ (RX.out W (hb.out.trans (hW.out.mono hb.out.size))) u_d32 rfl IX.out rfl
              · intro vals W hW hw hd
                try simp [Region.binds] at hd
                refine ⟨by first | rfl | simp [Region.wanted, yielded, hd], ?_⟩
                simp [go_sem, hd]
                exact (ND.out W (HT.out.up (hb.out.trans (hW.out.mono hb.out.size)) HT.out.pos)).mono fun e w' ⟨he, hb⟩ => ⟨_, he, rfl, hb⟩
            obtain ⟨f0, f1, f2, f3, f4, _⟩ := hF
            simp only [MP.eq_p] at f0 f1 f2 f3 f4
            rw [f0, f1, f2, f3, f4]
            simp only [List.drop_succ_cons, List.drop_zero]
            have K5 : Hid (Blk w5 kd (d.map b8)) := kb.out.up hb5.out kb.out.lt
            have Z5 : Hid (Blk w5 w.heap.size (root.map b8)) := kr.out.up hb5.out kr.out.lt
            have D5 : Hid (Below w.heap.size w w5) := hb.out.trans (hb5.out.mono hb.out.size)
            clear f0 f1 f2 f3 f4 hb5 hO kb kr hb RX RD ND
            have T5 : Hid (w5.there kd 0 (nn.map b8).length) := K5.out.there (by rw [List.length_map, NL.out.1, List.length_map, ld.out.1]; omega)
            go_wp2_with (refine wp_store_eq rfl 24 (.tmp 11) (.tmp 46) rfl kd 0 (nn.map b8) rfl rfl T5.out (ID.out nn NL.out.1) (one_b8 _) ?_)
            intro w6 hw6
            have K6 : Hid (Blk w6 kd (nn.map b8)) := by
              have h0 : Blk w5 kd ([] ++ (d.map b8 ++ [])) := by simpa using K5.out
              have h1 := h0.store (o := 0) (b' := nn.map b8) rfl (by rw [List.length_map, NL.out.1, List.length_map, ld.out.1])
              rw [List.nil_append, List.append_nil] at h1
              rw [hw6.out]
              exact h1
            have Z6 : Hid (Blk w6 w.heap.size (root.map b8)) := by
              rw [hw6.out]
              exact Z5.out.apart (by omega)
            have D6 : Hid (Below w.heap.size w w6) := by
              rw [hw6.out]
              exact below_setCells _ _ _ D5.out (by omega)
            clear hw6 K5 Z5 D5 T5
            go_wp2_with (refine wp_cutD rfl (.tmp 52) (.const (.int .i64 1)) rfl (some ⟨b, o, none⟩) q c 1 .i64 1 (x :: ps) rfl QL.out rfl rfl (by simp) w PD.out ?_)
            intro v7 P7
            have Q7 : Hid (Ds w v7 ps) := P7
            clear P7 PD
            go_wp2_with fail
            go_roundw
            case rel =>
              have hm := HM.out
              exact ⟨(m + 1) / 2, j / 2, nn, ps, by omega, by omega, by first | rfl | (congr 1; omega), by first | rfl | (congr 1; omega), Q7, DP, NL, TG, K6, Z6, D6⟩
            case measure =>
              have hm := HM.out
              simp [intOf]
              omega
          · have i3 : ¬ (j : Int) % 2 = 0 := by omega
            have i3' : ¬ (j : Int).tmod 2 = 0 := by rw [Int.tmod_eq_emod_of_nonneg (by omega)]; exact i3
            rw [if_neg (by omega)] at e0
            have TG : Hid _ := e0
            have ND : Hid _ := rnode_fun x d lx.1 ld.out.1 lx.2 ld.out.2
            have NL : Hid _ := nodeS_low x d
            clear hr lx e0 X1 tg dp pd hq hj2 h1 hm hj hx
            generalize nodeS x d = nn at *
            generalize j ^^^ 1 = xx at *
            go_wp2_with fail
            refine wp_region_monoSE 5 [MP.eq (.slice (some ⟨b, o, none⟩) q c), MP.eq (.pointer (some ⟨b, o, none⟩)), MP.eq (vB x), MP.eq (vB d), MP.eq (vB nn)] (by kernel_rfl) (by kernel_rfl) rfl (by decide) (by kernel_rfl) ?_
            apply Exists.intro
            refine ⟨fun vals => ?_, ?_, fun vals5 w5 hb5 hF hO => ?_⟩
            · simp only [putsV, dstL, List.length_cons, List.length_nil, Nat.zero_add, Nat.reduceAdd, List.getElem?_cons_zero, List.getElem?_cons_succ, Option.bind_some, Act.put, List.setIfInBounds_toArray, List.set_cons_succ, List.set_cons_zero]
              rfl
            · refine ⟨?_, ?_, ?_, ?_, ?_, trivial⟩
              · intro vals W hW hw hd
                try simp [Region.binds] at hd
                refine ⟨by first | rfl | simp [Region.wanted, yielded, hd], ?_⟩
                simp [go_sem, hd]
                exact Below.refl _ _
              · intro vals W hW hw hd
                try simp [Region.binds] at hd
                refine ⟨by first | rfl | simp [Region.wanted, yielded, hd], ?_⟩
                simp [go_sem, hd, q1]
                exact Below.refl _ _
              · intro vals W hW hw hd
                try simp [Region.binds] at hd
                refine ⟨by first | rfl | simp [Region.wanted, yielded, hd], ?_⟩
                exact yields_load 24 (.tmp 48) rfl b o hd (x.map b8) _ (RX.out W (hb.out.trans (hW.out.mono hb.out.size))) u_d32 rfl IX.out rfl
              · intro vals W hW hw hd
                try simp [Region.binds] at hd
                refine ⟨by first | rfl | simp [Region.wanted, yielded, hd], ?_⟩
                exact yields_load 24 (.tmp 11) rfl kd 0 rfl (d.map b8) _ (RD.out W hW.out) u_d32 rfl IY.out rfl
              · intro vals W hW hw hd
                try simp [Region.binds] at hd
                refine ⟨by first | rfl | simp [Region.wanted, yielded, hd], ?_⟩
                simp [go_sem, hd]
                exact (ND.out W (HT.out.up (hb.out.trans (hW.out.mono hb.out.size)) HT.out.pos)).mono fun e w' ⟨he, hb⟩ => ⟨_, he, rfl, hb⟩
            obtain ⟨f0, f1, f2, f3, f4, _⟩ := hF
            simp only [MP.eq_p] at f0 f1 f2 f3 f4
            rw [f0, f1, f2, f3, f4]
            simp only [List.drop_succ_cons, List.drop_zero]
            have K5 : Hid (Blk w5 kd (d.map b8)) := kb.out.up hb5.out kb.out.lt
            have Z5 : Hid (Blk w5 w.heap.size (root.map b8)) := kr.out.up hb5.out kr.out.lt
            have D5 : Hid (Below w.heap.size w w5) := hb.out.trans (hb5.out.mono hb.out.size)
            clear f0 f1 f2 f3 f4 hb5 hO kb kr hb RX RD ND
            have T5 : Hid (w5.there kd 0 (nn.map b8).length) := K5.out.there (by rw [List.length_map, NL.out.1, List.length_map, ld.out.1]; omega)
            go_wp2_with (refine wp_store_eq rfl 24 (.tmp 11) (.tmp 51) rfl kd 0 (nn.map b8) rfl rfl T5.out (ID.out nn NL.out.1) (one_b8 _) ?_)
            intro w6 hw6
            have K6 : Hid (Blk w6 kd (nn.map b8)) := by
              have h0 : Blk w5 kd ([] ++ (d.map b8 ++ [])) := by simpa using K5.out
              have h1 := h0.store (o := 0) (b' := nn.map b8) rfl (by rw [List.length_map, NL.out.1, List.length_map, ld.out.1])
              rw [List.nil_append, List.append_nil] at h1
              rw [hw6.out]
              exact h1
            have Z6 : Hid (Blk w6 w.heap.size (root.map b8)) := by
              rw [hw6.out]
              exact Z5.out.apart (by omega)
            have D6 : Hid (Below w.heap.size w w6) := by
              rw [hw6.out]
              exact below_setCells _ _ _ D5.out (by omega)
            clear hw6 K5 Z5 D5 T5
            go_wp2_with (refine wp_cutD rfl (.tmp 52) (.const (.int .i64 1)) rfl (some ⟨b, o, none⟩) q c 1 .i64 1 (x :: ps) rfl QL.out rfl rfl (by simp) w PD.out ?_)
            intro v7 P7
            have Q7 : Hid (Ds w v7 ps) := P7
            clear P7 PD
            go_wp2_with fail
            go_roundw
            case rel =>
              have hm := HM.out
              exact ⟨(m + 1) / 2, j / 2, nn, ps, by omega, by omega, by first | rfl | (congr 1; omega), by first | rfl | (congr 1; omega), Q7, DP, NL, TG, K6, Z6, D6⟩
            case measure =>
              have hm := HM.out
              simp [intOf]
              omega
      · have i2 : ¬ ((j ^^^ 1 : Nat) : Int) < (m : Int) := by omega
        have e0 := tg.out
        rw [T.chk_no nodeS h1 hj hx] at e0
        have TG : Hid _ := e0
        clear e0 tg X1 h1 hm hj hx
        generalize j ^^^ 1 = xx at *
        go_wp2_with fail
        go_roundw
        case rel =>
          have hm := HM.out
          exact ⟨(m + 1) / 2, j / 2, d, ps, by omega, by omega, by first | rfl | (congr 1; omega), by first | rfl | (congr 1; omega), pd, dp, ld, TG, kb, kr, hb⟩
        case measure =>
          have hm := HM.out
          simp [intOf]
          omega
    · have i1 : ¬ (1 : Int) < (m : Int) := by omega
      obtain rfl : m = 1 := by omega
      obtain rfl : j = 0 := by omega
      have e0 := tg.out
      rw [T.chk_one] at e0
      rw [← e0] at CT
      cases ps with
      | nil =>
        obtain ⟨sa, sc, rfl, _, _⟩ := pd.out
        have CF : Hid (res = decide (d = root)) := CT.out
        clear e0 CT tg
        go_wp2_with (first | (refine wp_ldD rfl (.tmp 11) rfl kd 0 rfl d kb.out.all ld.out.1 ?_) | (refine wp_ldD rfl (.tmp 5) rfl w.heap.size 0 rfl root kr.out.all LR.out ?_) | (refine wp_eqG rfl (.tmp 63) (.tmp 64) _ rfl d root ld.out.1 LR.out rfl rfl ?_))
        go_ret
        exact ⟨by rw [CF.out]; rfl, hb.out⟩
      | cons x ps =>
        obtain ⟨b, o, c, rfl, hr⟩ := pd.out.cell_at (by simp)
        have CF : Hid (res = false) := CT.out
        clear e0 CT tg hr
        obtain ⟨q, hq⟩ : ∃ q, q = (x :: ps).length := ⟨_, rfl⟩
        have q0 : ¬ (q : Int) = 0 := by rw [hq, List.length_cons]; omega
        rw [← hq]
        clear hq
        go_wp2_with fail
        go_ret
        exact ⟨by rw [CF.out]; rfl, hb.out⟩
end Go.Proofs.YtmpniingbioggaaDoor
