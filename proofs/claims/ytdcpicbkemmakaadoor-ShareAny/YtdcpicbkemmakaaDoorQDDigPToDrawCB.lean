/- Texts that were joined: DDigP, DDig, UpMS, RBel, DrawCB. -/
import Derived.Test.YtdcpicbkemmakaaDoorQNumToDTimes
import Derived.Deep.RegionHeld
import Derived.Test.YtdcpicbkemmakaaDoorQQMathToMulV
import Derived.Test.YtdcpicbkemmakaaDoorQUpMToUpS
import Derived.Test.YtdcpicbkemmakaaDoorQRMarkToDrawC
import Derived.Test.YtdcpicbkemmakaaDoorQKnToDNum
/- The contract of sealringref.Digits: a row of words' digits. -/
namespace Go.Proofs.YtdcpicbkemmakaaDoor
open Go.RowKit
attribute [local go_sem] World.cell?_alloc_some
/-- The number of a row of words. -/
def wv : List Nat → Nat
  | [] => 0
  | x :: xs => x + 18446744073709551616 * wv xs
theorem wv_take_succ (ws : List Nat) (j : Nat) (hj : j < ws.length) : wv (ws.take (j + 1)) = wv (ws.take j) + 65536 ^ (4 * j) * ws.getD j 0 := by
  induction ws generalizing j with
  | nil => simp at hj
  | cons x xs ih =>
    cases j with
    | zero => simp [wv]
    | succ j =>
      rw [List.take_succ_cons, wv, ih j (by simpa using hj), List.take_succ_cons, wv, List.getD_cons_succ, show 4 * (j + 1) = 4 * j + 4 by omega, Nat.pow_add]
      generalize 65536 ^ (4 * j) = B
      grind
set_option maxHeartbeats 2000000 in
/-- The slice lies in a block of ints (or is nil). -/
def Tg (w : World) (v : Value) : Prop := blkP (fun b => ∃ cur fz, w.heap[b]? = some (.cells cur 3 fz)) v
theorem Tg.up {W w1 : World} {v : Value} (h : Tg W v) (hb : Below W.heap.size W w1) : Tg w1 v := by
  cases v with
  | slice a _ _ =>
    cases a with
    | none => exact trivial
    | some a =>
      obtain ⟨cur, fz, hg⟩ := h
      exact ⟨cur, fz, (hb.block a.block (Array.getElem?_eq_some_iff.1 hg).1).trans hg⟩
  | _ => exact trivial
theorem Ow.tg {w : World} {B : Nat} {v : Value} {xs : List Nat} (h : Ow w B v xs) : Tg w v := by
  rcases h.2 with ⟨e, _⟩ | ⟨g, cap, cur, e, hB, hg, _⟩
  · rw [e]; exact trivial
  · rw [e]; exact ⟨cur, _, hg⟩
/-- sealringref.Digits: the digits lie in a block of ints. -/
theorem digits_own (b : Nat) (ws : List Nat) (hw : ∀ x ∈ ws, x < 18446744073709551616) (n cp : Nat) (hn : n = ws.length) (ln : n < 65536) (w : World) (hc : ∀ j, j < n → w.cell? ⟨b, j, none⟩ = some (.int .u64 ((ws.getD j 0 : Nat) : Int))) :
    Calls Tryd.prog 51 #[.slice (some ⟨b, 0, none⟩) n cp] w fun e w' => (∃ v', e = .returned v' ∧ Sl w' v' (P.dg (wv ws)) ∧ Tg w' v') ∧ Below w.heap.size w w' := by
  have HC : Hid _ := hc
  have HN : Hid _ := hn
  have HW : Hid _ := hw
  clear hc hn hw
  go_enter Tryd.func51, Tryd.ntmps51
  go_wp2_with fail
  go_loopw [3, 8] (fun o i wr => ∃ (j : Nat) (os : List Nat), j ≤ n ∧ i = .int .i64 j ∧ os.length = 4 * j ∧ P.Dg os ∧ Hid (P.dv os = wv (ws.take j)) ∧ Hid (Ow wr w.heap.size o os) ∧ Hid (Below w.heap.size w wr)) (fun _ i _ => n - (intOf i).toNat)
  case atStart => exact ⟨0, [], by omega, rfl, rfl, fun x hx => (by cases hx), (by simp [P.dv, wv] : P.dv [] = wv (ws.take 0)), Ow.nil _ _, Below.refl _ _⟩
  case round =>
    obtain ⟨j, os, hj, rfl, hlen, hdg, HV, ho, hb⟩ := hrel
    by_cases h1 : j < n
    · have i1 : (j : Int) < (n : Int) := by omega
      have i0 : (0 : Int) ≤ (j : Int) := by omega
      have hcell : wr.cell? ⟨b, j, none⟩ = some (.int .u64 ((ws.getD j 0 : Nat) : Int)) := (hb.out.cell (p := ⟨b, j, none⟩) (lt_of_cell (HC.out j h1))).trans (HC.out j h1)
      have NX : Hid _ := wv_take_succ ws j (by rw [← HN.out]; exact h1)
      have xl : ws.getD j 0 < 18446744073709551616 := by
        rw [List.getD_eq_getElem?_getD, List.getElem?_eq_getElem (by rw [← HN.out]; exact h1)]
        exact HW.out _ (List.getElem_mem _)
      generalize ws.getD j 0 = x at *
      have x0 : (0 : Int) ≤ (x : Int) := by omega
      have x1 : (x : Int) < 18446744073709551616 := by omega
      go_wp2_with fail
      go_loopw [3, 5, 12] (fun o c i wr' => ∃ (r : Nat) (os' : List Nat), r ≤ 4 ∧ i = .int .i64 r ∧ c = .int .u64 ((x / 65536 ^ r : Nat) : Int) ∧ os'.length = 4 * j + r ∧ P.Dg os' ∧ Hid (P.dv os' = wv (ws.take j) + 65536 ^ (4 * j) * (x % 65536 ^ r)) ∧ Hid (Ow wr' w.heap.size o os') ∧ Hid (Below w.heap.size w wr')) (fun _ _ i _ => 4 - (intOf i).toNat)
      case atStart => exact ⟨0, os, by omega, rfl, by simp, by omega, hdg, (by simp [HV.out, Nat.mod_one] : P.dv os = wv (ws.take j) + 65536 ^ (4 * j) * (x % 65536 ^ 0)), ho, hb⟩
      case round =>
        clear ho hb HV hdg hlen hcell
        obtain ⟨r, os, hr, rfl, rfl, hlen, hdg, HV, ho, hb⟩ := hrel
        by_cases h4 : r < 4
        · have i4 : (r : Int) < 4 := by omega
          have yl : x / 65536 ^ r < 18446744073709551616 := Nat.lt_of_le_of_lt (Nat.div_le_self _ _) xl
          have MS : Hid _ := P.mod_pow_succ' x r
          have DS : Hid (x / 65536 ^ (r + 1) = x / 65536 ^ r / 65536) := by rw [Nat.pow_succ, Nat.div_div_eq_div_mul]; exact (rfl : x / (65536 ^ r * 65536) = _)
          generalize x / 65536 ^ r = y at *
          have y0 : (0 : Int) ≤ (y : Int) := by omega
          have y1 : (y : Int) < 18446744073709551616 := by omega
          have TM : Hid ((y : Int) % 65536 = ((y % 65536 : Nat) : Int)) := (by omega : (y : Int) % 65536 = ((y % 65536 : Nat) : Int))
          go_wp2_with (at_builtin; refine wp_app rfl _ _ rfl w.heap.size _ os (y % 65536) _ wr rfl ho.out ((Below.refl _ _).alloc (Nat.le_refl _) _) ⟨wr.heap.size, 0, none⟩ rfl (by simp) TM.out (by omega) hb.out.size ?_)
          intro v' w3 o3 hb3
          have O3 : Hid _ := o3
          have b3 : Hid (Below w.heap.size w w3) := hb.out.trans hb3
          clear o3 hb3 ho hb
          go_wp2_with fail
          go_roundw
          case rel =>
            refine ⟨r + 1, os ++ [y % 65536], by omega, by go_num, ?_, by simp; omega, hdg.append (P.Dg.one (Nat.mod_lt _ (by decide))), ?_, O3, b3⟩
            · rw [DS.out]; exact congrArg (Value.int .u64) (by omega)
            · show P.dv (os ++ [y % 65536]) = _
              rw [P.dv_append, hlen, P.dv, P.dv, Nat.mul_zero, Nat.add_zero, HV.out, MS.out, Nat.mul_add, Nat.pow_add, Nat.mul_assoc, Nat.add_assoc]
          case measure => simp [intOf]; omega
        · have i4 : ¬ (r : Int) < 4 := by omega
          have r4 : r = 4 := by omega
          subst r4
          have VV : Hid (P.dv os = wv (ws.take (j + 1))) := by
            have h := HV.out
            rw [Nat.mod_eq_of_lt (show x < 65536 ^ 4 by omega)] at h
            show P.dv os = wv (ws.take (j + 1))
            rw [NX.out, h]
          go_wp2_with fail
          go_roundw
          case rel => exact ⟨j + 1, os, by omega, by go_num, by omega, hdg, VV, ho, hb⟩
          case measure => simp [intOf]; omega
    · have i1 : ¬ (j : Int) < (n : Int) := by omega
      have V : Hid (P.dv os = wv ws) := by
        have h := HV.out
        rw [List.take_of_length_le (by have := HN.out; omega)] at h
        exact h
      go_wp2_with fail
      refine (trim_fun3 _ os hdg (by omega) _ (Ow.sl ho.out)).mono ?_
      rintro e w1 ⟨⟨v', rfl, hs, hg⟩, hb1⟩
      have GE : Hid (Tg w1 v') := hg _ ((Ow.tg ho.out).up hb1)
      have b1 : Hid (Below w.heap.size w w1) := hb.out.trans (hb1.mono hb.out.size)
      have HS : Hid _ := hs
      clear hs hb1 hb ho hg
      go_wp2_with fail
      go_ret
      exact ⟨⟨v', rfl, by rw [← V.out]; exact HS.out, GE.out⟩, b1.out⟩
theorem digits_fun (b : Nat) (ws : List Nat) (hw : ∀ x ∈ ws, x < 18446744073709551616) (n cp : Nat) (hn : n = ws.length) (ln : n < 65536) (w : World) (hc : ∀ j, j < n → w.cell? ⟨b, j, none⟩ = some (.int .u64 ((ws.getD j 0 : Nat) : Int))) :
    Calls Tryd.prog 51 #[.slice (some ⟨b, 0, none⟩) n cp] w fun e w' => (∃ v', e = .returned v' ∧ Sl w' v' (P.dg (wv ws))) ∧ Below w.heap.size w w' :=
  (digits_own b ws hw n cp hn ln w hc).mono fun _ _ ⟨⟨v', h1, h2, _⟩, hb⟩ => ⟨⟨v', h1, h2⟩, hb⟩
end Go.Proofs.YtdcpicbkemmakaaDoor

/- The contract of sealringref.OfNum and OfWide. -/
namespace Go.Proofs.YtdcpicbkemmakaaDoor
open Go.RowKit
attribute [local go_sem] World.cell?_alloc_some
theorem toNat_word {x : Int} (h : Word x) : ((x.toNat : Nat) : Int) = x ∧ x.toNat < 18446744073709551616 := ⟨Int.toNat_of_nonneg h.1, by have := h.1; have := h.2; omega⟩
theorem wv_num {x : Nm} (h : x.ok) : wv [x.a.toNat, x.b.toNat, x.c.toNat, x.d.toNat] = x.nat := by
  have h1 := Nm.nat_cast h
  unfold Nm.val at h1
  have a1 := (toNat_word h.a).1; have b1 := (toNat_word h.b).1; have c1 := (toNat_word h.c).1; have d1 := (toNat_word h.d).1
  simp only [wv]
  omega
set_option maxHeartbeats 1000000 in
/-- sealringref.OfNum: the digits lie in a block of ints. -/
theorem ofNum_own (x : Nm) (hx : x.ok) (w : World) :
    Calls Tryd.prog 28 #[N x] w fun e w' => (∃ v', e = .returned v' ∧ Sl w' v' (P.dg x.nat) ∧ Tg w' v') ∧ Below w.heap.size w w' := by
  have D : Hid (∀ (b : Nat) (w : World), (∀ j, j < 4 → w.cell? ⟨b, j, none⟩ = some (.int .u64 (([x.a.toNat, x.b.toNat, x.c.toNat, x.d.toNat].getD j 0 : Nat) : Int))) → Calls Tryd.prog 51 #[.slice (some ⟨b, 0, none⟩) 4 4] w fun e w' => (∃ v', e = .returned v' ∧ Sl w' v' (P.dg x.nat) ∧ Tg w' v') ∧ Below w.heap.size w w') := by
    intro b w h
    rw [← wv_num hx]
    refine digits_own b _ ?_ 4 4 rfl (by decide) w h
    intro y hy
    simp only [List.mem_cons, List.not_mem_nil, or_false] at hy
    rcases hy with rfl | rfl | rfl | rfl
    · exact (toNat_word hx.a).2
    · exact (toNat_word hx.b).2
    · exact (toNat_word hx.c).2
    · exact (toNat_word hx.d).2
  have CE : Hid _ := And.intro (toNat_word hx.a).1 (And.intro (toNat_word hx.b).1 (And.intro (toNat_word hx.c).1 (toNat_word hx.d).1))
  go_enter Tryd.func28, Tryd.ntmps28
  go_wp2_with fail
  refine (D.out _ _ ?_).mono ?_
  · obtain ⟨ea, eb, ec, ed⟩ := CE.out
    intro j hj
    match j, hj with
    | 0, _ => simp [ea]
    | 1, _ => simp [eb]
    | 2, _ => simp [ec]
    | 3, _ => simp [ed]
  rintro e w1 ⟨⟨v', rfl, hs, hg⟩, hb1⟩
  have HS : Hid _ := hs
  have GE : Hid (Tg w1 v') := hg
  have b1 : Hid (Below w.heap.size w w1) := Below.trans (((Below.refl _ _).alloc (by simp) _).alloc (by simp) _) (hb1.mono (by simp <;> omega))
  clear hs hb1 hg
  go_wp2_with fail
  go_ret
  exact ⟨⟨v', rfl, HS.out, GE.out⟩, b1.out⟩
theorem ofNum_fun (x : Nm) (hx : x.ok) (w : World) :
    Calls Tryd.prog 28 #[N x] w fun e w' => (∃ v', e = .returned v' ∧ Sl w' v' (P.dg x.nat)) ∧ Below w.heap.size w w' :=
  (ofNum_own x hx w).mono fun _ _ ⟨⟨v', h1, h2, _⟩, hb⟩ => ⟨⟨v', h1, h2⟩, hb⟩
end Go.Proofs.YtdcpicbkemmakaaDoor

/- The properties of slices of digits, for UpM's law. -/
namespace Go.Proofs.YtdcpicbkemmakaaDoor
open Go.RowKit
def MP.sl (xs : List Nat) : MP := ⟨fun v w => Sl w v xs, fun h hb => Sl.up h hb⟩
def MP.sl2 (xs ys : List Nat) : MP := ⟨fun v w => ∃ x y, v = .tuple #[x, y] ∧ Sl w x xs ∧ Sl w y ys, fun ⟨x, y, e, h1, h2⟩ hb => ⟨x, y, e, Sl.up h1 hb, Sl.up h2 hb⟩⟩
theorem MP.sl_p (xs : List Nat) (v : Value) (w : World) : (MP.sl xs).p v w = Sl w v xs := rfl
theorem MP.sl2_p (xs ys : List Nat) (v : Value) (w : World) : (MP.sl2 xs ys).p v w = ∃ x y, v = .tuple #[x, y] ∧ Sl w x xs ∧ Sl w y ys := rfl
end Go.Proofs.YtdcpicbkemmakaaDoor

/- Numbers that are drawn below one; the contract of sealringref.DrawnBelow. -/
namespace Go.Proofs.YtdcpicbkemmakaaDoor
open Go.RowKit
set_option linter.unusedSimpArgs false
attribute [local go_sem] YieldsP execOp
attribute [local simp] MP.eq_p MP.sl_p MP.sl2_p
/-- A number of bytes, the least first. -/
def leN : List Nat → Nat
  | [] => 0
  | x :: xs => x + 256 * leN xs
theorem leN_lt : ∀ (xs : List Nat), (∀ x ∈ xs, x < 256) → leN xs < 256 ^ xs.length
  | [], _ => by simp [leN]
  | x :: xs, h => by
    have h1 := leN_lt xs (fun y hy => h y (by simp [hy]))
    have h2 := h x (by simp)
    rw [leN, List.length_cons, Nat.pow_succ]
    omega
theorem leN_drop {xs : List Nat} {i : Nat} (h : i < xs.length) : leN (xs.drop i) = leN (xs.drop (i + 1)) * 256 + xs.getD i 0 := by
  rw [List.drop_eq_getElem_cons h, leN, List.getD_eq_getElem?_getD, List.getElem?_eq_getElem h, Option.getD_some]
  omega
/-- So many bits are needed below M. -/
def BL (M n : Nat) : Prop := M ≤ 2 ^ n ∧ ∀ j, j < n → 2 ^ j < M
theorem BL.only {M n k : Nat} (h : BL M n) (h1 : ∀ j, j < k → 2 ^ j < M) (h2 : ¬ 2 ^ k < M) : k = n := by
  rcases Nat.lt_trichotomy k n with g | g | g
  · exact absurd (h.2 k g) h2
  · exact g
  · have := h1 n g
    have := h.1
    omega
theorem BL.le {M n : Nat} (h : BL M n) (hM : M ≤ 2 ^ 256) : n ≤ 256 := by
  apply Classical.byContradiction
  intro hn
  have := h.2 256 (by omega)
  omega
/-- What the bytes of one try are. -/
def tryS (seed : List Nat) (pl n t : Nat) : Nat := leN (drawS seed ((pl + 32 * t) % 18446744073709551616) 32) % 2 ^ n
/-- Which try it is. -/
def belS (seed : List Nat) (pl n M : Nat) : Option Nat := (List.range 100).find? fun t => decide (tryS seed pl n t < M)
theorem belS_some {seed : List Nat} {pl n M t : Nat} (ht : t < 100) (h1 : ∀ j, j < t → ¬ tryS seed pl n j < M) (h2 : tryS seed pl n t < M) : belS seed pl n M = some t := by
  rw [belS, List.find?_range_eq_some]
  refine ⟨by simpa using h2, by simpa using ht, fun j hj => ?_⟩
  simpa using h1 j hj
theorem belS_none {seed : List Nat} {pl n M : Nat} (h1 : ∀ j, j < 100 → ¬ tryS seed pl n j < M) : belS seed pl n M = none := by
  rw [belS, List.find?_eq_none]
  intro j hj
  simpa using h1 j (List.mem_range.1 hj)
def nC (x : Nm) : List Value := [.int .u64 x.a, .int .u64 x.b, .int .u64 x.c, .int .u64 x.d]
theorem info_num : (Tryd.prog.info? 24).map (·.size) = some 4 := by kernel_rfl
theorem u_num : Tryd.prog.underlying 24 = some (.array 4 22) := by kernel_rfl
theorem one_nC (x : Nm) : ∀ v ∈ nC x, v.oneCell' = true := by
  intro v hv
  simp only [nC, List.mem_cons, List.not_mem_nil, or_false] at hv
  rcases hv with rfl | rfl | rfl | rfl <;> rfl
theorem results_cell3 {P : Program} {fn : Func} {tmps : Array Value} {s s2 s3 : Tmp} {t : TypeId} {b : Nat} {cs : List Value} {d : TypeDesc} {W : World} {v v3 : Value} (hr : fn.results = #[.cell s t, .tmp s2, .tmp s3]) (ht : tmps[s]?.getD undef = .pointer (some ⟨b, 0, none⟩)) (ht2 : tmps[s2]?.getD undef = v) (ht3 : tmps[s3]?.getD undef = v3) (hc : W.rangeAt b 0 cs)
    (hu : P.underlying t = some d) (hd : d.isRow = true) (hi : (P.info? t).map (·.size) = some cs.length) : (results fn tmps).run P W = .ok (.tuple #[.agg cs.toArray, v, v3]) W := by
  have h1 := run_loadVar_mid (P := P) W b 0 t cs d hc hu hd hi
  simp [results, hr, ht, ht2, ht3, asAddr, h1]
theorem dgs {n : Nat} (h : n < 256 ^ 34) : (P.dg n).length < 1048576 := Nat.lt_of_le_of_lt (P.dg_len 17 (Nat.lt_of_lt_of_le h (by decide))) (by decide)
theorem times_b (Z : Nat) (h : Z < 256 ^ 34) (u v : Value) (w : World) (su : Sl w u (P.dg Z)) (sv : Sl w v [256]) :
    Calls Tryd.prog 33 #[u, v] w fun e w' => (∃ v', e = .returned v' ∧ Sl w' v' (P.dg (Z * 256))) ∧ Below w.heap.size w w' := by
  have := dtimes_fun u v _ _ (P.dg_Dg Z) (P.Dg.one (show 256 < 65536 by decide)) (Nat.lt_trans (dgs h) (by decide)) (by decide) w su sv
  rwa [P.dv_dg, show P.dv [256] = 256 from rfl] at this
theorem plus_b (Z x : Nat) (h : Z < 256 ^ 34) (hx : x < 256) (u v : Value) (w : World) (su : Sl w u (P.dg Z)) (sv : Sl w v [x]) :
    Calls Tryd.prog 32 #[u, v] w fun e w' => (∃ v', e = .returned v' ∧ Sl w' v' (P.dg (Z + x))) ∧ Below w.heap.size w w' := by
  have := dplus_fun u v _ _ (P.dg_Dg Z) (P.Dg.one (show x < 65536 by omega)) (Nat.lt_trans (dgs h) (by decide)) (by simp) w su sv
  rwa [P.dv_dg, show P.dv [x] = x by simp [P.dv]] at this
theorem cmpN_lt {X Y : Nat} : cmpN X Y < 0 ↔ X < Y := by
  unfold cmpN
  split
  · simp [*]
  · split <;> simp <;> omega
/-- What is answered. -/
def belV (seed : List Nat) (pl n : Nat) : Option Nat → Value
  | some t => .tuple #[N (Nm.of ((tryS seed pl n t : Nat) : Int)), .int .i64 (32 * ((t : Int) + 1)), .int .i64 0]
  | none => .tuple #[N ⟨0, 0, 0, 0⟩, .int .i64 3200, .int .i64 6]
theorem dg_ne {M : Nat} (h : 0 < M) : (P.dg M).length ≠ 0 := by
  rw [P.dg_pos (by omega)]
  simp
set_option maxRecDepth 20000 in
set_option maxHeartbeats 4000000 in
theorem rbelow_fun (seed : List Nat) (ls : ∀ x ∈ seed, x < 256) (zs : seed.length ≤ 500000000000000) (pl : Nat) (x : Nm) (hx : x.ok) (M n : Nat) (hM : x.nat = M) (h0 : 0 < M) (h256 : M < 2 ^ 256) (hn : BL M n) (w : World) (hT : RTab w) :
    Calls Tryd.prog 30 #[.string (sOf seed), .int .u64 (pl : Int), N x] w fun e w' => e = .returned (belV seed pl n (belS seed pl n M)) ∧ Below w.heap.size w w' := by
  have DR : Hid (∀ t w, RTab w → Calls Tryd.prog 53 #[.string (sOf seed), .int .u64 (((pl + 32 * t) % 18446744073709551616 : Nat) : Int), .int .i64 32] w fun e w' => e = .returned (.string (sOf (drawS seed ((pl + 32 * t) % 18446744073709551616) 32))) ∧ Below w.heap.size w w') := fun t w hT => rdrawn_fun seed ls zs _ (Nat.mod_lt _ (by decide)) 32 (by decide) w hT
  have TU : Hid (∀ w', Below w.heap.size w w' → RTab w') := fun w' hb => hT.up hb hT.pos
  have HN : Hid (BL M n) := hn
  have n256 := hn.le (Nat.le_of_lt h256)
  have s256 : M < 65536 ^ 64 := Nat.lt_trans h256 (by decide)
  have OF : Hid (∀ w, Calls Tryd.prog 28 #[N x] w fun e w' => (∃ v', e = .returned v' ∧ Sl w' v' (P.dg M)) ∧ Below w.heap.size w w') := fun w => by
    have := ofNum_fun x hx w
    rw [hM] at this
    exact this
  have two : ∀ k, k ≤ 256 → 2 ^ k < 65536 ^ 64 := fun k hk => Nat.lt_of_le_of_lt (Nat.pow_le_pow_right (n := 2) (by decide) hk) (by decide)
  have TW : Hid (∀ k, k ≤ 256 → ∀ w, Calls Tryd.prog 52 #[.int .i64 ((k : Nat) : Int)] w fun e w' => (∃ v', e = .returned v' ∧ Sl w' v' (P.dg (2 ^ k))) ∧ Below w.heap.size w w') := fun k hk w => twoTo_n k (by omega) w
  have OR : Hid (∀ X, X < 65536 ^ 64 → ∀ u v w, Sl w u (P.dg X) → Sl w v (P.dg M) → Calls Tryd.prog 27 #[u, v] w fun e w' => e = .returned (.int .i64 (cmpN X M)) ∧ Below w.heap.size w w') := fun X hX u v w hu hv => order_n X M hX s256 u v w hu hv
  have TWO : Hid (∀ k, k ≤ 256 → 2 ^ k < 65536 ^ 64) := two
  have RS : Hid (∀ X, X < 65536 ^ 64 → ∀ u v w, Sl w u (P.dg X) → Sl w v (P.dg (2 ^ n)) → Calls Tryd.prog 34 #[u, v] w fun e w' => (∃ v', e = .returned v' ∧ Sl w' v' (P.dg (X % 2 ^ n))) ∧ Below w.heap.size w w') := fun X hX u v w hu hv => rest_n X (2 ^ n) hX (Nat.two_pow_pos n) (two n n256) u v w hu hv
  obtain ⟨x0, x1, x2⟩ := al2 w #[Value.int IntKind.u64 x.a, Value.int IntKind.u64 x.b, Value.int IntKind.u64 x.c, Value.int IntKind.u64 x.d] #[Value.int IntKind.u64 0, Value.int IntKind.u64 0, Value.int IntKind.u64 0, Value.int IntKind.u64 0] 24 24
  have X0 : Hid (Blk _ _ (nC x)) := x0
  have X1 : Hid (Blk _ _ (nC ⟨0, 0, 0, 0⟩)) := x1
  have X2 : Hid (Below _ _ _) := x2
  have IX : Hid _ := info_num.trans (congrArg some (show 4 = (nC x).length by simp [nC]))
  have LM := dg_ne h0
  have H256 : Hid (M < 2 ^ 256) := h256
  have N256 : Hid (n ≤ 256) := n256
  clear hT ls zs x0 x1 x2 hx hM hn s256 two n256 h256
  generalize hus : sOf seed = us at *
  clear hus
  go_enter Tryd.func30, Tryd.ntmps30
  go_wp2_with (refine wpList_load_mid rfl 24 (.tmp 5) rfl w.heap.size 0 rfl (nC x) _ X0.out.all u_num rfl IX.out ?_)
  generalize (w.alloc (Obj.cells #[Value.int IntKind.u64 x.a, Value.int IntKind.u64 x.b, Value.int IntKind.u64 x.c, Value.int IntKind.u64 x.d] 24)).alloc (Obj.cells #[Value.int IntKind.u64 0, Value.int IntKind.u64 0, Value.int IntKind.u64 0, Value.int IntKind.u64 0] 24) = w1 at *
  refine (OF.out w1).mono ?_
  rintro e w2 ⟨⟨v2, rfl, s2⟩, hb2⟩
  obtain ⟨a2, c2, e2⟩ := Sl.parts s2
  subst e2
  have S2 : Hid (Sl w2 (.slice a2 (P.dg M).length c2) (P.dg M)) := s2
  have D2 : Hid (Below w.heap.size w w2) := X2.out.trans (hb2.mono X2.out.size)
  have Y2 : Hid (Blk w2 (w.heap.size + 1) (nC ⟨0, 0, 0, 0⟩)) := X1.out.up hb2 X1.out.lt
  have l0 : ¬ ((P.dg M).length : Int) = 0 := by omega
  clear s2 hb2 X0 X1 X2 OF IX LM
  generalize hlm : (P.dg M).length = lm at *
  clear hlm
  have l0b : ((lm : Int) == 0) = false := by simpa using l0
  go_wp2_with fail
  go_loopw [10] (fun i wr => ∃ k : Nat, k ≤ 256 ∧ i = .int .i64 (k : Int) ∧ Hid (∀ j, j < k → 2 ^ j < M) ∧ Hid (Sl wr (.slice a2 lm c2) (P.dg M)) ∧ Hid (Blk wr (w.heap.size + 1) (nC ⟨0, 0, 0, 0⟩)) ∧ Hid (Below w.heap.size w wr)) (fun i _ => 257 - (intOf i).toNat)
  case atStart => exact ⟨0, by omega, rfl, (fun j hj => absurd hj (Nat.not_lt_zero _)), S2, Y2, D2⟩
  case round =>
    clear S2 Y2 D2
    obtain ⟨k, hk, rfl, lo, sl, y0, hb⟩ := hrel
    go_wp2_with fail
    refine (TW.out k hk wr).mono ?_
    rintro e w3 ⟨⟨v3, rfl, s3⟩, hb3⟩
    have S3 : Hid (Sl w3 v3 (P.dg (2 ^ k))) := s3
    have L3 : Hid (Sl w3 (.slice a2 lm c2) (P.dg M)) := Sl.up (xs := P.dg M) sl.out hb3
    have D3 : Hid (Below w.heap.size w w3) := hb.out.trans (hb3.mono hb.out.size)
    have Y3 : Hid (Blk w3 (w.heap.size + 1) (nC ⟨0, 0, 0, 0⟩)) := y0.out.up hb3 y0.out.lt
    clear s3 hb3 sl hb y0
    go_wp2_with fail
    refine (OR.out _ (TWO.out k hk) _ _ w3 S3.out L3.out).mono ?_
    rintro e w4 ⟨rfl, hb4⟩
    have L4 : Hid (Sl w4 (.slice a2 lm c2) (P.dg M)) := Sl.up (xs := P.dg M) L3.out hb4
    have D4 : Hid (Below w.heap.size w w4) := D3.out.trans (hb4.mono D3.out.size)
    have Y4 : Hid (Blk w4 (w.heap.size + 1) (nC ⟨0, 0, 0, 0⟩)) := Y3.out.up hb4 Y3.out.lt
    clear hb4 S3 L3 D3 Y3
    by_cases hlt : 2 ^ k < M
    · have c0 : cmpN (2 ^ k) M < 0 := cmpN_lt.2 hlt
      have k1 : k < 256 := by
        apply Classical.byContradiction
        intro h
        obtain rfl : k = 256 := by omega
        have := H256.out
        omega
      have LO : Hid (∀ j, j < k + 1 → 2 ^ j < M) := fun j hj => by
        rcases Nat.lt_or_ge j k with h | h
        · exact lo.out j h
        · obtain rfl : j = k := by omega
          exact hlt
      generalize cmpN (2 ^ k) M = cc at *
      clear hlt lo
      go_wp2_with fail
      go_roundw
      case rel => exact ⟨k + 1, by omega, by go_num, LO, L4, Y4, D4⟩
      case measure => simp [intOf]; omega
    · have c0 : ¬ cmpN (2 ^ k) M < 0 := fun h => hlt (cmpN_lt.1 h)
      obtain rfl : k = n := HN.out.only lo.out hlt
      generalize cmpN (2 ^ k) M = cc at *
      clear hlt lo hk
      go_wp2_with fail
      go_loopw [28] (fun i wr => ∃ t : Nat, t ≤ 100 ∧ i = .int .i64 (t : Int) ∧ Hid (∀ j, j < t → ¬ tryS seed pl k j < M) ∧ Hid (Sl wr (.slice a2 lm c2) (P.dg M)) ∧ Hid (Blk wr (w.heap.size + 1) (nC ⟨0, 0, 0, 0⟩)) ∧ Hid (Below w.heap.size w wr)) (fun i _ => 100 - (intOf i).toNat)
      case atStart => exact ⟨0, by omega, rfl, (fun j hj => absurd hj (Nat.not_lt_zero _)), L4, Y4, D4⟩
      case round =>
        clear L4 Y4 D4
        obtain ⟨t, ht, rfl, no, sl, y0, hb⟩ := hrel
        by_cases h100 : t < 100
        · have i1 : (t : Int) < 100 := by omega
          obtain ⟨A, hA⟩ : ∃ A, A = (pl + 32 * t) % 18446744073709551616 := ⟨_, rfl⟩
          have DT : Hid _ := DR.out t wr (TU.out _ hb.out)
          have TR : Hid (tryS seed pl k t = leN (drawS seed A 32) % 2 ^ k) := by rw [hA]; exact rfl
          rw [← hA] at DT
          have wA : IntKind.u64.wrap ((pl : Int) + 32 * (t : Int)) = (A : Int) := by rw [IntKind.wrap_u64]; omega
          have w32 : IntKind.u64.wrap (32 * (t : Int)) = 32 * (t : Int) := by rw [IntKind.wrap_u64]; omega
          have LD : Hid _ := drawS_low seed A 32
          have LL : Hid _ := drawS_length seed A 32
          have HT : Hid (t < 100) := h100
          clear hA h100 ht
          generalize drawS seed A 32 = bs at *
          generalize hss : sOf bs = ss at *
          have SG : Hid (∀ j (h : j < ss.size), (ss[j]'h).toNat = bs.getD j 0) := by
            subst hss
            exact fun j h => sOf_get LD.out j h
          have sz : ss.size = 32 := by rw [← hss, sOf_size, LL.out]
          clear hss
          go_wp2_with fail
          refine Calls.mono DT.out ?_
          rintro e w5 ⟨rfl, hb5⟩
          have L5 : Hid (Sl w5 (.slice a2 lm c2) (P.dg M)) := Sl.up (xs := P.dg M) sl.out hb5
          have D5 : Hid (Below w.heap.size w w5) := hb.out.trans (hb5.mono hb.out.size)
          have Y5 : Hid (Blk w5 (w.heap.size + 1) (nC ⟨0, 0, 0, 0⟩)) := y0.out.up hb5 y0.out.lt
          clear hb5 sl hb y0 DT
          go_wp2_with fail
          go_loopw [13, 14] (fun l i wr => ∃ K : Nat, K ≤ 32 ∧ i = .int .i64 ((K : Int) - 1) ∧ Hid (Sl wr l (P.dg (leN (bs.drop K)))) ∧ Hid (Sl wr (.slice a2 lm c2) (P.dg M)) ∧ Hid (Blk wr (w.heap.size + 1) (nC ⟨0, 0, 0, 0⟩)) ∧ Hid (Below w.heap.size w wr)) (fun _ i _ => (intOf i + 1).toNat)
          case atStart => exact ⟨32, by omega, rfl, .inl ⟨rfl, by rw [List.drop_of_length_le (by rw [LL.out]; exact Nat.le_refl _)]; exact P.dg_zero⟩, L5, Y5, D5⟩
          case round =>
            clear L5 Y5 D5
            obtain ⟨K, hK, rfl, sx, sl, y0, hb⟩ := hrel
            cases K with
            | zero =>
              rw [List.drop_zero] at sx
              have XL : Hid (leN bs < 65536 ^ 64) := Nat.lt_of_lt_of_le (leN_lt bs LD.out) (by rw [LL.out]; decide)
              have XM : Hid (leN bs % 2 ^ k < 2 ^ 256) := Nat.lt_of_lt_of_le (Nat.mod_lt _ (Nat.two_pow_pos k)) (Nat.pow_le_pow_right (by decide) N256.out)
              generalize leN bs = X at *
              clear hK SG
              go_wp2_with fail
              refine (TW.out k N256.out wr).mono ?_
              rintro e w6 ⟨⟨v6, rfl, s6⟩, hb6⟩
              have S6 : Hid (Sl w6 v6 (P.dg (2 ^ k))) := s6
              have Q6 : Hid (Sl w6 u13 (P.dg X)) := Sl.up (xs := P.dg X) sx.out hb6
              have L6 : Hid (Sl w6 (.slice a2 lm c2) (P.dg M)) := Sl.up (xs := P.dg M) sl.out hb6
              have D6 : Hid (Below w.heap.size w w6) := hb.out.trans (hb6.mono hb.out.size)
              have Y6 : Hid (Blk w6 (w.heap.size + 1) (nC ⟨0, 0, 0, 0⟩)) := y0.out.up hb6 y0.out.lt
              clear s6 hb6 sx sl hb y0
              go_wp2_with fail
              refine (RS.out X XL.out _ _ w6 Q6.out S6.out).mono ?_
              rintro e w7 ⟨⟨v7, rfl, s7⟩, hb7⟩
              have S7 : Hid (Sl w7 v7 (P.dg (X % 2 ^ k))) := s7
              have L7 : Hid (Sl w7 (.slice a2 lm c2) (P.dg M)) := Sl.up (xs := P.dg M) L6.out hb7
              have D7 : Hid (Below w.heap.size w w7) := D6.out.trans (hb7.mono D6.out.size)
              have Y7 : Hid (Blk w7 (w.heap.size + 1) (nC ⟨0, 0, 0, 0⟩)) := Y6.out.up hb7 Y6.out.lt
              clear s7 hb7 S6 Q6 L6 D6 Y6 XL
              rw [← TR.out] at S7 XM
              generalize hZ : tryS seed pl k t = Z at *
              have HZ : Hid (tryS seed pl k t = Z) := hZ
              clear hZ TR
              have zs : Z < 65536 ^ 64 := Nat.lt_trans XM.out (by decide)
              have OZ : Hid _ := OR.out Z zs
              clear zs
              go_wp2_with fail
              refine (OZ.out _ _ w7 S7.out L7.out).mono ?_
              rintro e w8 ⟨rfl, hb8⟩
              have S8 : Hid (Sl w8 v7 (P.dg Z)) := Sl.up (xs := P.dg Z) S7.out hb8
              have L8 : Hid (Sl w8 (.slice a2 lm c2) (P.dg M)) := Sl.up (xs := P.dg M) L7.out hb8
              have D8 : Hid (Below w.heap.size w w8) := D7.out.trans (hb8.mono D7.out.size)
              have Y8 : Hid (Blk w8 (w.heap.size + 1) (nC ⟨0, 0, 0, 0⟩)) := Y7.out.up hb8 Y7.out.lt
              clear hb8 S7 L7 D7 Y7 OZ
              by_cases hzm : Z < M
              · have c0 : cmpN Z M < 0 := cmpN_lt.2 hzm
                have BS : Hid (belS seed pl k M = some t) := belS_some HT.out no.out (by rw [HZ.out]; exact hzm)
                have TN : Hid _ := toNum_of Z XM.out v7 w8 S8.out
                have BV : Hid (belV seed pl k (some t) = .tuple #[.agg (nC (Nm.of (Z : Int))).toArray, .int .i64 (32 * ((t : Int) + 1)), .int .i64 0]) := by
                  rw [← HZ.out]
                  exact rfl
                generalize cmpN Z M = cc' at *
                generalize Nm.of (Z : Int) = r at *
                have w1 : IntKind.i64.wrap ((t : Int) + 1) = (t : Int) + 1 := by have := HT.out; rw [IntKind.wrap_i64]; omega
                have w2 : IntKind.i64.wrap (32 * ((t : Int) + 1)) = 32 * ((t : Int) + 1) := by have := HT.out; rw [IntKind.wrap_i64]; omega
                clear hzm no HZ
                go_wp2_with fail
                refine Calls.mono TN.out ?_
                rintro e w9 ⟨rfl, hb9⟩
                have D9 : Hid (Below w.heap.size w w9) := D8.out.trans (hb9.mono D8.out.size)
                have Y9 : Hid (Blk w9 (w.heap.size + 1) (nC ⟨0, 0, 0, 0⟩)) := Y8.out.up hb9 Y8.out.lt
                clear hb9 D8 Y8 TN
                have T9 : Hid (w9.there (w.heap.size + 1) 0 (nC r).length) := Y9.out.there (by simp [nC])
                have I9 : Hid _ := info_num.trans (congrArg some (show 4 = (nC r).length by simp [nC]))
                go_wp2_with (refine wp_store_eq rfl 24 (.tmp 6) (.tmp 60) rfl (w.heap.size + 1) 0 (nC r) rfl rfl T9.out I9.out (one_nC _) ?_)
                intro wz hwz
                go_wp2_with fail
                refine bodyPost_ret (v := .tuple #[.agg (nC r).toArray, .int .i64 (32 * ((t : Int) + 1)), .int .i64 0]) ?_ rfl ⟨by rw [BS.out, BV.out], ?_⟩
                · rw [hwz.out]
                  exact results_cell3 (b := w.heap.size + 1) rfl rfl rfl rfl (World.rangeAt_setCells_same _ _ _ _ T9.out) u_num rfl I9.out
                · rw [hwz.out]
                  exact below_setCells _ _ _ D9.out (by omega)
              · have c0 : ¬ cmpN Z M < 0 := fun h => hzm (cmpN_lt.1 h)
                have NO : Hid (∀ j, j < t + 1 → ¬ tryS seed pl k j < M) := fun j hj => by
                  rcases Nat.lt_or_ge j t with h | h
                  · exact no.out j h
                  · obtain rfl : j = t := by omega
                    rw [HZ.out]
                    exact hzm
                generalize cmpN Z M = cc' at *
                clear hzm no HZ
                go_wp2_with fail
                go_roundw
                case rel =>
                  have := HT.out
                  exact ⟨t + 1, by omega, by go_num, NO, L8, Y8, D8⟩
                case measure =>
                  have := HT.out
                  simp [intOf]
                  omega
            | succ K =>
              have e1 : ((K + 1 : Nat) : Int) - 1 = (K : Int) := by omega
              rw [e1]
              have HD : Hid (leN (bs.drop K) = leN (bs.drop (K + 1)) * 256 + bs.getD K 0) := leN_drop (by rw [LL.out]; omega)
              have ZL : Hid (leN (bs.drop (K + 1)) < 256 ^ 33) := Nat.lt_of_lt_of_le (leN_lt _ (fun x hx => LD.out x (List.mem_of_mem_drop hx))) (Nat.pow_le_pow_right (by decide) (by rw [List.length_drop, LL.out]; omega))
              have i1' : (K : Int) < (ss.size : Int) := by omega
              have y1 : K < ss.size := by omega
              have k0 : (0 : Int) ≤ (K : Int) := by omega
              have ga := SG.out K
              have la : bs.getD K 0 < 256 := by
                have hl : K < bs.length := by rw [LL.out]; omega
                rw [List.getD_eq_getElem?_getD, List.getElem?_eq_getElem hl]
                exact LD.out _ (List.getElem_mem hl)
              generalize leN (bs.drop (K + 1)) = Z at *
              generalize bs.getD K 0 = x at *
              have x0' : (0 : Int) ≤ (x : Int) := by omega
              have x2' : (x : Int) < 256 := by omega
              have TI : Hid _ := times_b Z (Nat.lt_of_lt_of_le ZL.out (by decide))
              have PL : Hid _ := plus_b (Z * 256) x (by rw [show (256 : Nat) ^ 34 = 256 ^ 33 * 256 from rfl]; exact Nat.mul_lt_mul_of_pos_right ZL.out (by decide)) la
              have HK : Hid (K + 1 ≤ 32) := hK
              have wk : IntKind.i64.wrap ((K : Int) - 1) = (K : Int) - 1 := by rw [IntKind.wrap_i64]; omega
              clear hK e1
              go_wp2_with fail
              refine wp_region_monoE [MP.sl (P.dg Z), MP.sl [256], MP.sl (P.dg (Z * 256)), MP.eq (.string ss), MP.eq (.int .i64 (K : Int)), MP.eq (.int .u8 (x : Int)), MP.eq (.int .i64 (x : Int)), MP.sl [x], MP.sl (P.dg (Z * 256 + x)), MP.sl (P.dg (Z * 256 + x))] (by kernel_rfl) (by kernel_rfl) rfl ?_
              apply Exists.intro
              refine ⟨fun vals => ?_, ?_, fun vals4 w4 hb4 hF => ?_⟩
              · simp only [putsV, dstL, List.length_cons, List.length_nil, Nat.zero_add, Nat.reduceAdd, List.getElem?_cons_zero, List.getElem?_cons_succ, Option.bind_some, Act.put, List.setIfInBounds_toArray, List.set_cons_succ, List.set_cons_zero]
                rfl
              · refine ⟨?_, ?_, ?_, ?_, ?_, ?_, ?_, ?_, ?_, ?_, trivial⟩
                · intro vals W hW hw hd
                  try simp [Region.binds] at hd
                  refine ⟨by first | rfl | simp [Region.wanted, yielded, hd], ?_⟩
                  have h9 : vals 9 = u13 := (hw.out 9 (by kernel_rfl)).trans rfl
                  simp [go_sem, h9]
                  exact ⟨Sl.up (xs := P.dg Z) sx.out hW.out, Below.refl _ _⟩
                · intro vals W hW hw hd
                  try simp [Region.binds] at hd
                  refine ⟨by first | rfl | simp [Region.wanted, yielded, hd], ?_⟩
                  simp [go_sem]
                  exact ⟨Sl.one W 256 _ rfl, (Below.refl _ _).alloc (Nat.le_refl _) _⟩
                · intro vals W hW hw hd
                  try simp [Region.binds] at hd
                  refine ⟨by first | rfl | simp [Region.wanted, yielded, hd], ?_⟩
                  simp [go_sem]
                  exact (TI.out _ _ _ (by simp [hd]) (by simp [hd])).mono fun e w' ⟨⟨v', he, hs⟩, hb⟩ => ⟨v', he, hs, hb⟩
                · intro vals W hW hw hd
                  try simp [Region.binds] at hd
                  refine ⟨by first | rfl | simp [Region.wanted, yielded, hd], ?_⟩
                  simp [go_sem, hd]
                  exact Below.refl _ _
                · intro vals W hW hw hd
                  try simp [Region.binds] at hd
                  refine ⟨by first | rfl | simp [Region.wanted, yielded, hd], ?_⟩
                  simp [go_sem, hd]
                  exact Below.refl _ _
                · intro vals W hW hw hd
                  try simp [Region.binds] at hd
                  refine ⟨by first | rfl | simp [Region.wanted, yielded, hd], ?_⟩
                  simp [go_sem, hd, k0, i1', y1, ga]
                  exact Below.refl _ _
                · intro vals W hW hw hd
                  try simp [Region.binds] at hd
                  refine ⟨by first | rfl | simp [Region.wanted, yielded, hd], ?_⟩
                  simp [go_sem, hd]
                  exact ⟨by rw [IntKind.wrap_i64]; omega, Below.refl _ _⟩
                · intro vals W hW hw hd
                  try simp [Region.binds] at hd
                  refine ⟨by first | rfl | simp [Region.wanted, yielded, hd], ?_⟩
                  simp [go_sem, hd]
                  exact ⟨Sl.one W x _ rfl, (Below.refl _ _).alloc (Nat.le_refl _) _⟩
                · intro vals W hW hw hd
                  try simp [Region.binds] at hd
                  refine ⟨by first | rfl | simp [Region.wanted, yielded, hd], ?_⟩
                  simp [go_sem]
                  exact (PL.out _ _ _ (by simp [hd]) (by simp [hd])).mono fun e w' ⟨⟨v', he, hs⟩, hb⟩ => ⟨v', he, hs, hb⟩
                · intro vals W hW hw hd
                  try simp [Region.binds] at hd
                  refine ⟨by first | rfl | simp [Region.wanted, yielded, hd], ?_⟩
                  simp [go_sem]
                  exact ⟨by simp [hd], Below.refl _ _⟩
              obtain ⟨f0, f1, f2, f3, f4, f5, f6, f7, f8, f9, _⟩ := hF
              simp only [MP.eq_p] at f3 f4 f5 f6
              simp only [MP.sl_p] at f9
              have S9 : Hid (Sl w4 (vals4 9) (P.dg (Z * 256 + x))) := f9
              rw [← HD.out] at S9
              have b4 : Hid (Below w.heap.size w w4) := hb.out.trans (hb4.out.mono hb.out.size)
              have l4 : Hid (Sl w4 (.slice a2 lm c2) (P.dg M)) := Sl.up (xs := P.dg M) sl.out hb4.out
              have y4 : Hid (Blk w4 (w.heap.size + 1) (nC ⟨0, 0, 0, 0⟩)) := y0.out.up hb4.out y0.out.lt
              clear f9 hb4 hb TI PL sl sx HD ZL ga y0
              go_wp2_with fail
              go_roundw
              case rel =>
                have := HK.out
                exact ⟨K, by omega, by first | rfl | go_num, S9, l4, y4, b4⟩
              case measure => simp [intOf]
        · obtain rfl : t = 100 := by omega
          have BN : Hid (belS seed pl k M = none) := belS_none no.out
          have T5 : Hid (wr.there (w.heap.size + 1) 0 (nC ⟨0, 0, 0, 0⟩).length) := y0.out.there (by simp [nC])
          have I5 : Hid _ := info_num.trans (congrArg some (show 4 = (nC ⟨0, 0, 0, 0⟩).length by simp [nC]))
          clear no ht h100 sl
          go_wp2_with (refine wp_store_eq rfl 24 (.tmp 6) (.tmp 65) rfl (w.heap.size + 1) 0 (nC ⟨0, 0, 0, 0⟩) rfl rfl T5.out I5.out (one_nC _) ?_)
          intro w5 hw5
          go_wp2_with fail
          refine bodyPost_ret (v := belV seed pl k none) ?_ rfl ⟨by rw [BN.out], ?_⟩
          · rw [hw5.out]
            exact results_cell3 (b := w.heap.size + 1) rfl rfl rfl rfl (World.rangeAt_setCells_same _ _ _ _ T5.out) u_num rfl I5.out
          · rw [hw5.out]
            exact below_setCells _ _ _ hb.out (by omega)
end Go.Proofs.YtdcpicbkemmakaaDoor

/- What is asked of a source where numbers are drawn below one: the contract of draw.Source.Below as a premise. -/
namespace Go.Proofs.YtdcpicbkemmakaaDoor
open Go.RowKit
structure SrcB (Src : World → Nat → (Nat → Prop) → List Nat → Nat → Prop) : Prop where
  below : ∀ {seed : List Nat} {F : Nat → Prop} {k p : Nat} (x : Nm) (_ : x.ok) (M n : Nat) (_ : x.nat = M) (_ : 0 < M) (_ : BL M n) (w : World) (_ : Src w k F seed p) (_ : KTab w) (_ : 0 < k), Calls Tryd.prog 25 #[ptr k, N x] w fun e w' => e = .returned (match belS seed p n M with | some t => .tuple #[N (Nm.of ((tryS seed p n t : Nat) : Int)), .int .i64 0] | none => .tuple #[N ⟨0, 0, 0, 0⟩, .int .i64 6]) ∧ Src w' k F seed ((p + (match belS seed p n M with | some t => 32 * (t + 1) | none => 3200)) % 18446744073709551616) ∧ Fr w k w'
  belowZero : ∀ {seed : List Nat} {F : Nat → Prop} {k p : Nat} (w : World) (_ : Src w k F seed p), Calls Tryd.prog 25 #[ptr k, N ⟨0, 0, 0, 0⟩] w fun e w' => e = .returned (.tuple #[N ⟨0, 0, 0, 0⟩, .int .i64 1]) ∧ Below w.heap.size w w'
end Go.Proofs.YtdcpicbkemmakaaDoor
