/- The contract of sealringref.Check. -/
import Derived.Test.YtmpniingbioggabDoorTPath
namespace Go.Proofs.YtmpniingbioggabDoor
open Go.RowKit
set_option linter.unusedSimpArgs false
attribute [local go_sem] YieldsP execOp
attribute [local simp] MP.eq_p
/-- Digests held against each other. -/
theorem eql_dec (xs ys : List Nat) (hl : xs.length = 32) (hl' : ys.length = 32) (w : World) : (binOp .eql 24 (vB xs) (vB ys)).run Tryd.prog w = .ok (.bool (decide (xs = ys))) w := by
  obtain ⟨i0, hi, _⟩ := info_parts Tryd.iU8
  have hg : ∀ (xs : List Nat), xs.length = 32 → ∀ j, j < 32 → (xs.map b8).toArray[j]? = some (.int .u8 ((xs.getD j 0 : Nat) : Int)) := fun xs hl j hj => by
    have : j < xs.length := by omega
    simp [List.getD_eq_getElem?_getD, this]
  rw [run_eql_ints (P := Tryd.prog) (t := 24) (e := 5) (n := 32) (k := .u8) u_d32 hi Tryd.uU8 plain_u8 cells_u8 (fun j => ((xs.getD j 0 : Nat) : Int)) (fun j => ((ys.getD j 0 : Nat) : Int)) _ _ (hg xs hl) (hg ys hl')]
  congr 2
  by_cases h : xs = ys
  · subst h; simp
  · rw [decide_eq_false h, List.all_eq_false]
    apply Classical.byContradiction
    intro hn
    apply h
    apply List.ext_getElem (by omega)
    intro j h1 h2
    have : ¬ ¬ ((((xs.getD j 0 : Nat) : Int) == ((ys.getD j 0 : Nat) : Int)) = true) := fun hh => hn ⟨j, by simp; omega, hh⟩
    simp [List.getD_eq_getElem?_getD, h1, h2] at this
    omega
/-- A digest read in a walk, also behind a guard. -/
theorem wp_ldD {ops : Array Oper} {rest : List Oper} {o : Oper} {a : Act} {Q : Exit → Act → World → Prop} {w : World} (hgd : Region.wanted o (yielded ops a.tmps) = true) (x : Operand) (ho : o.op = .load 24 x) (k f : Nat) (hx : a.eval x = .pointer (some ⟨k, f, none⟩))
    (xs : List Nat) (hr : w.rangeAt k f (xs.map b8)) (hl : xs.length = 32) (h : wpList Tryd.prog ops Q rest (a.put o.dst (vB xs)) w) : wpList Tryd.prog ops Q (o :: rest) a w := by
  refine wpList_wanted hgd fun K hK => ?_
  exact wp_load_mid 24 x ho k f hx _ _ hr u_d32 rfl (info_d32.trans (congrArg some (by rw [List.length_map, hl]))) (hK _ _ h)
theorem wp_eqG {ops : Array Oper} {rest : List Oper} {o : Oper} {a : Act} {Q : Exit → Act → World → Prop} {w : World} (hgd : Region.wanted o (yielded ops a.tmps) = true) (x y : Operand) (u : TypeId)
    (ho : o.op = .binOp .eql 24 x y u) (xs ys : List Nat) (hl : xs.length = 32) (hl' : ys.length = 32) (hx : a.eval x = vB xs) (hy : a.eval y = vB ys) (h : wpList Tryd.prog ops Q rest (a.put o.dst (.bool (decide (xs = ys)))) w) : wpList Tryd.prog ops Q (o :: rest) a w := by
  refine wpList_wanted hgd fun K hK => ?_
  have e := eql_dec xs ys hl hl' w
  unfold Oper.wp
  simp [execOp, ho, hx, hy, e, eqGuard, Result.andThen]
  exact hK _ _ h
def chkS (root : List Nat) (n i : Nat) (p : List Nat) (path : List (List Nat)) : Bool := match T.chk nodeS n i (leafS p) path with | some (d, []) => decide (d = root) | _ => false
theorem size_d32 (w : World) : (sizeOf 24).run Tryd.prog w = .ok 32 w := by
  cases hq : Tryd.prog.info? 24 with
  | none => have := info_d32; simp [hq] at this
  | some i =>
    have hi : i.size = 32 := by simpa [hq] using info_d32
    simp [sizeOf, typeInfo, hq, hi]
theorem slice_elemD : Tryd.prog.underlying 30 = some (.slice (Tryd.prog.elem 30)) := by kernel_rfl
theorem elem_dss : Tryd.prog.elem 30 = 24 := by kernel_rfl
theorem Ds.cut {w : World} {a : Option Addr} {c n : Nat} {ds : List (List Nat)} (h : Ds w (.slice a ds.length c) ds) (hn : n ≤ ds.length) : Ds w (sliced a n ds.length c 32) (ds.drop n) := by
  obtain ⟨a', c', e, h1, h3⟩ := h
  cases e
  have hl : (ds.drop n).length = ds.length - n := List.length_drop
  refine ⟨if c = n then a else a.map (·.add (n * 32)), c - n, by rw [hl, sliced], by omega, fun hp => ?_⟩
  obtain ⟨b, o, e, hc⟩ := h3 (by omega)
  subst e
  refine ⟨b, o + n * 32, ?_, fun j hj => ?_⟩
  · rw [if_neg (by omega)]
    simp [Addr.add_lit]
  · have := hc (n + j) (by omega)
    rw [show o + n * 32 + j * 32 = o + (n + j) * 32 by omega]
    have e : (ds.drop n).getD j [] = ds.getD (n + j) [] := by simp [List.getD_eq_getElem?_getD]
    rw [e]
    exact this
theorem wp_cutD {ops : Array Oper} {rest : List Oper} {o : Oper} {act : Act} {Q : Exit → Act → World → Prop} {w : World} (hgd : o.guard = none) (x l : Operand)
    (ho : o.op = .slice 30 x (some l) none none) (a : Option Addr) (m c n : Nat) (k : IntKind) (z : Int) (ds : List (List Nat)) (hx : act.eval x = .slice a m c) (hm : m = ds.length) (hl : act.eval l = .int k z) (hz : z = (n : Int)) (hn : n ≤ ds.length) (W0 : World) (hb : Ds W0 (.slice a m c) ds)
    (h : ∀ v', Ds W0 v' (ds.drop n) → wpList Tryd.prog ops Q rest (act.put o.dst v') w) : wpList Tryd.prog ops Q (o :: rest) act w := by
  subst hm hz
  refine wpList_plain hgd fun K hK2 => ?_
  have e : (Instr.sliceAt 30 (.slice a ds.length c) (some (.int k (n : Int))) none none).run Tryd.prog w = .ok (sliced a n ds.length c 32) w := by
    rw [run_sliceAt_slice (h := slice_elemD), run_slice_l (ht := slice_elemD) (h0 := by omega) (h1 := by omega), elem_dss, size_d32]
    simp
  unfold Oper.wp
  simp [execOp, ho, hx, hl, e, Result.andThen]
  exact hK2 _ _ (h _ (hb.cut hn))
end Go.Proofs.YtmpniingbioggabDoor
