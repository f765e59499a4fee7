/- Texts that were joined: Yc, Yo, ShR. -/
import Derived.Test.YtdcpicbkemmakaaQUpMToScOf
import Derived.Test.YtdcpicbkemmakaaQNumToQMath
import Derived.Test.YtdcpicbkemmakaaRows
import Derived.Deep.MidRow
import Derived.Test.YtdcpicbkemmakaaQShN
import Derived.Test.YtdcpicbkemmakaaQDNumToSNum
import Derived.Test.YtdcpicbkemmakaaQDRestToDPow
import Derived.Test.YtdcpicbkemmakaaQStoreToKn
/- A call among the operations of a drawn region, its operands told by their values: the frame is not looked at. -/
namespace Go.Proofs.Ytdcpicbkemmakaa
open Go.RowKit
set_option linter.unusedSimpArgs false
theorem cf_is {F : Nat} {fn : Func} (h : Try.prog.funcs[F]? = some fn) (hn : (fn.name == "runtime.NumGoroutine") = false) (hb : fn.body.isNone = false) (args : Array Value) (W : World) : (callFunc F args).run Try.prog W = .ok (.enter F args) W := by
  have hn' : ¬ fn.name = "runtime.NumGoroutine" := by simpa using hn
  have hb' : ¬ fn.body = none := fun h => by rw [h] at hb; cases hb
  simp [callFunc, h, hn', hb']
theorem yields_call0 {o : Oper} {a : Act} {w : World} {φ : Value → World → Prop} {F : Nat} (cf : ∀ (args : Array Value) (W : World), (callFunc F args).run Try.prog W = .ok (.enter F args) W) (tys : Array TypeId) (ho : o.op = .call { callee := .value (.func F), args := #[], argTypes := tys })
    (h : Calls Try.prog F #[] w fun e w' => ∃ u, e = .returned u ∧ φ u w' ∧ Below w.heap.size w w') : YieldsP Try.prog o a w φ := by
  have hF : a.eval (.func F) = .func (.func F) #[] #[] := rfl
  have e : (execOp a.eval o).run Try.prog w = .ok (.enter F #[]) w := by
    generalize a.eval = ev at *
    unfold execOp
    simp [ho, hF, go_sem, cf]
  unfold YieldsP
  rw [e]
  exact h
theorem yields_call1 {o : Oper} {a : Act} {w : World} {φ : Value → World → Prop} {F : Nat} (cf : ∀ (args : Array Value) (W : World), (callFunc F args).run Try.prog W = .ok (.enter F args) W) (x : Operand) (tys : Array TypeId) (ho : o.op = .call { callee := .value (.func F), args := #[x], argTypes := tys }) (v : Value) (hx : a.eval x = v)
    (h : Calls Try.prog F #[v] w fun e w' => ∃ u, e = .returned u ∧ φ u w' ∧ Below w.heap.size w w') : YieldsP Try.prog o a w φ := by
  have hF : a.eval (.func F) = .func (.func F) #[] #[] := rfl
  have e : (execOp a.eval o).run Try.prog w = .ok (.enter F #[v]) w := by
    generalize a.eval = ev at *
    unfold execOp
    simp [ho, hx, hF, go_sem, cf]
  unfold YieldsP
  rw [e]
  exact h
theorem yields_call2 {o : Oper} {a : Act} {w : World} {φ : Value → World → Prop} {F : Nat} (cf : ∀ (args : Array Value) (W : World), (callFunc F args).run Try.prog W = .ok (.enter F args) W) (x y : Operand) (tys : Array TypeId) (ho : o.op = .call { callee := .value (.func F), args := #[x, y], argTypes := tys }) (v u : Value) (hx : a.eval x = v) (hy : a.eval y = u)
    (h : Calls Try.prog F #[v, u] w fun e w' => ∃ u, e = .returned u ∧ φ u w' ∧ Below w.heap.size w w') : YieldsP Try.prog o a w φ := by
  have hF : a.eval (.func F) = .func (.func F) #[] #[] := rfl
  have e : (execOp a.eval o).run Try.prog w = .ok (.enter F #[v, u]) w := by
    generalize a.eval = ev at *
    unfold execOp
    simp [ho, hx, hy, hF, go_sem, cf]
  unfold YieldsP
  rw [e]
  exact h
theorem yields_mv {o : Oper} {a : Act} {w : World} {v : Value} (x : Operand) (ho : o.op = .move x) (hx : a.eval x = v) : YieldsP Try.prog o a w (MP.eq v).p := by
  have e : (execOp a.eval o).run Try.prog w = .ok (.value v) w := by
    generalize a.eval = ev at *
    unfold execOp
    simp [ho, hx, go_sem]
  unfold YieldsP
  rw [e]
  exact ⟨rfl, Below.refl _ _⟩
end Go.Proofs.Ytdcpicbkemmakaa

/- Small operations among those of a drawn region, their operands told by their values: the frame is not looked at. -/
namespace Go.Proofs.Ytdcpicbkemmakaa
open Go.RowKit
set_option linter.unusedSimpArgs false
theorem yields_run {o : Oper} {a : Act} {w : World} {v : Value} (e : (execOp a.eval o).run Try.prog w = .ok (.value v) w) : YieldsP Try.prog o a w (MP.eq v).p := by
  unfold YieldsP
  rw [e]
  exact ⟨rfl, Below.refl _ _⟩
end Go.Proofs.Ytdcpicbkemmakaa

/- Rows of slices of digits; the document's differences modulo the order. -/
namespace Go.Proofs.Ytdcpicbkemmakaa
open Go.RowKit
set_option linter.unusedSimpArgs false
/-- A store over a slice leaves all digits as they are. -/
theorem sl_set_slice {w : World} {v : Value} {xs : List Nat} {k u : Nat} {a : Option Addr} {n c : Nat} (h : Sl w v xs) (hc : w.cell? ⟨k, u, none⟩ = some (.slice a n c)) (z : Value) : Sl (w.setCell ⟨k, u, none⟩ z) v xs := by
  rcases h with h | ⟨b, o, c, e, hl, hcell⟩
  · exact .inl h
  · refine .inr ⟨b, o, c, e, hl, fun j hj => ?_⟩
    have h1 := hcell j hj
    have hne : ¬ (b = k ∧ o + j = u) := fun ⟨e1, e2⟩ => by
      rw [e1, e2, hc] at h1
      simp at h1
    rw [← h1]
    refine World.cell?_setCells_out k [z] u w ⟨b, o + j, none⟩ (fun e1 _ => ?_)
    have e1' : b = k := e1
    show o + j < u ∨ u + 1 ≤ o + j
    have : o + j ≠ u := fun e2 => hne ⟨e1', e2⟩
    omega
/-- Block g is a row of n slices, whose digits tell the numbers T; behind it the other blocks that are known. -/
def Rw2 (w : World) (g n : Nat) (T : Nat → Nat) (L : List (Nat × List Value)) : Prop := ∃ vs : List Value, vs.length = n ∧ Kn w ((g, vs) :: L) ∧ ∀ i v, vs[i]? = some v → Sl w v (P.dg (T i))
theorem Rw2.up {W w1 : World} {g n : Nat} {T : Nat → Nat} {L : List (Nat × List Value)} (h : Rw2 W g n T L) (hb : Below W.heap.size W w1) : Rw2 w1 g n T L := by
  obtain ⟨vs, h1, h2, h3⟩ := h
  exact ⟨vs, h1, h2.up hb, fun i v hv => Sl.up (h3 i v hv) hb⟩
theorem Rw2.congr {w : World} {g n : Nat} {T U : Nat → Nat} {L : List (Nat × List Value)} (h : Rw2 w g n T L) (e : ∀ i, i < n → T i = U i) : Rw2 w g n U L := by
  obtain ⟨vs, h1, h2, h3⟩ := h
  refine ⟨vs, h1, h2, fun i v hv => ?_⟩
  have := (List.getElem?_eq_some_iff.1 hv).1
  rw [← e i (by omega)]
  exact h3 i v hv
theorem Rw2.get {w : World} {g n : Nat} {T : Nat → Nat} {L : List (Nat × List Value)} (h : Rw2 w g n T L) (i : Nat) (hi : i < n) : ∃ v, w.cell? ⟨g, i, none⟩ = some v ∧ Sl w v (P.dg (T i)) := by
  obtain ⟨vs, h1, h2, h3⟩ := h
  have hv : vs[i]? = some vs[i] := List.getElem?_eq_getElem (by omega)
  exact ⟨vs[i], h2.get 0 i rfl hv, h3 i _ hv⟩
theorem Rw2.fz {w : World} {g n : Nat} {T : Nat → Nat} {L : List (Nat × List Value)} (h : Rw2 w g n T L) : ∀ j, w.frozen? ⟨g, j, none⟩ = false := by
  obtain ⟨vs, -, h2, -⟩ := h
  exact h2.fz 0 rfl
theorem Rw2.kn {w : World} {g n : Nat} {T : Nat → Nat} {L : List (Nat × List Value)} (h : Rw2 w g n T L) : Kn w L := by
  obtain ⟨vs, -, h2, -⟩ := h
  exact ⟨(List.nodup_cons.1 h2.nd).2, fun p hp => h2.all p (List.mem_cons_of_mem _ hp)⟩
theorem Rw2.set {w : World} {g n : Nat} {T : Nat → Nat} {L : List (Nat × List Value)} (h : Rw2 w g n T L) (i : Nat) (hi : i < n) {v : Value} {x : Nat} (hv : Sl w v (P.dg x)) : Rw2 (w.setCell ⟨g, i, none⟩ v) g n (fun j => if j = i then x else T j) L := by
  obtain ⟨u, hu, su⟩ := h.get i hi
  obtain ⟨a, c, rfl⟩ := su.parts
  obtain ⟨vs, h1, h2, h3⟩ := h
  refine ⟨vs.set i v, by rw [List.length_set]; exact h1, Kn.set h2 i v (by omega), fun j z hz => ?_⟩
  by_cases e : i = j
  · subst e
    rw [List.getElem?_set_self (by omega)] at hz
    cases hz
    show Sl _ _ (P.dg (if i = i then x else T i))
    rw [if_pos rfl]
    exact sl_set_slice hv hu v
  · rw [List.getElem?_set_ne e] at hz
    show Sl _ _ (P.dg (if j = i then x else T j))
    rw [if_neg (Ne.symm e)]
    exact sl_set_slice (h3 j z hz) hu v
/-- All empty as yet. -/
theorem Rw2.zero {w : World} {g n : Nat} {L : List (Nat × List Value)} (h : Kn w ((g, List.replicate n (Value.slice none 0 0)) :: L)) : Rw2 w g n (fun _ => 0) L :=
  ⟨_, List.length_replicate, h, fun i v hv => by
    have := (List.getElem?_eq_some_iff.1 hv).2
    rw [List.getElem_replicate] at this
    subst this
    exact .inl ⟨rfl, P.dg_zero⟩⟩
/-- What the document's calls on numbers below the order do. -/
theorem o64 {n : Nat} (h : n < Cv.ord) : n < 65536 ^ 64 := Nat.lt_trans h (by decide)
theorem o2 {n : Nat} (h : n < Cv.ord) : n < 2 ^ 256 := Nat.lt_trans h (by decide)
theorem minus_k (X Y : Nat) (hX : X < 65536 ^ 64) (le : Y ≤ X) (u v : Value) (w : World) (su : Sl w u (P.dg X)) (sv : Sl w v (P.dg Y)) :
    Calls Try.prog 21 #[u, v] w fun e w' => (∃ v', e = .returned v' ∧ Sl w' v' (P.dg (X - Y))) ∧ Below w.heap.size w w' := by
  have := dminus_fun u v _ _ (P.dg_Dg X) (P.dg_Dg Y) (Nat.lt_trans (dshort hX) (by decide)) (by rw [P.dv_dg, P.dv_dg]; exact le) w su sv
  rwa [P.dv_dg, P.dv_dg] at this
set_option maxRecDepth 20000 in
set_option maxHeartbeats 1000000 in
theorem modLess_walk (A B O S D R : Nat)
    (PR : Hid (∀ W, Calls Try.prog 11 #[] W fun e w' => (∃ v', e = .returned v' ∧ Sl w' v' (P.dg O)) ∧ Below W.heap.size W w'))
    (PL : Hid (∀ x y W, Sl W x (P.dg A) → Sl W y (P.dg O) → Calls Try.prog 24 #[x, y] W fun e w' => (∃ v', e = .returned v' ∧ Sl w' v' (P.dg S)) ∧ Below W.heap.size W w'))
    (MI : Hid (∀ x y W, Sl W x (P.dg S) → Sl W y (P.dg B) → Calls Try.prog 21 #[x, y] W fun e w' => (∃ v', e = .returned v' ∧ Sl w' v' (P.dg D)) ∧ Below W.heap.size W w'))
    (RE : Hid (∀ x y W, Sl W x (P.dg D) → Sl W y (P.dg O) → Calls Try.prog 22 #[x, y] W fun e w' => (∃ v', e = .returned v' ∧ Sl w' v' (P.dg R)) ∧ Below W.heap.size W w'))
    (u v : Value) (w : World) (su : Sl w u (P.dg A)) (sv : Sl w v (P.dg B)) :
    Calls Try.prog 18 #[u, v] w fun e w' => (∃ v', e = .returned v' ∧ Sl w' v' (P.dg R)) ∧ Below w.heap.size w w' := by
  have SU : Hid (Sl w u (P.dg A)) := su
  have SV : Hid (Sl w v (P.dg B)) := sv
  clear su sv
  go_enter Try.func18, Try.ntmps18
  go_wp2_with fail
  refine (PR.out w).mono ?_
  rintro e w1 ⟨⟨p, rfl, sp⟩, hb⟩
  have SU1 : Hid (Sl w1 u (P.dg A)) := Sl.up (xs := P.dg A) SU.out hb
  have SV1 : Hid (Sl w1 v (P.dg B)) := Sl.up (xs := P.dg B) SV.out hb
  have SP1 : Hid (Sl w1 p (P.dg O)) := sp
  have B1 : Hid (Below w.heap.size w w1) := hb
  clear SU SV sp hb
  go_wp2_with fail
  refine (PL.out _ _ _ SU1.out SP1.out).mono ?_
  rintro e w2 ⟨⟨q, rfl, sq⟩, hb⟩
  have SV2 : Hid (Sl w2 v (P.dg B)) := Sl.up (xs := P.dg B) SV1.out hb
  have SQ2 : Hid (Sl w2 q (P.dg S)) := sq
  have B2 : Hid (Below w.heap.size w w2) := B1.out.trans (hb.mono B1.out.size)
  clear SU1 SV1 SP1 B1 sq hb
  go_wp2_with fail
  refine (MI.out _ _ _ SQ2.out SV2.out).mono ?_
  rintro e w3 ⟨⟨r, rfl, sr⟩, hb⟩
  have SR3 : Hid (Sl w3 r (P.dg D)) := sr
  have B3 : Hid (Below w.heap.size w w3) := B2.out.trans (hb.mono B2.out.size)
  clear SV2 SQ2 B2 sr hb
  go_wp2_with fail
  refine (PR.out w3).mono ?_
  rintro e w4 ⟨⟨p, rfl, sp⟩, hb⟩
  have SR4 : Hid (Sl w4 r (P.dg D)) := Sl.up (xs := P.dg D) SR3.out hb
  have SP4 : Hid (Sl w4 p (P.dg O)) := sp
  have B4 : Hid (Below w.heap.size w w4) := B3.out.trans (hb.mono B3.out.size)
  clear SR3 B3 sp hb
  go_wp2_with fail
  refine (RE.out _ _ _ SR4.out SP4.out).mono ?_
  rintro e w5 ⟨⟨z, rfl, sz⟩, hb⟩
  have SZ5 : Hid (Sl w5 z (P.dg R)) := sz
  have B5 : Hid (Below w.heap.size w w5) := B4.out.trans (hb.mono B4.out.size)
  clear SR4 SP4 B4 sz hb
  go_wp2_with fail
  go_ret
  exact ⟨⟨_, rfl, SZ5.out⟩, B5.out⟩
theorem modLess_fun (A B : Nat) (hA : A < Cv.ord) (hB : B < Cv.ord) (u v : Value) (w : World) (su : Sl w u (P.dg A)) (sv : Sl w v (P.dg B)) :
    Calls Try.prog 18 #[u, v] w fun e w' => (∃ v', e = .returned v' ∧ Sl w' v' (P.dg (So.ml A B))) ∧ Below w.heap.size w w' := by
  have big : A + Cv.ord < 65536 ^ 64 := Nat.lt_of_lt_of_le (Nat.add_lt_add_right hA _) (by decide)
  exact modLess_walk A B Cv.ord (A + Cv.ord) (A + Cv.ord - B) (So.ml A B) prime_fun (fun x y W => plus_n A Cv.ord (o64 hA) (by decide) x y W) (fun x y W => minus_k (A + Cv.ord) B big (by omega) x y W)
    (fun x y W => rest_n (A + Cv.ord - B) Cv.ord (Nat.lt_of_le_of_lt (Nat.sub_le _ _) big) (by decide) (by decide) x y W) u v w su sv
/-- One word's digits. -/
theorem digits_one (x b : Nat) (hx : x < 18446744073709551616) (w : World) (hc : w.cell? ⟨b, 0, none⟩ = some (.int .u64 (x : Int))) :
    Calls Try.prog 19 #[.slice (some ⟨b, 0, none⟩) 1 1] w fun e w' => (∃ v', e = .returned v' ∧ Sl w' v' (P.dg x)) ∧ Below w.heap.size w w' := by
  have := digits_fun b [x] (fun y hy => by rw [List.mem_singleton.1 hy]; exact hx) 1 1 rfl (by decide) w (fun j hj => by
    obtain rfl : j = 0 := by omega
    exact hc)
  rwa [show wv [x] = x by simp [wv]] at this
/-- A slice of one word that was made. -/
def MP.u1 (x : Nat) : MP := ⟨fun v w => ∃ b, v = .slice (some ⟨b, 0, none⟩) 1 1 ∧ w.cell? ⟨b, 0, none⟩ = some (.int .u64 (x : Int)), fun ⟨b, e, h⟩ hb => ⟨b, e, (hb.cell (p := ⟨b, 0, none⟩) (lt_of_cell h)).trans h⟩⟩
end Go.Proofs.Ytdcpicbkemmakaa
