/- Texts that were joined: AtFf, RuV, RuC. -/
import Derived.Test.YtepaapiflkkghaaQAtF
import Derived.Test.YtepaapiflkkghaaQRuO
import Derived.Test.YtepaapiflkkghaaQYcToYo
import Derived.Test.YtepaapiflkkghaaQAtOToAtCd
/- sealringref.AttrsFault, of whatever list. -/
namespace Go.Proofs.Ytepaapiflkkghaa
open Go.RowKit
set_option linter.unusedSimpArgs false
set_option maxHeartbeats 1000000 in
theorem attrsFault_large (a : Option Addr) (n c : Nat) (h : 24 < n) (w : World) : Calls Try.prog 41 #[.slice a n c] w fun e w' => e = .returned (.int .i64 2) ∧ Below w.heap.size w w' := by
  have h' : (n : Int) > 24 := by omega
  clear h
  go_enter Try.func41, Try.ntmps41
  go_wp2_with fail
  go_ret
  exact ⟨rfl, Below.refl _ _⟩
set_option maxHeartbeats 1000000 in
theorem attrsFault_nil (a : Option Addr) (c : Nat) (w : World) : Calls Try.prog 41 #[.slice a 0 c] w fun e w' => e = .returned (.int .i64 0) ∧ Below w.heap.size w w' := by
  go_enter Try.func41, Try.ntmps41
  go_wp2_with fail
  refine wp_loop_rounds 1 ?_
  rw [rounds_succ]
  go_wp2_with fail
  go_ret
  exact ⟨rfl, Below.refl _ _⟩
/-- AttrsFault as the document has it. -/
theorem attrsFault_fun (v : Value) (l : List Ar) (w : World) (hv : Ats w v l) : Calls Try.prog 41 #[v] w fun e w' => e = .returned (.int .i64 ((fltA l : Nat) : Int)) ∧ Below w.heap.size w w' := by
  obtain ⟨a, c, rfl⟩ := ats_parts hv
  unfold fltA
  by_cases h24 : 24 < l.length
  · rw [if_pos h24]
    exact attrsFault_large a _ c h24 w
  · rw [if_neg h24]
    by_cases h0 : l.length = 0
    · have el := List.length_eq_zero_iff.1 h0
      subst el
      exact attrsFault_nil a c w
    · obtain ⟨b, o, rfl⟩ := hv.addr (by omega)
      exact attrsFault_walk l l.length rfl (by omega) b o c w hv
end Go.Proofs.Ytepaapiflkkghaa

/- Veiled and Valid of a list, as the document has them. -/
namespace Go.Proofs.Ytepaapiflkkghaa
open Go.RowKit
attribute [local go_sem] World.cell?_alloc_some cell_alloc2 cell_alloc3 cell_alloc4 frozen?_alloc_cells frozen_out
set_option linter.unusedSimpArgs false
set_option maxHeartbeats 4000000 in
theorem veiled_walk (l : List Ar) (v : Value) (s8 s9 s1 : ByteArray) (i8 i9 p8 p9 : Bool) (w : World) (HV : Hid (Ats w v l)) (e8 : (s8.toList == s1.toList) = p8) (e9 : (s9.toList == s1.toList) = p9)
    (F8 : ∀ W, Ats W v l → Calls Try.prog 24 #[v, .int .i64 8] W fun e w' => e = .returned (.tuple #[.string s8, .bool i8]) ∧ Below W.heap.size W w')
    (F9 : ∀ W, Ats W v l → Calls Try.prog 24 #[v, .int .i64 9] W fun e w' => e = .returned (.tuple #[.string s9, .bool i9]) ∧ Below W.heap.size W w')
    (FL : ∀ W, Calls Try.prog 45 #[.bool true] W fun e w' => e = .returned (.string s1) ∧ Below W.heap.size W w') :
    Calls Try.prog 17 #[v] w fun e w' => e = .returned (.bool (p8 || (i9 && !p9))) ∧ Below w.heap.size w w' := by
  have G8 := F8 w HV.out
  clear F8
  go_enter Try.func17, Try.ntmps17
  go_wp2_with fail
  refine G8.mono ?_
  rintro e w1 ⟨rfl, hb⟩
  have b1 : Hid (Below w.heap.size w w1) := hb
  have G9 := F9 w1 (HV.out.up hb (Nat.le_refl _))
  clear hb G8 F9
  go_wp2_with fail
  refine G9.mono ?_
  rintro e w2 ⟨rfl, hb⟩
  have bk : Hid (Below w.heap.size w w2) := b1.out.trans (hb.mono b1.out.size)
  clear hb G9 b1
  cases p8 with
  | true =>
    go_wp2_with fail
    refine (FL _).mono ?_
    rintro e wy ⟨rfl, hb⟩
    have bn : Hid (Below w.heap.size w wy) := bk.out.trans (hb.mono bk.out.size)
    clear hb bk
    have bk := bn
    clear bn
    go_wp2_with fail
    go_ret
    exact ⟨rfl, bk.out⟩
  | false =>
    cases i9 with
    | false =>
      go_wp2_with fail
      refine (FL _).mono ?_
      rintro e wy ⟨rfl, hb⟩
      have bn : Hid (Below w.heap.size w wy) := bk.out.trans (hb.mono bk.out.size)
      clear hb bk
      have bk := bn
      clear bn
      go_wp2_with fail
      go_ret
      exact ⟨rfl, bk.out⟩
    | true =>
      have e9' : (s9.toList != s1.toList) = !p9 := by rw [bne, e9]
      go_wp2_with fail
      refine (FL _).mono ?_
      rintro e wy ⟨rfl, hb⟩
      have bn : Hid (Below w.heap.size w wy) := bk.out.trans (hb.mono bk.out.size)
      clear hb bk
      have bk := bn
      clear bn
      go_wp2_with fail
      refine (FL _).mono ?_
      rintro e wy ⟨rfl, hb⟩
      have bn : Hid (Below w.heap.size w wy) := bk.out.trans (hb.mono bk.out.size)
      clear hb bk
      have bk := bn
      clear bn
      go_wp2_with fail
      go_ret
      first | exact ⟨rfl, bk.out⟩ | (simp; exact bk.out)
/-- Veiled, of any list. -/
theorem veiledR_fun (l : List Ar) (hs : l.length ≤ 4611686018427387904) (lo : ∀ x ∈ l, lowB x.v) (v : Value) (w : World) (hv : Ats w v l) : Calls Try.prog 17 #[v] w fun e w' => e = .returned (.bool (hidA l)) ∧ Below w.heap.size w w' := by
  have low : ∀ k, lowB ((getA l k).getD []) := fun k => by
    cases hg : getA l k with
    | none => exact fun y hy => absurd hy List.not_mem_nil
    | some t =>
      obtain ⟨x, hx, _, rfl⟩ := getA_mem hg
      exact lo x hx
  have one : lowB [1] := fun y hy => by
    obtain rfl := List.mem_singleton.1 hy
    decide
  exact veiled_walk l v _ _ (sOf [1]) _ _ _ _ w hv (sOf_beq (low 8) one) (sOf_beq (low 9) one) (fun W h => firstOf_fun l hs 8 v W h) (fun W h => firstOf_fun l hs 9 v W h) (fun W => flag_fun true W)
set_option maxHeartbeats 4000000 in
theorem validR_walk (l : List Ar) (v : Value) (f : Nat) (F : Crd) (t o r : Bool) (A : List Ar) (w : World) (HV : Hid (Ats w v l)) (hr : Hid (r = (decide (f = 0) && (t && o))))
    (C1 : Calls Try.prog 42 #[v] w fun e w' => e = .returned (.agg (crdC F).toArray) ∧ Below w.heap.size w w')
    (F1 : ∀ W, Ats W v l → Calls Try.prog 41 #[v] W fun e w' => e = .returned (.int .i64 (f : Int)) ∧ Below W.heap.size W w')
    (A1 : ∀ W, Calls Try.prog 19 #[.agg (crdC F).toArray] W fun e w' => (∃ u, e = .returned u ∧ Ats w' u A) ∧ Below W.heap.size W w')
    (S1 : ∀ u W, f = 0 → Ats W v l → Ats W u A → Calls Try.prog 18 #[v, u] W fun e w' => e = .returned (.bool t) ∧ Below W.heap.size W w')
    (O1 : ∀ W, Calls Try.prog 48 #[.agg (crdC F).toArray] W fun e w' => e = .returned (.bool o) ∧ Below W.heap.size W w') :
    Calls Try.prog 15 #[v] w fun e w' => e = .returned (.bool r) ∧ Below w.heap.size w w' := by
  go_enter Try.func15, Try.ntmps15
  go_wp2_with fail
  refine C1.mono ?_
  rintro e w1 ⟨rfl, hb⟩
  have b1 : Hid (Below w.heap.size w (w1.alloc (.cells (crdC fun _ => none).toArray 31))) := hb.alloc hb.size _
  have s1 : Hid (Kn (w1.alloc (.cells (crdC fun _ => none).toArray 31)) [(w1.heap.size, crdC fun _ => none)]) := (Kn.nil w1).al (crdC fun _ => none) 31 rfl
  have TT : Hid ((w1.alloc (.cells (crdC fun _ => none).toArray 31)).there w1.heap.size 0 (crdC F).length) := Kn.there s1.out 0 rfl (by rw [crdC_length, crdC_length])
  have z1 : Hid (w.heap.size ≤ w1.heap.size) := hb.size
  clear hb C1
  go_wp2_with (first | simp only [zero_card] | refine I.wp_store_eq rfl 31 _ _ rfl w1.heap.size 0 (crdC F) rfl rfl TT.out (info_card _) (one_crd _) ?_)
  intro w2 hw2
  have s2 : Hid (Kn w2 [(w1.heap.size, crdC F)]) := by
    rw [hw2.out]
    exact Kn.put s1.out (by rw [crdC_length, crdC_length])
  have b2 : Hid (Below w.heap.size w w2) := by
    rw [hw2.out]
    exact I.below_setCells _ _ _ b1.out z1.out
  have V2 : Hid (Ats w2 v l) := HV.out.up b2.out (Nat.le_refl _)
  have F2 := F1 _ V2.out
  clear hw2 s1 b1 TT z1 F1
  generalize w1.heap.size = h at s2 ⊢
  go_wp2_with fail
  refine F2.mono ?_
  rintro e w3 ⟨rfl, hb⟩
  have bk : Hid (Below w.heap.size w w3) := b2.out.trans (hb.mono b2.out.size)
  have sk : Hid (Kn w3 [(h, crdC F)]) := s2.out.up hb
  have V3 : Hid (Ats w3 v l) := V2.out.up hb (Nat.le_refl _)
  clear hb b2 s2 V2 F2
  by_cases hf : f = 0
  · subst hf
    have S2 := fun u W => S1 u W rfl
    clear S1
    go_wp2_with (first | refine wp_ldW rfl 31 _ rfl h 0 rfl (crdC F) _ (Kn.rng sk.out 0 rfl) u_card rfl (info_card _) ?_ | fail)
    refine (A1 _).mono ?_
    rintro e w4 ⟨⟨u, rfl, hu⟩, hb⟩
    have b4 : Hid (Below w.heap.size w w4) := bk.out.trans (hb.mono bk.out.size)
    have s4 : Hid (Kn w4 [(h, crdC F)]) := sk.out.up hb
    have S4 := S2 u w4 (V3.out.up hb (Nat.le_refl _)) hu
    clear hb bk sk V3 A1 S2 hu
    go_wp2_with fail
    refine S4.mono ?_
    rintro e w5 ⟨rfl, hb⟩
    have bk : Hid (Below w.heap.size w w5) := b4.out.trans (hb.mono b4.out.size)
    have sk : Hid (Kn w5 [(h, crdC F)]) := s4.out.up hb
    clear hb b4 s4 S4
    cases t with
    | false =>
      have e1 : r = false := hr.out
      clear O1
      go_wp2_with fail
      go_ret
      exact ⟨by first | rfl | (rw [e1]; rfl), bk.out⟩
    | true =>
      have e1 : r = o := hr.out
      go_wp2_with (first | refine wp_ldW rfl 31 _ rfl h 0 rfl (crdC F) _ (Kn.rng sk.out 0 rfl) u_card rfl (info_card _) ?_ | fail)
      refine (O1 _).mono ?_
      rintro e w6 ⟨rfl, hb⟩
      have b6 : Hid (Below w.heap.size w w6) := bk.out.trans (hb.mono bk.out.size)
      clear hb bk sk O1
      go_wp2_with fail
      go_ret
      exact ⟨by first | rfl | (rw [e1]; rfl), b6.out⟩
  · have f0 : ((f : Int) == 0) = false := beq_eq_false_iff_ne.2 (by omega)
    have e1 : r = false := by rw [hr.out, decide_eq_false hf]; rfl
    clear hf A1 S1 O1 sk V3 hr
    go_wp2_with fail
    go_ret
    exact ⟨by first | rfl | (rw [e1]; rfl), bk.out⟩
theorem valid_bool {l : List Ar} {t : Bool} (h : t = true ↔ l = risA l) : valA l = (decide (fltA l = 0) && (t && objF (crdF l))) := by
  unfold valA
  by_cases hf : fltA l = 0
  · have : t = upA l := Bool.eq_iff_iff.2 (h.trans (upA_iff ((fltA_zero l).1 hf).2).symm)
    rw [this]
  · rw [decide_eq_false hf]
    rfl
/-- Valid. -/
theorem validR_fun (l : List Ar) (hs : l.length ≤ 4611686018427387904) (lo : ∀ x ∈ l, lowB x.v) (v : Value) (w : World) (hv : Ats w v l) : Calls Try.prog 15 #[v] w fun e w' => e = .returned (.bool (valA l)) ∧ Below w.heap.size w w' := by
  refine validR_walk l v (fltA l) (crdF l) (upA l) (objF (crdF l)) (valA l) (risA l) w hv rfl (cardOf_fun l hs v w hv) (fun W h => attrsFault_fun v l W h) (fun W => attrs_fun l lo W) (fun u W h0 h1 h2 => ?_) (fun W => object_fun _ (crdF_low lo) W)
  refine (sameR_fun l (risA l) hs lo (fun x hx => ?_) v u W h1 h2).mono fun e w' ⟨⟨t, he, ht⟩, hb⟩ => ⟨?_, hb⟩
  · obtain ⟨y, hy, _, e⟩ := getA_mem (risA_mem.1 hx).2
    rw [← e]
    exact lo y hy
  · rw [he, Bool.eq_iff_iff.2 (ht.trans (upA_iff ((fltA_zero l).1 h0).2).symm)]
end Go.Proofs.Ytepaapiflkkghaa

/- A card as a result variable. -/
namespace Go.Proofs.Ytepaapiflkkghaa
open Go.RowKit
set_option linter.unusedSimpArgs false
theorem results_crd {P : Program} {fn : Func} {tmps : Array Value} {s s2 : Tmp} {t : TypeId} {b : Nat} {cs : List Value} {d : TypeDesc} {W : World} {v : Value} (hr : fn.results = #[.cell s t, .tmp s2]) (ht : tmps[s]?.getD undef = .pointer (some ⟨b, 0, none⟩)) (ht2 : tmps[s2]?.getD undef = v) (hc : W.rangeAt b 0 cs)
    (hu : P.underlying t = some d) (hd : d.isRow = true) (hi : (P.info? t).map (·.size) = some cs.length) : (results fn tmps).run P W = .ok (.tuple #[.agg cs.toArray, v]) W := by
  have h1 := run_loadVar_mid (P := P) W b 0 t cs d hc hu hd hi
  simp [results, hr, ht, ht2, asAddr, h1]
theorem crd_zero : Try.prog.built 31 [] = some (crdC fun _ => none).toArray := by kernel_rfl
theorem wp_bldC {ops : Array Oper} {rest : List Oper} {o : Oper} {a : Act} {Q : Exit → Act → World → Prop} {w : World} (hgd : o.guard = none) (ho : o.op = .build 31 #[])
    (h : wpList Try.prog ops Q rest (a.put o.dst (.agg (crdC fun _ => none).toArray)) w) : wpList Try.prog ops Q (o :: rest) a w := by
  refine wpList_plain hgd fun K hK => ?_
  have e : (Instr.build 31 ((#[] : Array (Nat × Operand)).map fun x => (x.fst, a.eval x.snd))).run Try.prog w = .ok (.agg (crdC fun _ => none).toArray) w := run_build w 31 _ _ (by simpa using crd_zero)
  unfold Oper.wp
  simp only [execOp, ho, Sem.run_bind, e, Result.andThen_ok, Sem.run_pure]
  exact hK _ _ h
theorem exec_ldR {o : Oper} {a : Act} {w : World} (ty : TypeId) (x : Operand) (ho : o.op = .load ty x) (b f : Nat) (hx : a.eval x = .pointer (some ⟨b, f, none⟩)) (cs : List Value) (d : TypeDesc) (hc : w.rangeAt b f cs) (hu : Try.prog.underlying ty = some d) (hd : d.isRow = true) (hi : (Try.prog.info? ty).map (·.size) = some cs.length) : (execOp a.eval o).run Try.prog w = .ok (.value (.agg cs.toArray)) w := by
  unfold execOp
  simp only [ho, hx, Instr.loadAt, Instr.sureAddr, Sem.run_bind, Sem.run_pure, Result.andThen_ok, run_loadVar_mid w b f ty cs d hc hu hd hi]
theorem run_mkC {o : Oper} {T : TypeId} {zs : List Value} (ho : o.op = .alloc T) (hz : ∀ w, (zeroValue T).run Try.prog w = .ok (.agg zs.toArray) w) (a : Act) (w : World) : (execOp a.eval o).run Try.prog w = .ok (.value (.pointer (some ⟨w.heap.size, 0, none⟩))) (w.alloc (.cells zs.toArray T)) := by
  unfold execOp
  simp [ho, go_sem, hz]
theorem yields_mkC {o : Oper} {a : Act} {w : World} {B : Nat} {T : TypeId} {zs : List Value} (ho : o.op = .alloc T) (hz : ∀ w, (zeroValue T).run Try.prog w = .ok (.agg zs.toArray) w) (hB : B ≤ w.heap.size) : YieldsP Try.prog o a w (fun v W => ∃ g, v = .pointer (some ⟨g, 0, none⟩) ∧ B ≤ g ∧ W.heap[g]? = some (.cells zs.toArray T)) := by
  unfold YieldsP
  rw [run_mkC ho hz a w]
  exact ⟨⟨_, rfl, hB, heap_alloc_new w _⟩, (Below.refl _ _).alloc (Nat.le_refl _) _⟩
theorem cfCardOf (args : Array Value) (W : World) : (callFunc 42 args).run Try.prog W = .ok (.enter 42 args) W := cf_is (fn := Try.f42) (by kernel_rfl) (by decide) (by kernel_rfl) args W
theorem cfUpon (args : Array Value) (W : World) : (callFunc 46 args).run Try.prog W = .ok (.enter 46 args) W := cf_is (fn := Try.f46) (by kernel_rfl) (by decide) (by kernel_rfl) args W
end Go.Proofs.Ytepaapiflkkghaa
