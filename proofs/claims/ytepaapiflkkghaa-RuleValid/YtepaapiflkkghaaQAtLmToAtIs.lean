/- Texts that were joined: AtLm, AtCt, AtIs. -/
import Derived.Test.YtepaapiflkkghaaQAtL
import Derived.Test.YtepaapiflkkghaaQAtFt
import Derived.Test.YtepaapiflkkghaaQDerWToAtA
import Derived.Test.YtepaapiflkkghaaQRuGToRuI
import Derived.Test.YtepaapiflkkghaaQAtRs
/- Package attr, as it landed: Match. -/
namespace Go.Proofs.Ytepaapiflkkghaa
open Go.RowKit
attribute [local go_sem] World.cell?_alloc_some cell_alloc2 cell_alloc3 cell_alloc4 frozen?_alloc_cells frozen_out
set_option linter.unusedSimpArgs false
set_option maxHeartbeats 1000000 in
theorem match_nil (v : Value) (a : Option Addr) (c : Nat) (w : World) : Calls Try.prog 31 #[v, .slice a 0 c] w fun e w' => e = .returned (.bool true) ∧ Below w.heap.size w w' := by
  go_enter Try.func31, Try.ntmps31
  go_wp2_with fail
  refine wp_loop_rounds 1 ?_
  rw [rounds_succ]
  go_wp2_with fail
  go_ret
  exact ⟨rfl, Below.refl _ _⟩
set_option maxRecDepth 20000 in
set_option maxHeartbeats 2000000 in
theorem match_walk (l a : List Ar) (v : Value) (n : Nat) (hn : a.length = n) (hl : l.length ≤ 4611686018427387904) (hs : n ≤ 4611686018427387904) (lo : ∀ x ∈ l, lowB x.v) (ao : ∀ x ∈ a, lowB x.v) (b o c : Nat) (w : World) (HV : Hid (Ats w v l)) (HA : Hid (Ats w (.slice (some ⟨b, o, none⟩) n c) a)) :
    Calls Try.prog 31 #[v, .slice (some ⟨b, o, none⟩) n c] w fun e w' => e = .returned (.bool (matA l a)) ∧ Below w.heap.size w w' := by
  have HN : Hid (a.length = n ∧ (n : Int) ≤ 4611686018427387904) := ⟨hn, by omega⟩
  have FO : Hid (∀ k W, Below w.heap.size w W → Calls Try.prog 55 #[v, .int .i64 k] W fun e w' => (∃ u, e = .returned (.tuple #[u, .bool (getA l k).isSome]) ∧ By w' u ((getA l k).getD [])) ∧ Below W.heap.size W w') := fun k W hW => look_fun l hl k v W (HV.out.up hW (Nat.le_refl _))
  have LO : Hid ((∀ x ∈ l, lowB x.v) ∧ ∀ x ∈ a, lowB x.v) := ⟨lo, ao⟩
  clear hn hs hl lo ao
  go_enter Try.func31, Try.ntmps31
  go_wp2_with fail
  go_loopw [11] (fun i wr => ∃ j : Nat, j ≤ n ∧ i = .int .i64 (j : Int) ∧ Hid (∀ (i : Nat) (y : Ar), i < j → a[i]? = some y → getA l y.k = some y.v) ∧ Hid (Below w.heap.size w wr)) (fun i _ => n - (intOf i).toNat)
  case atStart => exact ⟨0, Nat.zero_le _, rfl, fun i y hi => absurd hi (Nat.not_lt_zero _), Below.refl _ _⟩
  case round =>
    obtain ⟨j, hj, rfl, no, bk⟩ := hrel
    by_cases hlt : j < n
    · have i1 : (j : Int) < (n : Int) := by omega
      have i0 : (0 : Int) ≤ (j : Int) := by omega
      have jn : (n : Int) ≤ 4611686018427387904 := HN.out.2
      have HJ : Hid (j < n) := hlt
      obtain ⟨x, hx⟩ : ∃ x, Hid (a[j]? = some x) := ⟨a[j]'(by have := HN.out; omega), List.getElem?_eq_getElem _⟩
      obtain ⟨xa, xc, ex⟩ := (HA.out.up bk.out (Nat.le_refl _)).elem hx.out
      have EX : Hid (AtE wr b (o + j * 2) x xa xc) := ex
      have E1 : Hid (∀ (C : Array Value) t, AtE (wr.alloc (.cells C t)) b (o + j * 2) x xa xc) := fun C t => EX.out.up ((Below.refl _ _).alloc (Nat.le_refl _) _)
      have s2 : Hid (Kn (wr.alloc (.cells #[.int .i64 x.k, .slice xa x.v.length xc] 64)) [(wr.heap.size, [.int .i64 x.k, .slice xa x.v.length xc])]) := (Kn.nil wr).al [.int .i64 x.k, .slice xa x.v.length xc] 64 rfl
      have V2 : Hid (By (wr.alloc (.cells #[.int .i64 x.k, .slice xa x.v.length xc] 64)) (.slice xa x.v.length xc) x.v) := (E1.out _ _).2.2
      have b2 : Hid (Below w.heap.size w (wr.alloc (.cells #[.int .i64 x.k, .slice xa x.v.length xc] 64))) := bk.out.alloc bk.out.size _
      have u0 := Kn.get s2.out 0 0 rfl rfl
      have u1 := Kn.get s2.out 0 1 rfl rfl
      have MX : Hid (x ∈ a) := List.mem_of_getElem? hx.out
      clear hlt hj ex bk
      cases hg : getA l x.k with
      | none =>
        have e1 : matA l a = false := matA_no MX.out (by rw [hg]; exact fun h => by cases h)
        go_wp2_with (first | simp only [zero_attr] | refine wp_ldW rfl 64 _ rfl b (o + j * 2) rfl [.int .i64 x.k, .slice xa x.v.length xc] _ (by first | exact EX.out.rng | exact (E1.out _ _).rng) u_attr rfl (info_attr _ _) ?_)
        clear EX E1
        refine (FO.out x.k _ b2.out).mono ?_
        rintro e w3 ⟨⟨u, rfl, hu⟩, hb⟩
        have b3 : Hid (Below w.heap.size w w3) := b2.out.trans (hb.mono b2.out.size)
        have s3 := s2.out.up hb
        have V3 : Hid (By w3 (.slice xa x.v.length xc) x.v) := V2.out.up hb (Nat.le_refl _)
        have U3 : Hid (By w3 u ((getA l x.k).getD [])) := hu
        have u0 := Kn.get s3 0 0 rfl rfl
        have u1 := Kn.get s3 0 1 rfl rfl
        clear hb hu s2 V2 b2 s3
        rw [hg] at U3 ⊢
        clear U3 V3
        go_wp2_with fail
        go_ret
        first | exact ⟨rfl, b3.out⟩ | (rw [e1]; exact ⟨rfl, b3.out⟩)
      | some t =>
        have lt : Hid (lowB t) := by
          obtain ⟨y, hy, _, e⟩ := getA_mem hg
          show lowB t
          rw [← e]
          exact LO.out.1 y hy
        have HG : Hid _ := hg
        by_cases ht : t = x.v
        · have hq : decide (t = x.v) = true := decide_eq_true ht
          have no' : Hid (∀ (i : Nat) (y : Ar), i < j + 1 → a[i]? = some y → getA l y.k = some y.v) := fun i y hi hy => by
            by_cases e : i = j
            · rw [e, hx.out] at hy
              obtain rfl := Option.some.inj hy
              rw [HG.out, ht]
            · exact no.out i y (by omega) hy
          clear ht no
          go_wp2_with (first | simp only [zero_attr] | refine wp_ldW rfl 64 _ rfl b (o + j * 2) rfl [.int .i64 x.k, .slice xa x.v.length xc] _ (by first | exact EX.out.rng | exact (E1.out _ _).rng) u_attr rfl (info_attr _ _) ?_)
          clear EX E1
          refine (FO.out x.k _ b2.out).mono ?_
          rintro e w3 ⟨⟨u, rfl, hu⟩, hb⟩
          have b3 : Hid (Below w.heap.size w w3) := b2.out.trans (hb.mono b2.out.size)
          have s3 := s2.out.up hb
          have V3 : Hid (By w3 (.slice xa x.v.length xc) x.v) := V2.out.up hb (Nat.le_refl _)
          have U3 : Hid (By w3 u ((getA l x.k).getD [])) := hu
          have u0 := Kn.get s3 0 0 rfl rfl
          have u1 := Kn.get s3 0 1 rfl rfl
          clear hb hu s2 V2 b2 s3
          rw [hg] at U3 ⊢
          rw [Option.getD_some] at U3
          have E3 := equal_fun u _ t x.v lt.out (LO.out.2 x MX.out) w3 U3.out V3.out
          rw [hq] at E3
          clear U3 V3 lt hg
          go_wp2_with fail
          refine E3.mono ?_
          rintro e w4 ⟨rfl, hb⟩
          have b4 : Hid (Below w.heap.size w w4) := b3.out.trans (hb.mono b3.out.size)
          clear hb b3 E3 u0 u1
          go_wp2_with fail
          clear hq
          go_roundw
          case rel => exact ⟨j + 1, HJ.out, by go_num, no', b4⟩
          case measure => simp [intOf]; have := HJ.out; omega
        · have hq : decide (t = x.v) = false := decide_eq_false ht
          have e1 : matA l a = false := matA_no MX.out (by rw [hg]; exact fun h => ht (Option.some.inj h))
          clear ht no
          go_wp2_with (first | simp only [zero_attr] | refine wp_ldW rfl 64 _ rfl b (o + j * 2) rfl [.int .i64 x.k, .slice xa x.v.length xc] _ (by first | exact EX.out.rng | exact (E1.out _ _).rng) u_attr rfl (info_attr _ _) ?_)
          clear EX E1
          refine (FO.out x.k _ b2.out).mono ?_
          rintro e w3 ⟨⟨u, rfl, hu⟩, hb⟩
          have b3 : Hid (Below w.heap.size w w3) := b2.out.trans (hb.mono b2.out.size)
          have s3 := s2.out.up hb
          have V3 : Hid (By w3 (.slice xa x.v.length xc) x.v) := V2.out.up hb (Nat.le_refl _)
          have U3 : Hid (By w3 u ((getA l x.k).getD [])) := hu
          have u0 := Kn.get s3 0 0 rfl rfl
          have u1 := Kn.get s3 0 1 rfl rfl
          clear hb hu s2 V2 b2 s3
          rw [hg] at U3 ⊢
          rw [Option.getD_some] at U3
          have E3 := equal_fun u _ t x.v lt.out (LO.out.2 x MX.out) w3 U3.out V3.out
          rw [hq] at E3
          clear U3 V3 lt hg
          go_wp2_with fail
          refine E3.mono ?_
          rintro e w4 ⟨rfl, hb⟩
          have b4 : Hid (Below w.heap.size w w4) := b3.out.trans (hb.mono b3.out.size)
          clear hb b3 E3 u0 u1
          go_wp2_with fail
          go_ret
          first | exact ⟨rfl, b4.out⟩ | (rw [e1]; exact ⟨rfl, b4.out⟩)
    · have i1 : ¬ (j : Int) < (n : Int) := by omega
      have e1 : matA l a = true := (matA_iff l a).2 fun x hx => by
        obtain ⟨i, hi, rfl⟩ := List.getElem_of_mem hx
        exact no.out i _ (by have := HN.out; omega) (List.getElem?_eq_getElem hi)
      clear hlt hj
      go_wp2_with fail
      go_ret
      first | exact ⟨rfl, bk.out⟩ | (rw [e1]; exact ⟨rfl, bk.out⟩)
/-- Match. -/
theorem atMatchC : AtMatchC := fun v u l a w ll la hl hs hv hu => by -- function 31
  obtain ⟨d, c, rfl⟩ := ats_parts hu
  by_cases h0 : a.length = 0
  · have ea := List.length_eq_zero_iff.1 h0
    subst ea
    exact match_nil v d c w
  · obtain ⟨b, o, rfl⟩ := hu.addr (by omega)
    exact match_walk l a v a.length rfl hl hs (fun x hx => (ll x hx).2) (fun x hx => (la x hx).2) b o c w hv hu
end Go.Proofs.Ytepaapiflkkghaa

/- slices.Grow, slices.Concat of two slices of attributes. -/
namespace Go.Proofs.Ytepaapiflkkghaa
open Go.RowKit
attribute [local go_sem] World.cell?_alloc_some cell_alloc2 cell_alloc3 cell_alloc4 frozen?_alloc_cells frozen_out
set_option linter.unusedSimpArgs false
theorem elem_atts : Try.prog.elem 22 = 64 := by kernel_rfl
theorem selem_atts : Try.prog.underlying 22 = some (.slice (Try.prog.elem 22)) := by kernel_rfl
theorem run_size_attr (w : World) : (sizeOf 64).run Try.prog w = .ok 2 w := by kernel_rfl
/-- No element of a slice. -/
theorem wp_front0 {ops : Array Oper} {rest : List Oper} {o : Oper} {act : Act} {Q : Exit → Act → World → Prop} {w : World} (hgd : o.guard = none) (x l : Operand)
    (ho : o.op = .slice 22 x none (some l) none) (A : Option Addr) (n c : Nat) (hA : A = none → c = 0) (hx : act.eval x = .slice A n c) (hl : act.eval l = .int .i64 0)
    (h : wpList Try.prog ops Q rest (act.put o.dst (.slice A 0 c)) w) : wpList Try.prog ops Q (o :: rest) act w := by
  refine wpList_plain hgd fun K hK2 => ?_
  have e : (Instr.sliceAt 22 (.slice A n c) none (some (.int .i64 0)) none).run Try.prog w = .ok (.slice A 0 c) w := by
    rw [run_sliceAt_slice (h := selem_atts), run_slice_h (ht := selem_atts) (h0 := by omega) (h2 := by omega), elem_atts, run_size_attr]
    cases A with
    | none => simp [sliced, hA rfl]
    | some p => simp [sliced, Addr.add_zero']
  unfold Oper.wp
  simp [execOp, ho, hx, hl, e, Result.andThen]
  exact hK2 _ _ h
theorem run_app0 (w : World) (B n : Nat) (ty : TypeId) (h0 : 0 < n) (hn : n ≤ 1000) (hB : B ≤ w.heap.size) :
    ∃ c w', (Builtin.append_ #[22, 3] ty #[.slice none 0 0, .int .i64 (n : Int)]).run Try.prog w = .ok (.slice (some ⟨w.heap.size, 0, none⟩) n c) w' ∧ Oa w' B (.slice (some ⟨w.heap.size, 0, none⟩) 0 c) [] ∧ Below w.heap.size w w' := by
  obtain ⟨i0, hi, hz0, hz1, hz2⟩ := info_parts iAttr
  have hr := Lib.run_append_nil_zeros (P := Try.prog) w 22 3 ty 64 i0 _ .i64 .i64 Try.uAttrs uInt_ hi hz0 n h0 (by rw [hz1]; decide) (by omega) (by rw [hz2]; omega)
  refine ⟨_, _, hr, ⟨[], rfl, ⟨rfl, .inr ⟨w.heap.size, _, _, rfl, hB, heap_alloc_new w.drew _, Nat.zero_le _, grownCap_le_maxLen w n 0 64 (by unfold maxLen; omega), ?_, by simp [flatA]⟩⟩, by simp⟩, ((Below.refl _ _).drew).alloc (Nat.le_refl _) _⟩
  have := grownCap_ge w n 0 64
  simp [size_zeroCells, Value.cells, atZ]
  omega
theorem wp_app0 {ops : Array Oper} {rest : List Oper} {o : Oper} {a : Act} {Q : Exit → Act → World → Prop} {w : World} (hgd : o.guard = none) (s x : Operand)
    (ho : o.op = .call { callee := .builtin .append, args := #[s, x], argTypes := #[22, 3] }) (B n : Nat) (h0 : 0 < n) (hn : n ≤ 1000) (hB : B ≤ w.heap.size) (hs : a.eval s = .slice none 0 0) (hx : a.eval x = .int .i64 (n : Int))
    (h : ∀ c w', Oa w' B (.slice (some ⟨w.heap.size, 0, none⟩) 0 c) [] → Below w.heap.size w w' → wpList Try.prog ops Q rest (a.put o.dst (.slice (some ⟨w.heap.size, 0, none⟩) n c)) w') : wpList Try.prog ops Q (o :: rest) a w := by
  obtain ⟨c, w', hr, h1, h2⟩ := run_app0 w B n o.type h0 hn hB
  exact Lib.wpList_append_run w hgd s x _ _ ho _ _ hs hx _ w' hr (h c w' h1 h2)
set_option maxHeartbeats 2000000 in
/-- slices.Grow of no slice: room for so many. -/
theorem grow_fun (n : Nat) (hn : n ≤ 1000) (B : Nat) (w : World) (hB : B ≤ w.heap.size) :
    Calls Try.prog 76 #[.slice none 0 0, .int .i64 (n : Int)] w fun e w' => (∃ u, e = .returned u ∧ Oa w' B u []) ∧ Below w.heap.size w w' := by
  have n0 : ¬ (n : Int) < 0 := by omega
  have HN : Hid (n ≤ 1000) := hn
  have HB : Hid (B ≤ w.heap.size) := hB
  have n1000 : (n : Int) ≤ 1000 := by omega
  clear hn hB
  by_cases h0 : n = 0
  · subst h0
    have o0 : Hid (Oa w B (.slice none 0 0) []) := Oa.nil _ _
    go_enter Try.func76, Try.ntmps76
    go_wp2_with fail
    go_ret
    exact ⟨⟨_, rfl, o0.out⟩, Below.refl _ _⟩
  · have n1 : (n : Int) > 0 := by omega
    have H0 : Hid (0 < n) := by show 0 < n; omega
    clear h0
    go_enter Try.func76, Try.ntmps76
    go_wp2_with (first | refine wp_front0 rfl _ _ rfl none 0 0 (fun _ => rfl) rfl rfl ?_ | refine wp_app0 rfl _ _ rfl B n H0.out HN.out HB.out rfl rfl ?_)
    intro c w1 ho hb
    have O1 : Hid (Oa w1 B (.slice (some ⟨w.heap.size, 0, none⟩) 0 c) []) := ho
    have B1 : Hid (Below w.heap.size w w1) := hb
    clear ho hb
    go_wp2_with (refine wp_front0 rfl _ _ rfl (some ⟨w.heap.size, 0, none⟩) n c (fun h => by cases h) rfl rfl ?_)
    go_ret
    exact ⟨⟨_, rfl, O1.out⟩, B1.out⟩
set_option maxRecDepth 20000 in
set_option maxHeartbeats 4000000 in
theorem concat_walk (b : Nat) (a1 a2 : Option Addr) (n1 n2 c1 c2 : Nat) (t l : List Ar) (h1 : n1 ≤ 24) (h2 : n2 ≤ 24) (e1 : t.length = n1) (e2 : l.length = n2) (w : World)
    (HK : Hid (Kn w [(b, [.slice a1 n1 c1, .slice a2 n2 c2])])) (HT : Hid (Ats w (.slice a1 n1 c1) t)) (HL : Hid (Ats w (.slice a2 n2 c2) l))
    (G1 : ∀ W, Below w.heap.size w W → Calls Try.prog 76 #[.slice none 0 0, .int .i64 ((n1 : Int) + (n2 : Int))] W fun e w' => (∃ u, e = .returned u ∧ Oa w' w.heap.size u []) ∧ Below W.heap.size W w') :
    Calls Try.prog 73 #[.slice (some ⟨b, 0, none⟩) 2 2] w fun e w' => (∃ u, e = .returned u ∧ Oa w' w.heap.size u (t ++ l)) ∧ Below w.heap.size w w' := by
  have HN : Hid (t.length = n1 ∧ l.length = n2 ∧ n1 ≤ 24 ∧ n2 ≤ 24) := ⟨e1, e2, h1, h2⟩
  have z1 : (n1 : Int) ≤ 24 := by omega
  have z2 : (n2 : Int) ≤ 24 := by omega
  have y1 : (0 : Int) ≤ (n1 : Int) := by omega
  have y2 : (0 : Int) ≤ (n2 : Int) := by omega
  have g1 : ¬ (n1 : Int) < 0 := by omega
  have g2 : ¬ (n1 : Int) + (n2 : Int) < 0 := by omega
  have u0 := Kn.get HK.out 0 0 rfl rfl
  have u1 := Kn.get HK.out 0 1 rfl rfl
  clear h1 h2 e1 e2
  go_enter Try.func73, Try.ntmps73
  go_wp2_with fail
  refine wp_loop_rounds 3 ?_
  rw [rounds_succ]
  go_wp2_with fail
  rw [rounds_succ]
  go_wp2_with fail
  rw [rounds_succ]
  go_wp2_with fail
  clear g1 g2 u0 u1
  refine (G1 w (Below.refl _ _)).mono ?_
  rintro e w1 ⟨⟨v, rfl, hv⟩, hb⟩
  have b1 : Hid (Below w.heap.size w w1) := hb
  have o1 : Hid (Oa w1 w.heap.size v []) := hv
  have T1 : Hid (As w1 w.heap.size (.slice a1 n1 c1) t) := HT.out.as.up hb
  have L1 : Hid (As w1 w.heap.size (.slice a2 n2 c2) l) := HL.out.as.up hb
  have k1 := HK.out.up hb
  have u0 := Kn.get k1 0 0 rfl rfl
  have u1 := Kn.get k1 0 1 rfl rfl
  clear hv hb G1 k1
  clear y1 y2
  go_wp2_with fail
  refine wp_loop_rounds 3 ?_
  rw [rounds_succ]
  go_wp2_with (refine wp_appA rfl _ _ rfl w.heap.size _ _ [] t rfl o1.out rfl T1.out (by have := HN.out; simp only [List.length_nil]; omega) b1.out.size ?_)
  intro v2 w2 ho2 hg2
  have b2 : Hid (Below w.heap.size w w2) := Below.grown b1.out hg2 b1.out.size fun g hg => o1.out.ge g hg
  have o2 : Hid (Oa w2 w.heap.size v2 t) := ho2
  have L2 : Hid (As w2 w.heap.size (.slice a2 n2 c2) l) := HL.out.as.up b2.out
  have u2 := Kn.get (HK.out.up b2.out) 0 1 rfl rfl
  clear ho2 hg2 b1 o1 T1 L1 u0 u1
  go_wp2_with fail
  rw [rounds_succ]
  go_wp2_with (refine wp_appA rfl _ _ rfl w.heap.size _ _ t l rfl o2.out rfl L2.out (by have := HN.out; omega) b2.out.size ?_)
  intro v3 w3 ho3 hg3
  have b3 : Hid (Below w.heap.size w w3) := Below.grown b2.out hg3 b2.out.size fun g hg => o2.out.ge g hg
  have o3 : Hid (Oa w3 w.heap.size v3 (t ++ l)) := ho3
  clear ho3 hg3 b2 o2 L2 u2
  go_wp2_with fail
  rw [rounds_succ]
  go_wp2_with fail
  go_ret
  exact ⟨⟨_, rfl, o3.out⟩, b3.out⟩
/-- slices.Concat of two slices, each of few attributes. -/
theorem concat_fun (b : Nat) (t l : List Ar) (ht : t.length ≤ 24) (hl : l.length ≤ 24) (u v : Value) (w : World) (hk : Kn w [(b, [u, v])]) (hu : Ats w u t) (hv : Ats w v l) :
    Calls Try.prog 73 #[.slice (some ⟨b, 0, none⟩) 2 2] w fun e w' => (∃ u, e = .returned u ∧ Ats w' u (t ++ l)) ∧ Below w.heap.size w w' := by
  obtain ⟨a1, c1, rfl⟩ := ats_parts hu
  obtain ⟨a2, c2, rfl⟩ := ats_parts hv
  refine (concat_walk b a1 a2 _ _ c1 c2 t l ht hl rfl rfl w hk hu hv fun W hW => ?_).mono fun e w' ⟨⟨u, he, ho⟩, hb⟩ => ⟨⟨u, he, ho.ats⟩, hb⟩
  rw [← Int.natCast_add]
  exact grow_fun _ (by omega) _ W hW.size
end Go.Proofs.Ytepaapiflkkghaa

/- Package attr, as it landed: Over; its contracts together. -/
namespace Go.Proofs.Ytepaapiflkkghaa
open Go.RowKit
attribute [local go_sem] World.cell?_alloc_some cell_alloc2 cell_alloc3 cell_alloc4 frozen?_alloc_cells frozen_out
set_option linter.unusedSimpArgs false
theorem run_bs2A (a1 a2 : Option Addr) (n1 n2 c1 c2 : Nat) (w : World) : (Instr.buildSlice 93 2 #[(0, .slice a1 n1 c1), (1, .slice a2 n2 c2)]).run Try.prog w = .ok (.slice (some ⟨w.heap.size, 0, none⟩) 2 2) (w.alloc (.cells #[.slice a1 n1 c1, .slice a2 n2 c2] 22)) := by kernel_rfl
theorem wp_bs2A {ops : Array Oper} {rest : List Oper} {o : Oper} {a : Act} {Q : Exit → Act → World → Prop} {w : World} (hgd : o.guard = none) (x y : Operand) (ho : o.op = .buildSlice 93 2 #[(0, x), (1, y)]) (a1 a2 : Option Addr) (n1 n2 c1 c2 : Nat) (hx : a.eval x = .slice a1 n1 c1) (hy : a.eval y = .slice a2 n2 c2)
    (h : wpList Try.prog ops Q rest (a.put o.dst (.slice (some ⟨w.heap.size, 0, none⟩) 2 2)) (w.alloc (.cells #[.slice a1 n1 c1, .slice a2 n2 c2] 22))) : wpList Try.prog ops Q (o :: rest) a w := by
  refine wpList_plain hgd fun K hK => ?_
  have e := run_bs2A a1 a2 n1 n2 c1 c2 w
  unfold Oper.wp
  simp only [execOp, ho, Sem.run_bind, Array.map]
  simp [hx, hy, e]
  exact hK _ _ h
set_option maxRecDepth 20000 in
set_option maxHeartbeats 2000000 in
theorem over_walk (a1 a2 : Option Addr) (n1 n2 c1 c2 : Nat) (l t m : List Ar) (w : World)
    (HL : Hid (Ats w (.slice a1 n1 c1) l)) (HT : Hid (Ats w (.slice a2 n2 c2) t))
    (C1 : ∀ W, Ats W (.slice a1 n1 c1) l → Calls Try.prog 33 #[.slice a1 n1 c1] W fun e w' => e = .returned (.int .i64 0) ∧ Below W.heap.size W w')
    (C2 : ∀ W, Ats W (.slice a2 n2 c2) t → Calls Try.prog 33 #[.slice a2 n2 c2] W fun e w' => e = .returned (.int .i64 0) ∧ Below W.heap.size W w')
    (K1 : ∀ b W, Kn W [(b, [.slice a2 n2 c2, .slice a1 n1 c1])] → Ats W (.slice a2 n2 c2) t → Ats W (.slice a1 n1 c1) l → Calls Try.prog 73 #[.slice (some ⟨b, 0, none⟩) 2 2] W fun e w' => (∃ u, e = .returned u ∧ Ats w' u (t ++ l)) ∧ Below W.heap.size W w')
    (R1 : ∀ u W, Ats W u (t ++ l) → Calls Try.prog 72 #[u] W fun e w' => (∃ u, e = .returned u ∧ Ats w' u m) ∧ Below W.heap.size W w') :
    Calls Try.prog 66 #[.slice a1 n1 c1, .slice a2 n2 c2] w fun e w' => (∃ u, e = .returned (.tuple #[u, .int .i64 0]) ∧ Ats w' u m) ∧ Below w.heap.size w w' := by
  have C1' := C1 w HL.out
  clear C1
  go_enter Try.func66, Try.ntmps66
  go_wp2_with fail
  refine C1'.mono ?_
  rintro e w1 ⟨rfl, hb⟩
  have b1 : Hid (Below w.heap.size w w1) := hb
  have C2' := C2 w1 (HT.out.up hb (Nat.le_refl _))
  clear hb C1' C2
  go_wp2_with fail
  refine C2'.mono ?_
  rintro e w2 ⟨rfl, hb⟩
  have b2 : Hid (Below w.heap.size w w2) := b1.out.trans (hb.mono b1.out.size)
  have kn := (Kn.nil w2).al [.slice a2 n2 c2, .slice a1 n1 c1] 22 rfl
  have b3 : Hid (Below w.heap.size w (w2.alloc (.cells #[.slice a2 n2 c2, .slice a1 n1 c1] 22))) := b2.out.alloc b2.out.size _
  have K2 := K1 w2.heap.size _ kn (HT.out.up b3.out (Nat.le_refl _)) (HL.out.up b3.out (Nat.le_refl _))
  clear hb C2' b1 b2 kn K1
  go_wp2_with (refine wp_bs2A rfl _ _ rfl _ _ _ _ _ _ rfl rfl ?_)
  refine K2.mono ?_
  rintro e w4 ⟨⟨u, rfl, hu⟩, hb⟩
  have b4 : Hid (Below w.heap.size w w4) := b3.out.trans (hb.mono b3.out.size)
  have R2 := R1 u w4 hu
  clear hb hu K2 b3 R1
  go_wp2_with fail
  refine R2.mono ?_
  rintro e w5 ⟨⟨r, rfl, hr⟩, hb⟩
  have b5 : Hid (Below w.heap.size w w5) := b4.out.trans (hb.mono b4.out.size)
  have R5 : Hid (Ats w5 r m) := hr
  clear hb hr R2 b4
  go_wp2_with fail
  go_ret2
  exact ⟨⟨_, rfl, R5.out⟩, b5.out⟩
set_option maxHeartbeats 1000000 in
theorem over_bad1 (u v : Value) (f : Nat) (hf : ¬ f = 0) (w : World)
    (C1 : Calls Try.prog 33 #[v] w fun e w' => e = .returned (.int .i64 (f : Int)) ∧ Below w.heap.size w w') :
    Calls Try.prog 66 #[v, u] w fun e w' => e = .returned (.tuple #[.slice none 0 0, .int .i64 (f : Int)]) ∧ Below w.heap.size w w' := by
  have hn : ((f : Int) != 0) = true := bne_iff_ne.2 (by omega)
  go_enter Try.func66, Try.ntmps66
  go_wp2_with fail
  refine C1.mono ?_
  rintro e w1 ⟨rfl, hb⟩
  have b1 : Hid (Below w.heap.size w w1) := hb
  clear hb C1
  go_wp2_with fail
  go_ret2
  exact ⟨rfl, b1.out⟩
set_option maxHeartbeats 1000000 in
theorem over_bad2 (u v : Value) (f : Nat) (hf : ¬ f = 0) (t : List Ar) (w : World) (HT : Hid (Ats w u t))
    (C1 : Calls Try.prog 33 #[v] w fun e w' => e = .returned (.int .i64 0) ∧ Below w.heap.size w w')
    (C2 : ∀ W, Ats W u t → Calls Try.prog 33 #[u] W fun e w' => e = .returned (.int .i64 (f : Int)) ∧ Below W.heap.size W w') :
    Calls Try.prog 66 #[v, u] w fun e w' => e = .returned (.tuple #[.slice none 0 0, .int .i64 (f : Int)]) ∧ Below w.heap.size w w' := by
  have hn : ((f : Int) != 0) = true := bne_iff_ne.2 (by omega)
  go_enter Try.func66, Try.ntmps66
  go_wp2_with fail
  refine C1.mono ?_
  rintro e w1 ⟨rfl, hb⟩
  have b1 : Hid (Below w.heap.size w w1) := hb
  have C3 := C2 w1 (HT.out.up hb (Nat.le_refl _))
  clear hb C1 C2
  go_wp2_with fail
  refine C3.mono ?_
  rintro e w2 ⟨rfl, hb⟩
  have b2 : Hid (Below w.heap.size w w2) := b1.out.trans (hb.mono b1.out.size)
  clear hb C3 b1
  go_wp2_with fail
  go_ret2
  exact ⟨rfl, b2.out⟩
/-- Over. -/
theorem atOverC : AtOverC := fun v u l t w ll lt hv hu => by -- function 66
  by_cases h1 : fltA l = 0
  · have C1 : ∀ W, Ats W v l → Calls Try.prog 33 #[v] W fun e w' => e = .returned (.int .i64 0) ∧ Below W.heap.size W w' := fun W h => by
      have := atCheckC v l W ll h
      rw [h1] at this
      exact this
    have e0 : fltO l t = fltA t := if_pos h1
    rw [e0]
    by_cases h2 : fltA t = 0
    · have C2 : ∀ W, Ats W u t → Calls Try.prog 33 #[u] W fun e w' => e = .returned (.int .i64 0) ∧ Below W.heap.size W w' := fun W h => by
        have := atCheckC u t W lt h
        rw [h2] at this
        exact this
      rw [h2, if_pos rfl]
      obtain ⟨a1, c1, rfl⟩ := ats_parts hv
      obtain ⟨a2, c2, rfl⟩ := ats_parts hu
      have s1 := good_small h1
      have s2 := good_small h2
      refine over_walk a1 a2 _ _ c1 c2 l t _ w hv hu C1 C2 (fun b W hk p q => concat_fun b t l s2.1 s1.1 _ _ W hk p q) (fun r W h => rising_fun (t ++ l) (by rw [List.length_append]; have := s1.1; have := s2.1; omega) (fun x hx => ?_) r W h)
      rcases List.mem_append.1 hx with hx | hx
      · exact s2.2 x hx
      · exact s1.2 x hx
    · rw [if_neg h2]
      exact (over_bad2 u v _ h2 t w hu (C1 w hv) fun W h => atCheckC u t W lt h).mono fun _ _ ⟨he, hb⟩ => ⟨⟨_, he, Ats.nil _⟩, hb⟩
  · have e0 : fltO l t = fltA l := if_neg h1
    rw [e0, if_neg h1]
    exact (over_bad1 u v _ h1 w (atCheckC v l w ll hv)).mono fun _ _ ⟨he, hb⟩ => ⟨⟨_, he, Ats.nil _⟩, hb⟩
end Go.Proofs.Ytepaapiflkkghaa
