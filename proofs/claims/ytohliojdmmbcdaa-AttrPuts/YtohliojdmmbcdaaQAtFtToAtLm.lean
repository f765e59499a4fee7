/- Texts that were joined: AtFt, AtLm. -/
import Derived.Test.YtohliojdmmbcdaaQAtS
import Derived.Test.YtohliojdmmbcdaaQAtL
/- sealringref.Fits: all that is asked? -/
namespace Go.Proofs.Ytohliojdmmbcdaa
open Go.RowKit
attribute [local go_sem] World.cell?_alloc_some cell_alloc2 cell_alloc3 cell_alloc4 frozen?_alloc_cells frozen_out
set_option linter.unusedSimpArgs false
theorem wp_convG {ops : Array Oper} {rest : List Oper} {o : Oper} {a : Act} {Q : Exit → Act → World → Prop} {w : World} (hgd : Region.wanted o (yielded ops a.tmps) = true) (x : Operand)
    (ho : o.op = .convert 33 9 x) (u : Value) (xs : List Nat) (hx : a.eval x = u) (h : By w u xs) (hK : wpList Try.prog ops Q rest (a.put o.dst (.string (sOf xs))) w) : wpList Try.prog ops Q (o :: rest) a w := by
  refine wpList_step fun K hK2 => ?_
  simp only [hgd, if_true]
  unfold Oper.wp
  simp [execOp, ho, hx, bytes_conv h, Result.andThen]
  exact hK2 _ _ hK
theorem matA_no {l a : List Ar} {x : Ar} (hx : x ∈ a) (h : getA l x.k ≠ some x.v) : matA l a = false := by
  cases e : matA l a with
  | false => rfl
  | true => exact absurd ((matA_iff l a).1 e x hx) h
set_option maxRecDepth 20000 in
set_option maxHeartbeats 2000000 in
theorem fits_walk (l a : List Ar) (v : Value) (n : Nat) (hn : a.length = n) (hl : l.length ≤ 4611686018427387904) (hs : n ≤ 4611686018427387904) (lo : ∀ x ∈ l, lowB x.v) (ao : ∀ x ∈ a, lowB x.v) (b o c : Nat) (w : World) (HV : Hid (Ats w v l)) (HA : Hid (Ats w (.slice (some ⟨b, o, none⟩) n c) a)) :
    Calls Try.prog 19 #[v, .slice (some ⟨b, o, none⟩) n c] w fun e w' => e = .returned (.bool (matA l a)) ∧ Below w.heap.size w w' := by
  have HN : Hid (a.length = n ∧ (n : Int) ≤ 4611686018427387904) := ⟨hn, by omega⟩
  have FO : Hid (∀ k W, Below w.heap.size w W → Calls Try.prog 14 #[v, .int .i64 k] W fun e w' => e = .returned (.tuple #[.string (sOf ((getA l k).getD [])), .bool (getA l k).isSome]) ∧ Below W.heap.size W w') := fun k W hW => firstOf_fun l hl k v W (HV.out.up hW (Nat.le_refl _))
  have LO : Hid ((∀ x ∈ l, lowB x.v) ∧ ∀ x ∈ a, lowB x.v) := ⟨lo, ao⟩
  clear hn hs hl lo ao
  go_enter Try.func19, Try.ntmps19
  go_wp2_with fail
  go_loopw [11] (fun i wr => ∃ j : Nat, j ≤ n ∧ i = .int .i64 (j : Int) ∧ Hid (∀ (i : Nat) (y : Ar), i < j → a[i]? = some y → getA l y.k = some y.v) ∧ Hid (Below w.heap.size w wr)) (fun i _ => n - (intOf i).toNat)
  case atStart => exact ⟨0, Nat.zero_le _, rfl, fun i y hi => absurd hi (Nat.not_lt_zero _), Below.refl _ _⟩
  case round =>
    obtain ⟨j, hj, rfl, no, bk⟩ := hrel
    by_cases hlt : j < n
    · have i1 : (j : Int) < (n : Int) := by omega
      have i0 : (0 : Int) ≤ (j : Int) := by omega
      have jn : (n : Int) ≤ 4611686018427387904 := HN.out.2
      have HJ : Hid (j < n) := hlt
      obtain ⟨x, hx⟩ : ∃ x, Hid (a[j]? = some x) := ⟨a[j]'(by have := HN.out; omega), List.getElem?_eq_getElem _⟩
      obtain ⟨xa, xc, ex⟩ := (HA.out.up bk.out (Nat.le_refl _)).elem hx.out
      have EX : Hid (AtE wr b (o + j * 2) x xa xc) := ex
      have E1 : Hid (∀ (C : Array Value) t, AtE (wr.alloc (.cells C t)) b (o + j * 2) x xa xc) := fun C t => EX.out.up ((Below.refl _ _).alloc (Nat.le_refl _) _)
      have s2 : Hid (Kn (wr.alloc (.cells #[.int .i64 x.k, .slice xa x.v.length xc] 50)) [(wr.heap.size, [.int .i64 x.k, .slice xa x.v.length xc])]) := (Kn.nil wr).al [.int .i64 x.k, .slice xa x.v.length xc] 50 rfl
      have V2 : Hid (By (wr.alloc (.cells #[.int .i64 x.k, .slice xa x.v.length xc] 50)) (.slice xa x.v.length xc) x.v) := (E1.out _ _).2.2
      have b2 : Hid (Below w.heap.size w (wr.alloc (.cells #[.int .i64 x.k, .slice xa x.v.length xc] 50))) := bk.out.alloc bk.out.size _
      have u0 := Kn.get s2.out 0 0 rfl rfl
      have u1 := Kn.get s2.out 0 1 rfl rfl
      have MX : Hid (x ∈ a) := List.mem_of_getElem? hx.out
      clear hlt hj ex bk
      cases hg : getA l x.k with
      | none =>
        have e1 : matA l a = false := matA_no MX.out (by rw [hg]; exact fun h => by cases h)
        go_wp2_with (first | simp only [zero_attr] | refine wp_ldW rfl 50 _ rfl b (o + j * 2) rfl [.int .i64 x.k, .slice xa x.v.length xc] _ (by first | exact EX.out.rng | exact (E1.out _ _).rng) u_attr rfl (info_attr _ _) ?_)
        clear EX E1
        refine (FO.out x.k _ b2.out).mono ?_
        rintro e w3 ⟨rfl, hb⟩
        have b3 : Hid (Below w.heap.size w w3) := b2.out.trans (hb.mono b2.out.size)
        have s3 := s2.out.up hb
        have V3 : Hid (By w3 (.slice xa x.v.length xc) x.v) := V2.out.up hb (Nat.le_refl _)
        have u0 := Kn.get s3 0 0 rfl rfl
        have u1 := Kn.get s3 0 1 rfl rfl
        clear hb s2 V2 b2 s3
        rw [hg]
        go_wp2_with fail
        go_ret
        first | exact ⟨rfl, b3.out⟩ | (rw [e1]; exact ⟨rfl, b3.out⟩)
      | some t =>
        have lt : lowB t := by
          obtain ⟨y, hy, _, e⟩ := getA_mem hg
          rw [← e]
          exact LO.out.1 y hy
        have NB : Hid _ := sOf_beq lt (LO.out.2 x MX.out)
        have HG : Hid _ := hg
        clear lt
        by_cases ht : t = x.v
        · have hq : ((sOf t).toList == (sOf x.v).toList) = true := by rw [NB.out]; exact decide_eq_true ht
          have no' : Hid (∀ (i : Nat) (y : Ar), i < j + 1 → a[i]? = some y → getA l y.k = some y.v) := fun i y hi hy => by
            by_cases e : i = j
            · rw [e, hx.out] at hy
              obtain rfl := Option.some.inj hy
              rw [HG.out, ht]
            · exact no.out i y (by omega) hy
          clear ht NB no
          go_wp2_with (first | simp only [zero_attr] | refine wp_ldW rfl 50 _ rfl b (o + j * 2) rfl [.int .i64 x.k, .slice xa x.v.length xc] _ (by first | exact EX.out.rng | exact (E1.out _ _).rng) u_attr rfl (info_attr _ _) ?_)
          clear EX E1
          refine (FO.out x.k _ b2.out).mono ?_
          rintro e w3 ⟨rfl, hb⟩
          have b3 : Hid (Below w.heap.size w w3) := b2.out.trans (hb.mono b2.out.size)
          have s3 := s2.out.up hb
          have V3 : Hid (By w3 (.slice xa x.v.length xc) x.v) := V2.out.up hb (Nat.le_refl _)
          have u0 := Kn.get s3 0 0 rfl rfl
          have u1 := Kn.get s3 0 1 rfl rfl
          clear hb s2 V2 b2 s3
          rw [hg]
          clear hg
          go_wp2_with (refine wp_convG (by first | rfl | simp [Region.wanted, yielded]) _ rfl _ x.v rfl V3.out ?_)
          clear u0 u1
          go_roundw
          case rel => exact ⟨j + 1, HJ.out, by go_num, no', b3⟩
          case measure => simp [intOf]; have := HJ.out; omega
        · have hq : ((sOf t).toList == (sOf x.v).toList) = false := by rw [NB.out]; exact decide_eq_false ht
          have e1 : matA l a = false := matA_no MX.out (by rw [hg]; exact fun h => ht (Option.some.inj h))
          clear ht NB no
          go_wp2_with (first | simp only [zero_attr] | refine wp_ldW rfl 50 _ rfl b (o + j * 2) rfl [.int .i64 x.k, .slice xa x.v.length xc] _ (by first | exact EX.out.rng | exact (E1.out _ _).rng) u_attr rfl (info_attr _ _) ?_)
          clear EX E1
          refine (FO.out x.k _ b2.out).mono ?_
          rintro e w3 ⟨rfl, hb⟩
          have b3 : Hid (Below w.heap.size w w3) := b2.out.trans (hb.mono b2.out.size)
          have s3 := s2.out.up hb
          have V3 : Hid (By w3 (.slice xa x.v.length xc) x.v) := V2.out.up hb (Nat.le_refl _)
          have u0 := Kn.get s3 0 0 rfl rfl
          have u1 := Kn.get s3 0 1 rfl rfl
          clear hb s2 V2 b2 s3
          rw [hg]
          clear hg
          go_wp2_with (refine wp_convG (by first | rfl | simp [Region.wanted, yielded]) _ rfl _ x.v rfl V3.out ?_)
          go_ret
          first | exact ⟨rfl, b3.out⟩ | (rw [e1]; exact ⟨rfl, b3.out⟩)
    · have i1 : ¬ (j : Int) < (n : Int) := by omega
      have e1 : matA l a = true := (matA_iff l a).2 fun x hx => by
        obtain ⟨i, hi, rfl⟩ := List.getElem_of_mem hx
        exact no.out i _ (by have := HN.out; omega) (List.getElem?_eq_getElem hi)
      clear hlt hj
      go_wp2_with fail
      go_ret
      first | exact ⟨rfl, bk.out⟩ | (rw [e1]; exact ⟨rfl, bk.out⟩)
set_option maxHeartbeats 1000000 in
theorem fits_nil (v : Value) (a : Option Addr) (c : Nat) (w : World) : Calls Try.prog 19 #[v, .slice a 0 c] w fun e w' => e = .returned (.bool true) ∧ Below w.heap.size w w' := by
  go_enter Try.func19, Try.ntmps19
  go_wp2_with fail
  refine wp_loop_rounds 1 ?_
  rw [rounds_succ]
  go_wp2_with fail
  go_ret
  exact ⟨rfl, Below.refl _ _⟩
theorem fits_fun (l a : List Ar) (v u : Value) (hl : l.length ≤ 4611686018427387904) (hs : a.length ≤ 4611686018427387904) (lo : ∀ x ∈ l, lowB x.v) (ao : ∀ x ∈ a, lowB x.v) (w : World) (hv : Ats w v l) (hu : Ats w u a) :
    Calls Try.prog 19 #[v, u] w fun e w' => e = .returned (.bool (matA l a)) ∧ Below w.heap.size w w' := by
  obtain ⟨d, c, rfl⟩ := ats_parts hu
  by_cases h0 : a.length = 0
  · have ea := List.length_eq_zero_iff.1 h0
    subst ea
    exact fits_nil v d c w
  · obtain ⟨b, o, rfl⟩ := hu.addr (by omega)
    exact fits_walk l a v a.length rfl hl hs lo ao b o c w hv hu
end Go.Proofs.Ytohliojdmmbcdaa

/- Package attr, as it landed: Match. -/
namespace Go.Proofs.Ytohliojdmmbcdaa
open Go.RowKit
attribute [local go_sem] World.cell?_alloc_some cell_alloc2 cell_alloc3 cell_alloc4 frozen?_alloc_cells frozen_out
set_option linter.unusedSimpArgs false
set_option maxHeartbeats 1000000 in
theorem match_nil (v : Value) (a : Option Addr) (c : Nat) (w : World) : Calls Try.prog 18 #[v, .slice a 0 c] w fun e w' => e = .returned (.bool true) ∧ Below w.heap.size w w' := by
  go_enter Try.func18, Try.ntmps18
  go_wp2_with fail
  refine wp_loop_rounds 1 ?_
  rw [rounds_succ]
  go_wp2_with fail
  go_ret
  exact ⟨rfl, Below.refl _ _⟩
set_option maxRecDepth 20000 in
set_option maxHeartbeats 2000000 in
theorem match_walk (l a : List Ar) (v : Value) (n : Nat) (hn : a.length = n) (hl : l.length ≤ 4611686018427387904) (hs : n ≤ 4611686018427387904) (lo : ∀ x ∈ l, lowB x.v) (ao : ∀ x ∈ a, lowB x.v) (b o c : Nat) (w : World) (HV : Hid (Ats w v l)) (HA : Hid (Ats w (.slice (some ⟨b, o, none⟩) n c) a)) :
    Calls Try.prog 18 #[v, .slice (some ⟨b, o, none⟩) n c] w fun e w' => e = .returned (.bool (matA l a)) ∧ Below w.heap.size w w' := by
  have HN : Hid (a.length = n ∧ (n : Int) ≤ 4611686018427387904) := ⟨hn, by omega⟩
  have FO : Hid (∀ k W, Below w.heap.size w W → Calls Try.prog 29 #[v, .int .i64 k] W fun e w' => (∃ u, e = .returned (.tuple #[u, .bool (getA l k).isSome]) ∧ By w' u ((getA l k).getD [])) ∧ Below W.heap.size W w') := fun k W hW => look_fun l hl k v W (HV.out.up hW (Nat.le_refl _))
  have LO : Hid ((∀ x ∈ l, lowB x.v) ∧ ∀ x ∈ a, lowB x.v) := ⟨lo, ao⟩
  clear hn hs hl lo ao
  go_enter Try.func18, Try.ntmps18
  go_wp2_with fail
  go_loopw [11] (fun i wr => ∃ j : Nat, j ≤ n ∧ i = .int .i64 (j : Int) ∧ Hid (∀ (i : Nat) (y : Ar), i < j → a[i]? = some y → getA l y.k = some y.v) ∧ Hid (Below w.heap.size w wr)) (fun i _ => n - (intOf i).toNat)
  case atStart => exact ⟨0, Nat.zero_le _, rfl, fun i y hi => absurd hi (Nat.not_lt_zero _), Below.refl _ _⟩
  case round =>
    obtain ⟨j, hj, rfl, no, bk⟩ := hrel
    by_cases hlt : j < n
    · have i1 : (j : Int) < (n : Int) := by omega
      have i0 : (0 : Int) ≤ (j : Int) := by omega
      have jn : (n : Int) ≤ 4611686018427387904 := HN.out.2
      have HJ : Hid (j < n) := hlt
      obtain ⟨x, hx⟩ : ∃ x, Hid (a[j]? = some x) := ⟨a[j]'(by have := HN.out; omega), List.getElem?_eq_getElem _⟩
      obtain ⟨xa, xc, ex⟩ := (HA.out.up bk.out (Nat.le_refl _)).elem hx.out
      have EX : Hid (AtE wr b (o + j * 2) x xa xc) := ex
      have E1 : Hid (∀ (C : Array Value) t, AtE (wr.alloc (.cells C t)) b (o + j * 2) x xa xc) := fun C t => EX.out.up ((Below.refl _ _).alloc (Nat.le_refl _) _)
      have s2 : Hid (Kn (wr.alloc (.cells #[.int .i64 x.k, .slice xa x.v.length xc] 50)) [(wr.heap.size, [.int .i64 x.k, .slice xa x.v.length xc])]) := (Kn.nil wr).al [.int .i64 x.k, .slice xa x.v.length xc] 50 rfl
      have V2 : Hid (By (wr.alloc (.cells #[.int .i64 x.k, .slice xa x.v.length xc] 50)) (.slice xa x.v.length xc) x.v) := (E1.out _ _).2.2
      have b2 : Hid (Below w.heap.size w (wr.alloc (.cells #[.int .i64 x.k, .slice xa x.v.length xc] 50))) := bk.out.alloc bk.out.size _
      have u0 := Kn.get s2.out 0 0 rfl rfl
      have u1 := Kn.get s2.out 0 1 rfl rfl
      have MX : Hid (x ∈ a) := List.mem_of_getElem? hx.out
      clear hlt hj ex bk
      cases hg : getA l x.k with
      | none =>
        have e1 : matA l a = false := matA_no MX.out (by rw [hg]; exact fun h => by cases h)
        go_wp2_with (first | simp only [zero_attr] | refine wp_ldW rfl 50 _ rfl b (o + j * 2) rfl [.int .i64 x.k, .slice xa x.v.length xc] _ (by first | exact EX.out.rng | exact (E1.out _ _).rng) u_attr rfl (info_attr _ _) ?_)
        clear EX E1
        refine (FO.out x.k _ b2.out).mono ?_
        rintro e w3 ⟨⟨u, rfl, hu⟩, hb⟩
        have b3 : Hid (Below w.heap.size w w3) := b2.out.trans (hb.mono b2.out.size)
        have s3 := s2.out.up hb
        have V3 : Hid (By w3 (.slice xa x.v.length xc) x.v) := V2.out.up hb (Nat.le_refl _)
        have U3 : Hid (By w3 u ((getA l x.k).getD [])) := hu
        have u0 := Kn.get s3 0 0 rfl rfl
        have u1 := Kn.get s3 0 1 rfl rfl
        clear hb hu s2 V2 b2 s3
        rw [hg] at U3 ⊢
        clear U3 V3
        go_wp2_with fail
        go_ret
        first | exact ⟨rfl, b3.out⟩ | (rw [e1]; exact ⟨rfl, b3.out⟩)
      | some t =>
        have lt : Hid (lowB t) := by
          obtain ⟨y, hy, _, e⟩ := getA_mem hg
          show lowB t
          rw [← e]
          exact LO.out.1 y hy
        have HG : Hid _ := hg
        by_cases ht : t = x.v
        · have hq : decide (t = x.v) = true := decide_eq_true ht
          have no' : Hid (∀ (i : Nat) (y : Ar), i < j + 1 → a[i]? = some y → getA l y.k = some y.v) := fun i y hi hy => by
            by_cases e : i = j
            · rw [e, hx.out] at hy
              obtain rfl := Option.some.inj hy
              rw [HG.out, ht]
            · exact no.out i y (by omega) hy
          clear ht no
          go_wp2_with (first | simp only [zero_attr] | refine wp_ldW rfl 50 _ rfl b (o + j * 2) rfl [.int .i64 x.k, .slice xa x.v.length xc] _ (by first | exact EX.out.rng | exact (E1.out _ _).rng) u_attr rfl (info_attr _ _) ?_)
          clear EX E1
          refine (FO.out x.k _ b2.out).mono ?_
          rintro e w3 ⟨⟨u, rfl, hu⟩, hb⟩
          have b3 : Hid (Below w.heap.size w w3) := b2.out.trans (hb.mono b2.out.size)
          have s3 := s2.out.up hb
          have V3 : Hid (By w3 (.slice xa x.v.length xc) x.v) := V2.out.up hb (Nat.le_refl _)
          have U3 : Hid (By w3 u ((getA l x.k).getD [])) := hu
          have u0 := Kn.get s3 0 0 rfl rfl
          have u1 := Kn.get s3 0 1 rfl rfl
          clear hb hu s2 V2 b2 s3
          rw [hg] at U3 ⊢
          rw [Option.getD_some] at U3
          have E3 := equal_fun u _ t x.v lt.out (LO.out.2 x MX.out) w3 U3.out V3.out
          rw [hq] at E3
          clear U3 V3 lt hg
          go_wp2_with fail
          refine E3.mono ?_
          rintro e w4 ⟨rfl, hb⟩
          have b4 : Hid (Below w.heap.size w w4) := b3.out.trans (hb.mono b3.out.size)
          clear hb b3 E3 u0 u1
          go_wp2_with fail
          clear hq
          go_roundw
          case rel => exact ⟨j + 1, HJ.out, by go_num, no', b4⟩
          case measure => simp [intOf]; have := HJ.out; omega
        · have hq : decide (t = x.v) = false := decide_eq_false ht
          have e1 : matA l a = false := matA_no MX.out (by rw [hg]; exact fun h => ht (Option.some.inj h))
          clear ht no
          go_wp2_with (first | simp only [zero_attr] | refine wp_ldW rfl 50 _ rfl b (o + j * 2) rfl [.int .i64 x.k, .slice xa x.v.length xc] _ (by first | exact EX.out.rng | exact (E1.out _ _).rng) u_attr rfl (info_attr _ _) ?_)
          clear EX E1
          refine (FO.out x.k _ b2.out).mono ?_
          rintro e w3 ⟨⟨u, rfl, hu⟩, hb⟩
          have b3 : Hid (Below w.heap.size w w3) := b2.out.trans (hb.mono b2.out.size)
          have s3 := s2.out.up hb
          have V3 : Hid (By w3 (.slice xa x.v.length xc) x.v) := V2.out.up hb (Nat.le_refl _)
          have U3 : Hid (By w3 u ((getA l x.k).getD [])) := hu
          have u0 := Kn.get s3 0 0 rfl rfl
          have u1 := Kn.get s3 0 1 rfl rfl
          clear hb hu s2 V2 b2 s3
          rw [hg] at U3 ⊢
          rw [Option.getD_some] at U3
          have E3 := equal_fun u _ t x.v lt.out (LO.out.2 x MX.out) w3 U3.out V3.out
          rw [hq] at E3
          clear U3 V3 lt hg
          go_wp2_with fail
          refine E3.mono ?_
          rintro e w4 ⟨rfl, hb⟩
          have b4 : Hid (Below w.heap.size w w4) := b3.out.trans (hb.mono b3.out.size)
          clear hb b3 E3 u0 u1
          go_wp2_with fail
          go_ret
          first | exact ⟨rfl, b4.out⟩ | (rw [e1]; exact ⟨rfl, b4.out⟩)
    · have i1 : ¬ (j : Int) < (n : Int) := by omega
      have e1 : matA l a = true := (matA_iff l a).2 fun x hx => by
        obtain ⟨i, hi, rfl⟩ := List.getElem_of_mem hx
        exact no.out i _ (by have := HN.out; omega) (List.getElem?_eq_getElem hi)
      clear hlt hj
      go_wp2_with fail
      go_ret
      first | exact ⟨rfl, bk.out⟩ | (rw [e1]; exact ⟨rfl, bk.out⟩)
/-- Match. -/
theorem atMatchC : AtMatchC := fun v u l a w ll la hl hs hv hu => by -- function 18
  obtain ⟨d, c, rfl⟩ := ats_parts hu
  by_cases h0 : a.length = 0
  · have ea := List.length_eq_zero_iff.1 h0
    subst ea
    exact match_nil v d c w
  · obtain ⟨b, o, rfl⟩ := hu.addr (by omega)
    exact match_walk l a v a.length rfl hl hs (fun x hx => (ll x hx).2) (fun x hx => (la x hx).2) b o c w hv hu
end Go.Proofs.Ytohliojdmmbcdaa
