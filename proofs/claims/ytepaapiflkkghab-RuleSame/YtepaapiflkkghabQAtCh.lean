/- Package attr, as it landed: Check. -/
import Derived.Test.YtepaapiflkkghabQAtCk
import Derived.Test.YtepaapiflkkghabQAtP0ToRuMd
namespace Go.Proofs.Ytepaapiflkkghab
open Go.RowKit
attribute [local go_sem] World.cell?_alloc_some cell_alloc2 cell_alloc3 cell_alloc4 frozen?_alloc_cells frozen_out
set_option linter.unusedSimpArgs false
/-- Which kinds are there, as a row. -/
def thF (p : List Ar) (k : Nat) : Bool := p.any fun y => y.k == (k : Int)
def thC (p : List Ar) : List Value := (List.range 19).map fun k => .bool (thF p k)
def thZ : List Value := List.replicate 19 (.bool false)
theorem zero_th (w : World) : (zeroValue 55).run Try.prog w = .ok (.agg thZ.toArray) w := I.zero_of (by kernel_rfl) w
theorem thC_length (p : List Ar) : (thC p).length = 19 := by rw [thC, List.length_map, List.length_range]
theorem thC_get (p : List Ar) (x : Nat) (hx : x < 19) : (thC p)[x]? = some (.bool (thF p x)) := by
  rw [thC, List.getElem?_map, List.getElem?_range hx]
  rfl
theorem thC_nil : thC [] = thZ := by
  unfold thC thF thZ
  simp only [List.any_nil]
  rw [List.map_const', List.length_range]
theorem thC_set (p : List Ar) (x : Ar) (i : Nat) (hi : x.k = (i : Int)) : (thC p).set i (.bool true) = thC (p ++ [x]) := by
  refine List.ext_getElem (by rw [List.length_set, thC_length, thC_length]) fun m h1 h2 => ?_
  rw [List.getElem_set]
  simp only [thC, List.getElem_map, List.getElem_range]
  unfold thF
  rw [List.any_append, List.any_cons, List.any_nil, Bool.or_false]
  by_cases h : i = m
  · rw [if_pos h, hi, h, beq_self_eq_true, Bool.or_true]
  · rw [if_neg h, hi, beq_eq_false_iff_ne.2 (show ¬ (i : Int) = (m : Int) by omega), Bool.or_false]
theorem thF_mem {p : List Ar} {x : Ar} {i : Nat} (hi : x.k = (i : Int)) (h : thF p i = true) : ∃ y ∈ p, y.k = x.k := by
  obtain ⟨y, hy, e⟩ := List.any_eq_true.1 h
  exact ⟨y, hy, by rw [hi]; exact beq_iff_eq.1 e⟩
theorem thF_out {p : List Ar} {x : Ar} {i : Nat} (hi : x.k = (i : Int)) (h : thF p i = false) : ∀ y ∈ p, y.k ≠ x.k := fun y hy e => by
  have : thF p i = true := List.any_eq_true.2 ⟨y, hy, beq_iff_eq.2 (by rw [e, hi])⟩
  rw [h] at this
  cases this
set_option maxRecDepth 20000 in
set_option maxHeartbeats 4000000 in
theorem check_walk (l : List Ar) (n : Nat) (hn : l.length = n) (n24 : n ≤ 24) (b o c : Nat) (w : World) (HA : Hid (Ats w (.slice (some ⟨b, o, none⟩) n c) l)) :
    Calls Try.prog 13 #[.slice (some ⟨b, o, none⟩) n c] w fun e w' => e = .returned (.int .i64 ((fltL [] l : Nat) : Int)) ∧ Below w.heap.size w w' := by
  have g24 : ¬ (n : Int) > 24 := by omega
  have HN : Hid (l.length = n ∧ n ≤ 24) := ⟨hn, n24⟩
  clear hn n24
  go_enter Try.func13, Try.ntmps13
  have s0 : Hid (Kn (w.alloc (.cells thZ.toArray 55)) [(w.heap.size, thC (l.take 0))]) := by
    rw [List.take_zero, thC_nil]
    exact (Kn.nil w).al thZ 55 rfl
  have b0 : Hid (Below w.heap.size w (w.alloc (.cells thZ.toArray 55))) := (Below.refl _ _).alloc (Nat.le_refl _) _
  go_wp2_with (simp only [zero_th])
  clear g24
  go_loopw [12] (fun i wr => ∃ j : Nat, j ≤ n ∧ i = .int .i64 (j : Int) ∧ Hid (fltL [] l = fltL (l.take j) (l.drop j)) ∧ Hid (Kn wr [(w.heap.size, thC (l.take j))]) ∧ Hid (Below w.heap.size w wr)) (fun i _ => n - (intOf i).toNat)
  case atStart => exact ⟨0, Nat.zero_le _, rfl, rfl, s0, b0⟩
  case round =>
    clear s0 b0
    obtain ⟨j, hj, rfl, no, sk, bk⟩ := hrel
    by_cases hlt : j < n
    · have i1 : (j : Int) < (n : Int) := by omega
      have i0 : (0 : Int) ≤ (j : Int) := by omega
      have j20 : (j : Int) < 24 := by have := HN.out; omega
      have HJ : Hid (j < n) := hlt
      obtain ⟨x, hx⟩ : ∃ x, Hid (l[j]? = some x) := ⟨l[j]'(by have := HN.out; omega), List.getElem?_eq_getElem _⟩
      obtain ⟨xa, xc, ex⟩ := HA.out.elem hx.out
      have E1 : Hid (AtE wr b (o + j * 2) x xa xc) := ex.up bk.out
      have E2 : Hid (∀ (C : Array Value) t, AtE (wr.alloc (.cells C t)) b (o + j * 2) x xa xc) := fun C t => ex.up (bk.out.alloc bk.out.size _)
      have V2 : Hid (By (wr.alloc (.cells #[.int .i64 x.k, .slice xa x.v.length xc] 38)) (.slice xa x.v.length xc) x.v) := (E2.out _ _).2.2
      have s2 : Hid (Kn (wr.alloc (.cells #[.int .i64 x.k, .slice xa x.v.length xc] 38)) [(wr.heap.size, [.int .i64 x.k, .slice xa x.v.length xc]), (w.heap.size, thC (l.take j))]) := sk.out.al [.int .i64 x.k, .slice xa x.v.length xc] 38 rfl
      have b2 : Hid (Below w.heap.size w (wr.alloc (.cells #[.int .i64 x.k, .slice xa x.v.length xc] 38))) := bk.out.alloc bk.out.size _
      have ed : l.drop j = x :: l.drop (j + 1) := by
        have hl : j < l.length := (List.getElem?_eq_some_iff.1 hx.out).1
        rw [List.drop_eq_getElem_cons hl]
        congr 1
        exact (List.getElem?_eq_some_iff.1 hx.out).2
      rw [ed] at no
      have u0 := Kn.get s2.out 0 0 rfl rfl
      clear hlt hj ex bk ed sk
      by_cases kb : x.k < 1 ∨ 18 < x.k
      · have A1 := fun W => asked_bad x.k kb W
        have e1 := no.out.trans (fltL_bad (bad_kind kb) (by decide))
        clear s2 V2 no kb
        go_wp2_with (first | simp only [zero_attr] | refine wp_ldW rfl 38 _ rfl b (o + j * 2) rfl [.int .i64 x.k, .slice xa x.v.length xc] _ (by first | exact E1.out.rng | exact (E2.out _ _).rng) u_attr rfl (info_attr _ _) ?_)
        clear E1 E2
        refine (A1 _).mono ?_
        rintro e w3 ⟨rfl, hb⟩
        have b3 : Hid (Below w.heap.size w w3) := b2.out.trans (hb.mono b2.out.size)
        clear hb b2 A1 u0
        have en := eql_fit0
        go_wp2_with fail
        go_ret
        exact ⟨by first | rfl | (rw [e1]; rfl), b3.out⟩
      have gk : Hid (¬ (x.k < 1 ∨ 18 < x.k)) := kb
      have A1 := fun W => asked_fun x.k (by omega) (by omega) W
      clear kb
      go_wp2_with (first | simp only [zero_attr] | refine wp_ldW rfl 38 _ rfl b (o + j * 2) rfl [.int .i64 x.k, .slice xa x.v.length xc] _ (by first | exact E1.out.rng | exact (E2.out _ _).rng) u_attr rfl (info_attr _ _) ?_)
      clear E1 E2
      refine (A1 _).mono ?_
      rintro e w3 ⟨⟨f, rfl, hf⟩, hb⟩
      have b3 : Hid (Below w.heap.size w w3) := b2.out.trans (hb.mono b2.out.size)
      have s3 : Hid (Kn w3 [(wr.heap.size, [.int .i64 x.k, .slice xa x.v.length xc]), (w.heap.size, thC (l.take j))]) := s2.out.up hb
      have V3 : Hid (By w3 (.slice xa x.v.length xc) x.v) := V2.out.up hb (Nat.le_refl _)
      clear hb b2 s2 V2 A1 u0
      have u1 := Kn.get s3.out 0 1 rfl rfl
      obtain ⟨t, ht⟩ : ∃ t, Hid (fitA x.k x.v = t) := ⟨_, rfl⟩
      rcases hf with ⟨p, q, lo, hi, rfl, hk, hF⟩ | ⟨p, m, rfl, hk, hF⟩
      · have F3 := one_fun lo hi x.v _ p q w3 hk V3
        have en := eql_fit1 p q
        rw [← hF x.v] at F3
        clear hk hF
        go_wp2_with fail
        refine F3.mono ?_
        rintro e w4 ⟨rfl, hb⟩
        have b4 : Hid (Below w.heap.size w w4) := b3.out.trans (hb.mono b3.out.size)
        have s4 : Hid (Kn w4 [(wr.heap.size, [.int .i64 x.k, .slice xa x.v.length xc]), (w.heap.size, thC (l.take j))]) := s3.out.up hb
        clear b3 s3 V3 u1
        clear hb F3 en
        rw [ht.out]
        cases t with
        | false =>
          have e1 := no.out.trans (fltL_bad (bad_form gk.out ht.out) (by decide))
          clear s4 no
          go_wp2_with fail
          go_ret
          exact ⟨by first | rfl | (rw [e1]; rfl), b4.out⟩
        | true =>
          obtain ⟨i, hi⟩ : ∃ i : Nat, Hid (x.k = (i : Int)) := ⟨x.k.toNat, by show _ = _; have := gk.out; omega⟩
          have HI : Hid (i < 19) := by show _ < _; have := gk.out; have := hi.out; omega
          have y0 : (0 : Int) ≤ (i : Int) := by omega
          have y19 : (i : Int) < 19 := by have := HI.out; omega
          have v0 := Kn.get s4.out 0 0 rfl rfl
          rw [hi.out] at v0
          have gx := Kn.get s4.out 1 i rfl (thC_get _ i HI.out)
          by_cases d : thF (l.take j) i = true
          · have e1 := no.out.trans (fltL_bad (by
              obtain ⟨y, hy, e⟩ := thF_mem hi.out d
              exact bad_twice gk.out ht.out hy e) (by decide))
            rw [d] at gx
            clear s4 no
            go_wp2_with fail
            go_ret
            exact ⟨by first | rfl | (rw [e1]; rfl), b4.out⟩
          · have D : Hid (thF (l.take j) i = false) := by show _ = _; simpa using d
            rw [D.out] at gx
            have zx := Kn.fz s4.out 1 rfl
            have etk : l.take (j + 1) = l.take j ++ [x] := by rw [List.take_add_one, hx.out]; rfl
            have no' : Hid (fltL [] l = fltL (l.take (j + 1)) (l.drop (j + 1))) := by
              show _ = _
              rw [no.out, fltL_next (bad_none gk.out ht.out (thF_out hi.out D.out)), etk]
            have s5 : Hid (Kn (w4.setCell ⟨w.heap.size, i, none⟩ (.bool true)) [(w.heap.size, thC (l.take (j + 1)))]) := by
              have := (Kn.set (L := [(wr.heap.size, [.int .i64 x.k, .slice xa x.v.length xc])]) (s4.out.front 1 rfl) i (.bool true) (by rw [thC_length]; exact HI.out)).drop 1
              rw [thC_set _ x i hi.out, ← etk] at this
              exact this
            have b5 : Hid (Below w.heap.size w (w4.setCell ⟨w.heap.size, i, none⟩ (.bool true))) := b4.out.setCell (p := ⟨w.heap.size, i, none⟩) (Nat.le_refl _) _
            clear s4 b4 no d etk
            go_wp2_with fail
            clear gx zx v0
            go_roundw
            case rel => exact ⟨j + 1, HJ.out, by go_num, no', s5, b5⟩
            case measure => simp [intOf]; have := HJ.out; omega
      · have F3 := most_fun m x.v.length xc xa p w3 hk
        have en := eql_fit2 p
        rw [← hF x.v] at F3
        clear hk hF
        go_wp2_with fail
        refine F3.mono ?_
        rintro e w4 ⟨rfl, hb⟩
        have b4 : Hid (Below w.heap.size w w4) := b3.out.trans (hb.mono b3.out.size)
        have s4 : Hid (Kn w4 [(wr.heap.size, [.int .i64 x.k, .slice xa x.v.length xc]), (w.heap.size, thC (l.take j))]) := s3.out.up hb
        clear b3 s3 V3 u1
        clear hb F3 en
        rw [ht.out]
        cases t with
        | false =>
          have e1 := no.out.trans (fltL_bad (bad_form gk.out ht.out) (by decide))
          clear s4 no
          go_wp2_with fail
          go_ret
          exact ⟨by first | rfl | (rw [e1]; rfl), b4.out⟩
        | true =>
          obtain ⟨i, hi⟩ : ∃ i : Nat, Hid (x.k = (i : Int)) := ⟨x.k.toNat, by show _ = _; have := gk.out; omega⟩
          have HI : Hid (i < 19) := by show _ < _; have := gk.out; have := hi.out; omega
          have y0 : (0 : Int) ≤ (i : Int) := by omega
          have y19 : (i : Int) < 19 := by have := HI.out; omega
          have v0 := Kn.get s4.out 0 0 rfl rfl
          rw [hi.out] at v0
          have gx := Kn.get s4.out 1 i rfl (thC_get _ i HI.out)
          by_cases d : thF (l.take j) i = true
          · have e1 := no.out.trans (fltL_bad (by
              obtain ⟨y, hy, e⟩ := thF_mem hi.out d
              exact bad_twice gk.out ht.out hy e) (by decide))
            rw [d] at gx
            clear s4 no
            go_wp2_with fail
            go_ret
            exact ⟨by first | rfl | (rw [e1]; rfl), b4.out⟩
          · have D : Hid (thF (l.take j) i = false) := by show _ = _; simpa using d
            rw [D.out] at gx
            have zx := Kn.fz s4.out 1 rfl
            have etk : l.take (j + 1) = l.take j ++ [x] := by rw [List.take_add_one, hx.out]; rfl
            have no' : Hid (fltL [] l = fltL (l.take (j + 1)) (l.drop (j + 1))) := by
              show _ = _
              rw [no.out, fltL_next (bad_none gk.out ht.out (thF_out hi.out D.out)), etk]
            have s5 : Hid (Kn (w4.setCell ⟨w.heap.size, i, none⟩ (.bool true)) [(w.heap.size, thC (l.take (j + 1)))]) := by
              have := (Kn.set (L := [(wr.heap.size, [.int .i64 x.k, .slice xa x.v.length xc])]) (s4.out.front 1 rfl) i (.bool true) (by rw [thC_length]; exact HI.out)).drop 1
              rw [thC_set _ x i hi.out, ← etk] at this
              exact this
            have b5 : Hid (Below w.heap.size w (w4.setCell ⟨w.heap.size, i, none⟩ (.bool true))) := b4.out.setCell (p := ⟨w.heap.size, i, none⟩) (Nat.le_refl _) _
            clear s4 b4 no d etk
            go_wp2_with fail
            clear gx zx v0
            go_roundw
            case rel => exact ⟨j + 1, HJ.out, by go_num, no', s5, b5⟩
            case measure => simp [intOf]; have := HJ.out; omega
    · have i1 : ¬ (j : Int) < (n : Int) := by omega
      have e1 : fltL [] l = 0 := by
        rw [no.out, List.drop_of_length_le (by have := HN.out; omega)]
        rfl
      clear hlt hj
      go_wp2_with fail
      go_ret
      exact ⟨by first | rfl | (rw [e1]; rfl), bk.out⟩
set_option maxHeartbeats 1000000 in
theorem check_large (a : Option Addr) (n c : Nat) (h : 24 < n) (w : World) : Calls Try.prog 13 #[.slice a n c] w fun e w' => e = .returned (.int .i64 2) ∧ Below w.heap.size w w' := by
  have g : (n : Int) > 24 := by omega
  clear h
  go_enter Try.func13, Try.ntmps13
  go_wp2_with fail
  go_ret
  exact ⟨rfl, Below.refl _ _⟩
set_option maxHeartbeats 1000000 in
theorem check_nil (a : Option Addr) (c : Nat) (w : World) : Calls Try.prog 13 #[.slice a 0 c] w fun e w' => e = .returned (.int .i64 0) ∧ Below w.heap.size w w' := by
  have b0 : Hid (Below w.heap.size w (w.alloc (.cells thZ.toArray 55))) := (Below.refl _ _).alloc (Nat.le_refl _) _
  go_enter Try.func13, Try.ntmps13
  go_wp2_with (simp only [zero_th])
  refine wp_loop_rounds 1 ?_
  rw [rounds_succ]
  go_wp2_with fail
  go_ret
  exact ⟨rfl, b0.out⟩
/-- Check. -/
theorem atCheckC : AtCheckC := fun v l w _ hv => by -- function 13
  obtain ⟨a, c, rfl⟩ := ats_parts hv
  by_cases h : 24 < l.length
  · have e : fltA l = 2 := if_pos h
    rw [e]
    exact check_large a _ c h w
  · have e : fltA l = fltL [] l := if_neg h
    rw [e]
    by_cases h0 : l.length = 0
    · have el := List.length_eq_zero_iff.1 h0
      subst el
      exact check_nil a c w
    · obtain ⟨b, o, rfl⟩ := hv.addr (by omega)
      exact check_walk l _ rfl (by omega) b o c w hv
end Go.Proofs.Ytepaapiflkkghab
