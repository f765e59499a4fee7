/- slices.IsSortedFunc of attributes, by their kinds. -/
import Derived.Test.YtohliojdmmbcdabQAtL
import Derived.Test.YtohliojdmmbcdabQAtPa
namespace Go.Proofs.Ytohliojdmmbcdab
open Go.RowKit
attribute [local go_sem] World.cell?_alloc_some cell_alloc2 cell_alloc3 cell_alloc4 frozen?_alloc_cells frozen_out
attribute [local go_sem] YieldsP execOp
attribute [local simp] MP.eq_p
set_option linter.unusedSimpArgs false
set_option maxHeartbeats 1000000 in
theorem kinds_fun (k q : Int) (u v : Value) (k1 : 1 ≤ k) (k2 : k ≤ 18) (q1 : 1 ≤ q) (q2 : q ≤ 18) (w : World) : Calls Try.prog 10 #[.agg #[.int .i64 k, u], .agg #[.int .i64 q, v]] w fun e w' => e = .returned (.int .i64 (k - q)) ∧ Below w.heap.size w w' := by
  have s1 : Hid (Kn ((w.alloc (.cells #[.int .i64 k, u] 37)).alloc (.cells #[.int .i64 q, v] 37)) [(w.heap.size + 1, [.int .i64 q, v]), (w.heap.size, [.int .i64 k, u])]) := ((Kn.nil w).al [.int .i64 k, u] 37 rfl).al [.int .i64 q, v] 37 (by simp)
  have b1 : Hid (Below w.heap.size w ((w.alloc (.cells #[.int .i64 k, u] 37)).alloc (.cells #[.int .i64 q, v] 37))) := ((Below.refl _ _).alloc (Nat.le_refl _) _).alloc (by simp) _
  have u0 := Kn.get s1.out 0 0 rfl rfl
  have u1 := Kn.get s1.out 1 0 rfl rfl
  go_enter Try.func10, Try.ntmps10
  go_wp2_with fail
  go_ret
  exact ⟨rfl, b1.out⟩
set_option maxRecDepth 20000 in
set_option maxHeartbeats 2000000 in
theorem sorted_walk (l : List Ar) (n : Nat) (hn : l.length = n) (n0 : 0 < n) (n24 : n ≤ 24) (b o c : Nat) (r : Bool) (hr : r = true ↔ ∀ i, i + 1 < n → (l.getD i ar0).k ≤ (l.getD (i + 1) ar0).k) (w : World) (HA : Hid (Ats w (.slice (some ⟨b, o, none⟩) n c) l)) (HM : Hid (∀ x ∈ l, 1 ≤ x.k ∧ x.k ≤ 18)) :
    Calls Try.prog 9 #[.slice (some ⟨b, o, none⟩) n c, .func (.func 10) #[] #[]] w fun e w' => e = .returned (.bool r) ∧ Below w.heap.size w w' := by
  have HN : Hid (l.length = n ∧ (n : Int) ≤ 24) := ⟨hn, by omega⟩
  have HR : Hid _ := hr
  obtain ⟨d, rfl⟩ : ∃ d, n = d + 1 := ⟨n - 1, by omega⟩
  have d0 : ((d + 1 : Nat) : Int) - 1 = (d : Int) := by omega
  have d1 : (d : Int) ≤ 24 := by omega
  clear hn n0 n24 hr
  go_enter Try.func9, Try.ntmps9
  go_wp2_with fail
  go_loopw [5] (fun i wr => ∃ j : Nat, j ≤ d ∧ i = .int .i64 (j : Int) ∧ Hid (∀ i, j ≤ i → i + 1 < d + 1 → (l.getD i ar0).k ≤ (l.getD (i + 1) ar0).k) ∧ Hid (Below w.heap.size w wr)) (fun i _ => (intOf i).toNat)
  case atStart => exact ⟨d, Nat.le_refl _, rfl, fun i h1 h2 => by omega, Below.refl _ _⟩
  case round =>
    clear d0
    obtain ⟨j, hj, rfl, no, bk⟩ := hrel
    cases j with
    | succ p =>
      have HJ : Hid (p < d) := hj
      have ec : ((p + 1 : Nat) : Int) = (p : Int) + 1 := rfl
      rw [ec]
      have g0 : (p : Int) + 1 > 0 := by omega
      have i0 : (0 : Int) ≤ (p : Int) + 1 := by omega
      have hpd : p < d := hj
      have wp : IntKind.i64.wrap (p : Int) = (p : Int) := by rw [IntKind.wrap_i64]; omega
      have ip : ((p : Int) + 1).toNat = p + 1 := by omega
      have is : (p : Int) + 1 - 1 = (p : Int) := by omega
      have j0 : (0 : Int) ≤ (p : Int) := by omega
      have j1 : (p : Int) < (d : Int) + 1 := by omega
      obtain ⟨x, hx⟩ : ∃ x, Hid (l[p + 1]? = some x) := ⟨l[p + 1]'(by have := HN.out; omega), List.getElem?_eq_getElem _⟩
      obtain ⟨y, hy⟩ : ∃ y, Hid (l[p]? = some y) := ⟨l[p]'(by have := HN.out; omega), List.getElem?_eq_getElem _⟩
      obtain ⟨xa, xc, ex⟩ := (HA.out.up bk.out (Nat.le_refl _)).elem hx.out
      obtain ⟨ya, yc, ey⟩ := (HA.out.up bk.out (Nat.le_refl _)).elem hy.out
      have EX : Hid (AtE wr b (o + (p + 1) * 2) x xa xc) := ex
      have EY : Hid (AtE wr b (o + p * 2) y ya yc) := ey
      have KX : Hid _ := HM.out x (List.mem_of_getElem? hx.out)
      have KY : Hid _ := HM.out y (List.mem_of_getElem? hy.out)
      have DX : Hid (l.getD (p + 1) ar0 = x) := by show _ = _; rw [List.getD_eq_getElem?_getD, hx.out]; rfl
      have DY : Hid (l.getD p ar0 = y) := by show _ = _; rw [List.getD_eq_getElem?_getD, hy.out]; rfl
      clear hj ex ey ec
      by_cases ht : x.k - y.k < 0
      · have e1 : r = false := by
          cases hr : r with
          | false => rfl
          | true =>
            have := HR.out.1 hr p (by have := HJ.out; omega)
            rw [DX.out, DY.out] at this
            omega
        clear no
        go_wp2_with fail
        refine wp_region_monoE [MP.eq (.func (.func 10) #[] #[]), MP.eq (.slice (some ⟨b, o, none⟩) (d + 1) c), MP.eq (.int .i64 ((p : Int) + 1)), MP.eq (.pointer (some ⟨b, o + (p + 1) * 2, none⟩)), MP.eq (.agg #[.int .i64 x.k, .slice xa x.v.length xc]), MP.eq (.slice (some ⟨b, o, none⟩) (d + 1) c), MP.eq (.int .i64 ((p : Int) + 1)), MP.eq (.int .i64 (p : Int)), MP.eq (.pointer (some ⟨b, o + p * 2, none⟩)), MP.eq (.agg #[.int .i64 y.k, .slice ya y.v.length yc]), MP.eq (.int .i64 (x.k - y.k)), MP.eq (.bool true)] (by kernel_rfl) (by kernel_rfl) rfl ?_
        apply Exists.intro
        refine ⟨fun vals => ?_, ?_, fun vals2 w2 hb2 hF => ?_⟩
        · simp only [putsV, dstL, List.length_cons, List.length_nil, Nat.zero_add, Nat.reduceAdd, List.getElem?_cons_zero, List.getElem?_cons_succ, Option.bind_some, Act.put, List.setIfInBounds_toArray, List.set_cons_succ, List.set_cons_zero]
          rfl
        · refine ⟨?_, ?_, ?_, ?_, ?_, ?_, ?_, ?_, ?_, ?_, ?_, ?_, trivial⟩
          · intro vals W hW hw hd
            try simp [Region.binds] at hd
            refine ⟨by first | rfl | simp [Region.wanted, yielded, hd], ?_⟩
            simp [go_sem, hd]
            exact Below.refl _ _
          · intro vals W hW hw hd
            try simp [Region.binds] at hd
            refine ⟨by first | rfl | simp [Region.wanted, yielded, hd], ?_⟩
            simp [go_sem, hd]
            exact Below.refl _ _
          · intro vals W hW hw hd
            try simp [Region.binds] at hd
            refine ⟨by first | rfl | simp [Region.wanted, yielded, hd], ?_⟩
            simp [go_sem, hd]
            exact Below.refl _ _
          · intro vals W hW hw hd
            try simp [Region.binds] at hd
            refine ⟨by first | rfl | simp [Region.wanted, yielded, hd], ?_⟩
            simp [go_sem, hd, i0, hpd, ip]
            exact Below.refl _ _
          · intro vals W hW hw hd
            try simp [Region.binds] at hd
            refine ⟨by first | rfl | simp [Region.wanted, yielded, hd], ?_⟩
            exact yields_ldR 37 _ rfl b (o + (p + 1) * 2) (by first | exact hd | exact hd.1 | exact hd.2 | exact hd.2.1 | exact hd.2.2 | exact hd.2.2.1 | exact hd.2.2.2 | exact hd.2.2.2.1 | exact hd.2.2.2.2) [.int .i64 x.k, .slice xa x.v.length xc] _ (EX.out.up hW.out).rng u_attr rfl (info_attr _ _)
          · intro vals W hW hw hd
            try simp [Region.binds] at hd
            refine ⟨by first | rfl | simp [Region.wanted, yielded, hd], ?_⟩
            simp [go_sem, hd]
            exact Below.refl _ _
          · intro vals W hW hw hd
            try simp [Region.binds] at hd
            refine ⟨by first | rfl | simp [Region.wanted, yielded, hd], ?_⟩
            simp [go_sem, hd]
            exact Below.refl _ _
          · intro vals W hW hw hd
            try simp [Region.binds] at hd
            refine ⟨by first | rfl | simp [Region.wanted, yielded, hd], ?_⟩
            simp [go_sem, hd, is, wp]
            exact Below.refl _ _
          · intro vals W hW hw hd
            try simp [Region.binds] at hd
            refine ⟨by first | rfl | simp [Region.wanted, yielded, hd], ?_⟩
            simp [go_sem, hd, j0, j1]
            exact Below.refl _ _
          · intro vals W hW hw hd
            try simp [Region.binds] at hd
            refine ⟨by first | rfl | simp [Region.wanted, yielded, hd], ?_⟩
            exact yields_ldR 37 _ rfl b (o + p * 2) (by first | exact hd | exact hd.1 | exact hd.2 | exact hd.2.1 | exact hd.2.2 | exact hd.2.2.1 | exact hd.2.2.2 | exact hd.2.2.2.1 | exact hd.2.2.2.2) [.int .i64 y.k, .slice ya y.v.length yc] _ (EY.out.up hW.out).rng u_attr rfl (info_attr _ _)
          · intro vals W hW hw hd
            try simp [Region.binds] at hd
            refine ⟨by first | rfl | simp [Region.wanted, yielded, hd], ?_⟩
            simp [go_sem, hd]
            exact (kinds_fun x.k y.k _ _ KX.out.1 KX.out.2 KY.out.1 KY.out.2 W).mono fun e w' ⟨he, hb⟩ => ⟨_, he, rfl, hb⟩
          · intro vals W hW hw hd
            try simp [Region.binds] at hd
            refine ⟨by first | rfl | simp [Region.wanted, yielded, hd], ?_⟩
            simp [go_sem, hd, ht]
            exact Below.refl _ _
        obtain ⟨f0, f1, f2, f3, f4, f5, f6, f7, f8, f9, f10, f11, _⟩ := hF
        simp only [MP.eq_p] at f0 f1 f2 f3 f4 f5 f6 f7 f8 f9 f10 f11
        have b2 : Hid (Below w.heap.size w w2) := bk.out.trans (hb2.out.mono bk.out.size)
        rw [f11]
        clear f0 f1 f2 f3 f4 f5 f6 f7 f8 f9 f10 f11 hb2 EX EY bk ht
        go_wp2_with fail
        go_ret
        exact ⟨by first | rfl | (rw [e1]; rfl), b2.out⟩
      · have no' : Hid (∀ i, p ≤ i → i + 1 < d + 1 → (l.getD i ar0).k ≤ (l.getD (i + 1) ar0).k) := fun i h1 h2 => by
          by_cases e : i = p
          · rw [e, DX.out, DY.out]
            omega
          · exact no.out i (by omega) h2
        have hle : y.k ≤ x.k := by omega
        clear no ht
        have ht := hle
        clear hle
        go_wp2_with fail
        refine wp_region_monoE [MP.eq (.func (.func 10) #[] #[]), MP.eq (.slice (some ⟨b, o, none⟩) (d + 1) c), MP.eq (.int .i64 ((p : Int) + 1)), MP.eq (.pointer (some ⟨b, o + (p + 1) * 2, none⟩)), MP.eq (.agg #[.int .i64 x.k, .slice xa x.v.length xc]), MP.eq (.slice (some ⟨b, o, none⟩) (d + 1) c), MP.eq (.int .i64 ((p : Int) + 1)), MP.eq (.int .i64 (p : Int)), MP.eq (.pointer (some ⟨b, o + p * 2, none⟩)), MP.eq (.agg #[.int .i64 y.k, .slice ya y.v.length yc]), MP.eq (.int .i64 (x.k - y.k)), MP.eq (.bool false)] (by kernel_rfl) (by kernel_rfl) rfl ?_
        apply Exists.intro
        refine ⟨fun vals => ?_, ?_, fun vals2 w2 hb2 hF => ?_⟩
        · simp only [putsV, dstL, List.length_cons, List.length_nil, Nat.zero_add, Nat.reduceAdd, List.getElem?_cons_zero, List.getElem?_cons_succ, Option.bind_some, Act.put, List.setIfInBounds_toArray, List.set_cons_succ, List.set_cons_zero]
          rfl
        · refine ⟨?_, ?_, ?_, ?_, ?_, ?_, ?_, ?_, ?_, ?_, ?_, ?_, trivial⟩
          · intro vals W hW hw hd
            try simp [Region.binds] at hd
            refine ⟨by first | rfl | simp [Region.wanted, yielded, hd], ?_⟩
            simp [go_sem, hd]
            exact Below.refl _ _
          · intro vals W hW hw hd
            try simp [Region.binds] at hd
            refine ⟨by first | rfl | simp [Region.wanted, yielded, hd], ?_⟩
            simp [go_sem, hd]
            exact Below.refl _ _
          · intro vals W hW hw hd
            try simp [Region.binds] at hd
            refine ⟨by first | rfl | simp [Region.wanted, yielded, hd], ?_⟩
            simp [go_sem, hd]
            exact Below.refl _ _
          · intro vals W hW hw hd
            try simp [Region.binds] at hd
            refine ⟨by first | rfl | simp [Region.wanted, yielded, hd], ?_⟩
            simp [go_sem, hd, i0, hpd, ip]
            exact Below.refl _ _
          · intro vals W hW hw hd
            try simp [Region.binds] at hd
            refine ⟨by first | rfl | simp [Region.wanted, yielded, hd], ?_⟩
            exact yields_ldR 37 _ rfl b (o + (p + 1) * 2) (by first | exact hd | exact hd.1 | exact hd.2 | exact hd.2.1 | exact hd.2.2 | exact hd.2.2.1 | exact hd.2.2.2 | exact hd.2.2.2.1 | exact hd.2.2.2.2) [.int .i64 x.k, .slice xa x.v.length xc] _ (EX.out.up hW.out).rng u_attr rfl (info_attr _ _)
          · intro vals W hW hw hd
            try simp [Region.binds] at hd
            refine ⟨by first | rfl | simp [Region.wanted, yielded, hd], ?_⟩
            simp [go_sem, hd]
            exact Below.refl _ _
          · intro vals W hW hw hd
            try simp [Region.binds] at hd
            refine ⟨by first | rfl | simp [Region.wanted, yielded, hd], ?_⟩
            simp [go_sem, hd]
            exact Below.refl _ _
          · intro vals W hW hw hd
            try simp [Region.binds] at hd
            refine ⟨by first | rfl | simp [Region.wanted, yielded, hd], ?_⟩
            simp [go_sem, hd, is, wp]
            exact Below.refl _ _
          · intro vals W hW hw hd
            try simp [Region.binds] at hd
            refine ⟨by first | rfl | simp [Region.wanted, yielded, hd], ?_⟩
            simp [go_sem, hd, j0, j1]
            exact Below.refl _ _
          · intro vals W hW hw hd
            try simp [Region.binds] at hd
            refine ⟨by first | rfl | simp [Region.wanted, yielded, hd], ?_⟩
            exact yields_ldR 37 _ rfl b (o + p * 2) (by first | exact hd | exact hd.1 | exact hd.2 | exact hd.2.1 | exact hd.2.2 | exact hd.2.2.1 | exact hd.2.2.2 | exact hd.2.2.2.1 | exact hd.2.2.2.2) [.int .i64 y.k, .slice ya y.v.length yc] _ (EY.out.up hW.out).rng u_attr rfl (info_attr _ _)
          · intro vals W hW hw hd
            try simp [Region.binds] at hd
            refine ⟨by first | rfl | simp [Region.wanted, yielded, hd], ?_⟩
            simp [go_sem, hd]
            exact (kinds_fun x.k y.k _ _ KX.out.1 KX.out.2 KY.out.1 KY.out.2 W).mono fun e w' ⟨he, hb⟩ => ⟨_, he, rfl, hb⟩
          · intro vals W hW hw hd
            try simp [Region.binds] at hd
            refine ⟨by first | rfl | simp [Region.wanted, yielded, hd], ?_⟩
            simp [go_sem, hd, ht]
            exact Below.refl _ _
        obtain ⟨f0, f1, f2, f3, f4, f5, f6, f7, f8, f9, f10, f11, _⟩ := hF
        simp only [MP.eq_p] at f0 f1 f2 f3 f4 f5 f6 f7 f8 f9 f10 f11
        have b2 : Hid (Below w.heap.size w w2) := bk.out.trans (hb2.out.mono bk.out.size)
        rw [f11]
        clear f0 f1 f2 f3 f4 f5 f6 f7 f8 f9 f10 f11 hb2 EX EY bk ht
        go_wp2_with fail
        go_roundw
        case rel => exact ⟨p, Nat.le_of_lt HJ.out, by first | rfl | go_num, no', b2⟩
        case measure => simp [intOf]
    | zero =>
      have e1 : r = true := HR.out.2 fun i h => no.out i (Nat.zero_le _) h
      clear hj
      go_wp2_with fail
      go_ret
      exact ⟨by first | rfl | (rw [e1]; rfl), bk.out⟩
set_option maxHeartbeats 1000000 in
theorem sorted_nil (a : Option Addr) (c : Nat) (f : Value) (w : World) : Calls Try.prog 9 #[.slice a 0 c, f] w fun e w' => e = .returned (.bool true) ∧ Below w.heap.size w w' := by
  go_enter Try.func9, Try.ntmps9
  go_wp2_with fail
  refine wp_loop_rounds 1 ?_
  rw [rounds_succ]
  go_wp2_with fail
  go_ret
  exact ⟨rfl, Below.refl _ _⟩
theorem rise_steps {l : List Ar} (hd : (l.map Ar.k).Nodup) : riseB l = true ↔ ∀ i, i + 1 < l.length → (l.getD i ar0).k ≤ (l.getD (i + 1) ar0).k := by
  have gd : ∀ i (h : i < l.length), l.getD i ar0 = l[i] := fun i h => by rw [List.getD_eq_getElem?_getD, List.getElem?_eq_getElem h]; rfl
  unfold riseB
  rw [decide_eq_true_iff, List.pairwise_map]
  constructor
  · intro h i hi
    have := List.pairwise_iff_getElem.1 h i (i + 1) (by omega) hi (by omega)
    rw [gd i (by omega), gd (i + 1) hi]
    omega
  · intro h
    have le : ∀ m i (hi : i + m < l.length), (l[i]'(by omega)).k ≤ (l[i + m]'hi).k := fun m => by
      induction m with
      | zero => exact fun i hi => Int.le_refl _
      | succ m ih =>
        intro i hi
        have h1 := ih i (by omega)
        have h2 := h (i + m) hi
        rw [gd (i + m) (by omega), gd (i + m + 1) hi] at h2
        exact Int.le_trans h1 h2
    refine List.pairwise_iff_getElem.2 fun i j hi hj hij => ?_
    obtain ⟨m, rfl⟩ : ∃ m, j = i + m := ⟨j - i, by omega⟩
    have h1 := le m i hj
    have h2 : l[i].k ≠ l[i + m].k := fun e => by
      have := List.pairwise_iff_getElem.1 (List.pairwise_map.1 hd) i (i + m) hi hj hij
      exact this e
    omega
/-- IsSortedFunc by kinds: do they rise? -/
theorem sorted_fun (l : List Ar) (h24 : l.length ≤ 24) (h : goodA l) (v : Value) (w : World) (hv : Ats w v l) :
    Calls Try.prog 9 #[v, .func (.func 10) #[] #[]] w fun e w' => e = .returned (.bool (riseB l)) ∧ Below w.heap.size w w' := by
  obtain ⟨a, c, rfl⟩ := ats_parts hv
  by_cases h0 : l.length = 0
  · have el := List.length_eq_zero_iff.1 h0
    subst el
    exact sorted_nil a c _ w
  · obtain ⟨b, o, rfl⟩ := hv.addr (by omega)
    exact sorted_walk l _ rfl (by omega) h24 b o c _ (rise_steps h.2) w hv fun x hx => ⟨(h.1 x hx).1, (h.1 x hx).2.1⟩
end Go.Proofs.Ytohliojdmmbcdab
